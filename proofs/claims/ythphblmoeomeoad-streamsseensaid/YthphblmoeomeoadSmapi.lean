/-
  SMALL LAWS on a map of numbers. No claim by itself.
-/
import Derived.Test.YthphblmoeomeoadSdev2
namespace Go.Proofs.Ythphblmoeomeoad
open Go.RowKit Go.Maps
theorem key_ne {a b : Int} (h : a ≠ b) : (Lit.int .i64 a) ≠ (Lit.int .i64 b) := fun e => h (by cases e; rfl)
theorem hasI_put (D : Dat) (hD : IsMap D) (id s id' : Int) : hasI (putI D id s) id' = if id' = id then true else hasI D id' := by
  unfold hasI putI
  split
  · rename_i h
    subst h
    exact has_put_same (k := .int .i64 id') hD trivial _
  · rename_i h
    exact has_put_other (key_ne h) _
theorem hasI_del (D : Dat) (id id' : Int) : hasI (delI D id) id' = if id' = id then false else hasI D id' := by
  unfold hasI delI
  split
  · rename_i h
    subst h
    exact has_del_same
  · rename_i h
    exact has_del_other (key_ne h)
theorem atI_put (D : Dat) (hD : IsMap D) (id s id' : Int) : atI (putI D id s) id' = if id' = id then s else atI D id' := by
  unfold atI putI
  split
  · rename_i h
    subst h
    rw [atKey_put_same (k := .int .i64 id') hD trivial]
    rfl
  · rename_i h
    rw [atKey_put_other (key_ne h)]
theorem atI_del (D : Dat) (id id' : Int) (h : id' ≠ id) : atI (delI D id) id' = atI D id' := by
  unfold atI delI
  rw [atKey_del_other (key_ne h)]
theorem sizeI_put (D : Dat) (hD : Tidy D) (id s : Int) : Maps.size (putI D id s) = if hasI D id = true then Maps.size D else Maps.size D + 1 := size_put hD _
theorem sizeI_del (D : Dat) (hD : Tidy D) (id : Int) : Maps.size (delI D id) + (if hasI D id = true then 1 else 0) = Maps.size D := size_del hD
end Go.Proofs.Ythphblmoeomeoad
