/-
  WHAT THE TIED VARIABLES GIVE A WALK: the one place of the table of package bits that is read. No claim by itself.
-/
import Derived.Test.YteohgkgahkkjlaaDoorRows
import Derived.Test.YteohgkgahkkjlaaDoorUspec
import Derived.LaidLaws
import Derived.OpenShut
import Derived.ChangeSame
import Derived.ChangeArms
import Derived.FnData
namespace Go.Proofs.YteohgkgahkkjlaaDoor
set_option maxRecDepth 100000
open Go.RowKit Go.ChangeShapes Go.WideShapes
theorem utake_one {l : List Value} {i : Nat} {v : Value} (h : (l.drop i).take 1 = [v]) : l[i]? = some v := by
  have h1 : ((l.drop i).take 1)[0]? = some v := by rw [h]; rfl
  simpa [List.getElem?_take, List.getElem?_drop] using h1
theorem ulaid_of_laid {W : World} {r : List (String × DataW Unit)} (h : laidMet Tryd.prog (("math/bits.deBruijn32tab", Rows.laid_math_bits_deBruijn32tab) :: ("math/bits.deBruijn64tab", Rows.laid_math_bits_deBruijn64tab) :: r) W) : ULaid W := by
  obtain ⟨ps, ⟨_, _, _, _, _, _, _, _, _, _, ⟨g0, t0, cs0, f0, p0, q0, hg0, ht0, hv0, hd0, _, _⟩, _⟩, _, _⟩ := h
  obtain rfl := Option.some.inj ((show Tryd.prog.globalNamed "math/bits.deBruijn64tab" = some 7 by kernel_rfl).symm.trans hg0)
  obtain rfl := Option.some.inj ((show (Tryd.prog.globals[7]?).map (·.type) = some 129 by kernel_rfl).symm.trans ht0)
  have c5 : Tryd.prog.cellsOf 5 = 1 := by kernel_rfl
  obtain ⟨xs, m, rfl, hx, hl, hn, hel⟩ := DataW.trod_array Tryd.underlying129 hd0
  unfold Rows.laid_math_bits_deBruijn64tab at hx
  simp only [Prod.mk.injEq, DataW.agg.injEq] at hx
  have h1 := hel 15 (by decide)
  have hlen : 15 < xs.length := by omega
  rw [List.getElem?_eq_getElem hlen, c5] at h1
  obtain ⟨n, e0, x0, _⟩ := DataW.trod_int Tryd.underlying5 h1
  have hm := congrArg (fun l => l[15]?) hx.1
  simp only [List.getElem?_map, List.getElem?_eq_getElem hlen, Option.map_some] at hm
  rw [x0] at hm
  simp at hm
  subst hm
  have j0 := utake_one e0
  unfold ULaid
  rw [World.var?_cell hg0 hv0, ← Array.getElem?_toList]
  simpa using j0
end Go.Proofs.YteohgkgahkkjlaaDoor
