/-
  LISTS OF FIELDS AS BYTES: mathematics. No claim by itself.
-/
import Derived.Laws.AppendOwn
import Derived.Deep.AppendLies
import Derived.Test.YtkjfhgoddhigmacDoorM09
import Derived.Test.YtkjfhgoddhigmacDoorM01
import Derived.Test.YtkjfhgoddhigmacDoorM10
import Derived.Test.YtkjfhgoddhigmacDoorM07
namespace Go.Proofs.YtkjfhgoddhigmacDoor
/-- One field's bytes, where so much was added; what is added then. -/
def enc1 (mx : Int) (A : List (ByteArray × ByteArray)) (f : ByteArray × ByteArray) : List Int × List (ByteArray × ByteArray) :=
  if 0 < fnd (isF f.1 f.2) (alwaysL ++ A) 0 then (putL (fnd (isF f.1 f.2) (alwaysL ++ A) 0 : Nat) 7 128, A)
  else (putL (fnd (isN f.1) (alwaysL ++ A) 0 : Nat) 6 64 ++ ((if fnd (isN f.1) (alwaysL ++ A) 0 = 0 then txtL (nums f.1) else []) ++ txtL (nums f.2)), (addL A f mx).2)
/-- Fields' bytes, one behind the other. -/
def encL (mx : Int) : List (ByteArray × ByteArray) → List (ByteArray × ByteArray) → List Int × List (ByteArray × ByteArray)
  | A, [] => ([], A)
  | A, f :: r => ((enc1 mx A f).1 ++ (encL mx (enc1 mx A f).2 r).1, (encL mx (enc1 mx A f).2 r).2)
theorem encL_snoc (mx : Int) (f : ByteArray × ByteArray) : ∀ (r A : List (ByteArray × ByteArray)), encL mx A (r ++ [f]) = ((encL mx A r).1 ++ (enc1 mx (encL mx A r).2 f).1, (enc1 mx (encL mx A r).2 f).2)
  | [], A => by simp [encL]
  | g :: r, A => by
    have ih := encL_snoc mx f r (enc1 mx A g).2
    show ((enc1 mx A g).1 ++ (encL mx (enc1 mx A g).2 (r ++ [f])).1, (encL mx (enc1 mx A g).2 (r ++ [f])).2) = _
    rw [ih]
    show _ = (((enc1 mx A g).1 ++ (encL mx (enc1 mx A g).2 r).1) ++ _, _)
    rw [List.append_assoc]
    rfl
theorem encL_take (mx : Int) (A L : List (ByteArray × ByteArray)) (k : Nat) (h : k < L.length) : encL mx A (L.take (k + 1)) = ((encL mx A (L.take k)).1 ++ (enc1 mx (encL mx A (L.take k)).2 (L.getD k fnone)).1, (enc1 mx (encL mx A (L.take k)).2 (L.getD k fnone)).2) := by
  have e : L.take (k + 1) = L.take k ++ [L.getD k fnone] := by
    rw [List.take_succ_eq_append_getElem h]
    simp [List.getD, List.getElem?_eq_getElem h]
  rw [e, encL_snoc]
theorem Fit.enc1 {mx : Int} {A : List (ByteArray × ByteArray)} (h : Fit mx A) (f : ByteArray × ByteArray) : Fit mx (enc1 mx A f).2 := by
  unfold Go.Proofs.YtkjfhgoddhigmacDoor.enc1
  split
  · exact h
  · exact h.add f
theorem Fit.encL {mx : Int} : ∀ (r : List (ByteArray × ByteArray)) {A : List (ByteArray × ByteArray)}, Fit mx A → Fit mx (encL mx A r).2
  | [], _, h => h
  | f :: r, _, h => Fit.encL r (h.enc1 f)
/-- A field that may be said. -/
def small (f : ByteArray × ByteArray) : Prop := f.1.size ≤ 400 ∧ f.2.size ≤ 400
theorem enc1_len (mx : Int) (A : List (ByteArray × ByteArray)) (f : ByteArray × ByteArray) (h : small f) : (enc1 mx A f).1.length ≤ 1000 := by
  have h2 := (txt_len (nums f.1) (by rw [show (nums f.1).length = f.1.size by simp [nums]]; exact h.1)).2
  have h3 := (txt_len (nums f.2) (by rw [show (nums f.2).length = f.2.size by simp [nums]]; exact h.2)).2
  unfold enc1
  generalize alwaysL ++ A = L
  generalize fnd (isF f.1 f.2) L 0 = a
  generalize fnd (isN f.1) L 0 = b
  have h0 := (putL_len (a : Int) 7 128).2
  have h1 := (putL_len (b : Int) 6 64).2
  generalize putL (a : Int) 7 128 = P at *
  generalize putL (b : Int) 6 64 = Q at *
  split
  · simp only; omega
  · simp only [List.length_append]
    split
    · omega
    · simp only [List.length_nil]; omega
theorem encL_len (mx : Int) : ∀ (r A : List (ByteArray × ByteArray)), (∀ f ∈ r, small f) → (encL mx A r).1.length ≤ 1000 * r.length
  | [], _, _ => by simp [encL]
  | f :: r, A, h => by
    have h1 := enc1_len mx A f (h f List.mem_cons_self)
    have h2 := encL_len mx r (enc1 mx A f).2 (fun g hg => h g (List.mem_cons_of_mem _ hg))
    show ((enc1 mx A f).1 ++ (encL mx (enc1 mx A f).2 r).1).length ≤ _
    rw [List.length_append, List.length_cons]; omega
/-- The least of sizes. -/
def leastL : Int → List Int → Int
  | m, [] => m
  | m, x :: r => leastL (if x < m then x else m) r
/-- What stands ahead of all, once sizes were asked for. -/
def szL : List Int → List Int
  | [] => []
  | x :: r => putL (leastL x (x :: r)) 5 32 ++ (if leastL x (x :: r) < (x :: r).getLastD 0 then putL ((x :: r).getLastD 0) 5 32 else [])
/-- What is wrong with fields that are to be said. -/
def tooMuch (L : List (ByteArray × ByteArray)) : Prop := 40 < L.length ∨ 2000 < weight L ∨ ∃ f ∈ L, ¬ small f
end Go.Proofs.YtkjfhgoddhigmacDoor
/-
  WHAT A CODER HOLDS, whatever its memory looks like. No claim by itself.
-/
namespace Go.Proofs.YtkjfhgoddhigmacDoor
open Go.RowKit
/-- What a coder holds: both tables, the size at first, the sizes that were asked for, whether it is of no use for reading. -/
structure CSt where
  mo : Int
  mi : Int
  most : Int
  AO : List (ByteArray × ByteArray)
  AI : List (ByteArray × ByteArray)
  sz : List Int
  bad : Bool
/-- What may be. -/
structure CFit (st : CSt) : Prop where
  out : Fit st.mo st.AO
  inn : Fit st.mi st.AI
  hmost : 0 ≤ st.most ∧ st.most ≤ 4096
  hsz : ∀ x ∈ st.sz, 0 ≤ x ∧ x ≤ 4096
  hlen : st.sz.length ≤ 1048576
theorem own_kept {w w' : World} {base e size n : Nat} {v : Value} {xs : List Value} (h : w.ownsRow base e size v n xs) (hk : ∀ k, v.ownBlock = some k → w'.heap[k]? = w.heap[k]?) : w'.ownsRow base e size v n xs := by
  obtain ⟨h1, h2 | ⟨g, cap, cur, hv, hg, hc, r⟩⟩ := h
  · exact ⟨h1, Or.inl h2⟩
  · exact ⟨h1, Or.inr ⟨g, cap, cur, hv, hg, (hk g (by rw [hv]; rfl)).trans hc, r⟩⟩
end Go.Proofs.YtkjfhgoddhigmacDoor
