/-
  WHAT A CODER HOLDS, whatever its memory looks like. No claim by itself.
-/
import Derived.Test.YtkjfhgoddhigmacDoorDtab9
import Derived.Test.YtkjfhgoddhigmacDoorHmath2
import Derived.Laws.AppendOwn
import Derived.Deep.AppendLies
namespace Go.Proofs.YtkjfhgoddhigmacDoor
open Go.RowKit
/-- What a coder holds: both tables, the size at first, the sizes that were asked for, whether it is of no use for reading. -/
structure CSt where
  mo : Int
  mi : Int
  most : Int
  AO : List (ByteArray × ByteArray)
  AI : List (ByteArray × ByteArray)
  sz : List Int
  bad : Bool
/-- What may be. -/
structure CFit (st : CSt) : Prop where
  out : Fit st.mo st.AO
  inn : Fit st.mi st.AI
  hmost : 0 ≤ st.most ∧ st.most ≤ 4096
  hsz : ∀ x ∈ st.sz, 0 ≤ x ∧ x ≤ 4096
  hlen : st.sz.length ≤ 1048576
theorem own_kept {w w' : World} {base e size n : Nat} {v : Value} {xs : List Value} (h : w.ownsRow base e size v n xs) (hk : ∀ k, v.ownBlock = some k → w'.heap[k]? = w.heap[k]?) : w'.ownsRow base e size v n xs := by
  obtain ⟨h1, h2 | ⟨g, cap, cur, hv, hg, hc, r⟩⟩ := h
  · exact ⟨h1, Or.inl h2⟩
  · exact ⟨h1, Or.inr ⟨g, cap, cur, hv, hg, (hk g (by rw [hv]; rfl)).trans hc, r⟩⟩
end Go.Proofs.YtkjfhgoddhigmacDoor
