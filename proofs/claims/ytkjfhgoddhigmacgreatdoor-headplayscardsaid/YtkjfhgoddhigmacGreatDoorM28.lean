/-
  WHAT HOLDS WHILE tollref1.C's Encode WRITES: the coder, its bytes so far, apart from each other. No claim by itself.
-/
import Derived.Maps.AppendAt
import Derived.Test.YtkjfhgoddhigmacGreatDoorM27
import Derived.Test.YtkjfhgoddhigmacGreatDoorM13
namespace Go.Proofs.YtkjfhgoddhigmacGreatDoor
open Go.RowKit
set_option maxRecDepth 100000
/-- The coder and the bytes that were written so far. -/
structure EB (S : Nat → Prop) (w wx : World) (cb : Nat) (st : CSt) (T : Nat → Prop) (b : Value) (P : List Int) : Prop where
  cod : CodR wx cb st T
  own : wx.ownsRow w.heap.size 5 1 b P.length (P.map (Value.int .u8))
  apart : ∀ k, b.ownBlock = some k → ¬ T k
  off : Off S w wx
  sub : ∀ k, T k → S k ∨ w.heap.size ≤ k
  hcb : cb < w.heap.size
theorem EB.below {S : Nat → Prop} {w wx wy : World} {cb : Nat} {st : CSt} {T : Nat → Prop} {b : Value} {P : List Int} (h : EB S w wx cb st T b P) (hb : Below wx.heap.size wx wy) : EB S w wy cb st T b P :=
  ⟨h.cod.below hb, own_below h.own hb, h.apart, h.off.trans (Off.of_below hb), h.sub, h.hcb⟩
/-- Behind an append to the bytes. -/
theorem EB.app {S : Nat → Prop} {w wx wy : World} {cb : Nat} {st : CSt} {T : Nat → Prop} {b b' : Value} {P X : List Int} {n : Nat} (h : EB S w wx cb st T b P) (hn : n = P.length + X.length) (ho : wy.ownsRow w.heap.size 5 1 b' n (P.map (Value.int .u8) ++ X.map (Value.int .u8))) (hg : wx.grownBy wy b.ownBlock)
    (hat : b'.ownBlock = b.ownBlock ∨ b'.ownBlock = some wx.heap.size) : EB S w wy cb st T b' (P ++ X) := by
  have hs := h.off.size
  refine ⟨h.cod.frame hg.size (fun k hk => hg.block k (h.cod.hlt k hk) (fun e => h.apart k e.symm hk)), by rw [List.length_append, List.map_append, ← hn]; exact ho, fun k hk => ?_, ⟨hg.os.trans h.off.os, hg.tape.trans h.off.tape, hg.output.trans h.off.output, Nat.le_trans hs hg.size, fun k hk hn => (hg.block k (by omega) (fun e => ?_)).trans (h.off.block k hk hn)⟩, h.sub, h.hcb⟩
  · rcases hat with e | e
    · exact h.apart k (e ▸ hk)
    · rw [e] at hk
      intro hT
      have := h.cod.hlt k hT
      simp at hk
      omega
  · have := (h.own.lt k e.symm).1
    omega
/-- Behind what turns the table for what goes out alone. -/
theorem CodR.setOut {w w' : World} {cb : Nat} {st : CSt} {S : Nat → Prop} (h : CodR w cb st S) (hb : But cb 0 w w') (mo : Int) (A : List (ByteArray × ByteArray)) (hT : TabR w' cb 0 mo A (fun q => w.heap.size ≤ q)) :
    CodR w' cb { st with mo := mo, AO := A } (fun k => S k ∨ (w.heap.size ≤ k ∧ k < w'.heap.size)) := by
  obtain ⟨h1, h2, h3, h4, h5, v, h6, h7, h8, h9, h10⟩ := h
  have hl := h2 cb h1
  have hs := hb.size
  refine ⟨Or.inl h1, fun k hk => ?_, (hb.cells 4 (by decide) hl).trans h3, (hb.cells 6 (by decide) hl).trans h4, ⟨(hb.froz 5 hl).trans h5.1, (hb.froz 6 hl).trans h5.2⟩, v, (hb.cells 5 (by decide) hl).trans h6, own_kept h7 (fun k e => hb.block k (h2 k (h8 k e).1) (h8 k e).2), fun k e => ⟨Or.inl (h8 k e).1, (h8 k e).2⟩, ?_, ?_⟩
  · rcases hk with hk | hk
    · have := h2 k hk; omega
    · exact hk.2
  · exact hT.imp (fun q hq hg => ⟨Or.inr ⟨hg, hq⟩, fun e => by have := h2 q (h8 q e).1; omega⟩)
  · exact (h10.same (fun i hi => hb.cells i (by omega) hl) (fun i _ => hb.froz i hl) (fun k hk hn _ => hb.block k hk hn)).imp (fun q _ hg => ⟨Or.inl hg.1, hg.2⟩)
/-- Behind an Add to the table for what goes out. -/
theorem EB.add {S : Nat → Prop} {w wx wy : World} {cb : Nat} {st : CSt} {T : Nat → Prop} {b : Value} {P : List Int} (h : EB S w wx cb st T b P) (hS : S cb) (hb : But cb 0 wx wy) (A : List (ByteArray × ByteArray)) (hT : TabR wy cb 0 st.mo A (fun q => wx.heap.size ≤ q)) :
    ∃ T', EB S w wy cb { st with AO := A } T' b P := by
  have hs := h.off.size
  refine ⟨_, h.cod.setOut hb st.mo A hT, own_kept h.own (fun k e => hb.block k (h.own.lt k e).2 (by have := (h.own.lt k e).1; have := h.hcb; omega)), fun k e hk => ?_, h.off.trans (Off.of_but hb hS), fun k hk => ?_, h.hcb⟩
  · rcases hk with hk | hk
    · exact h.apart k e hk
    · have := (h.own.lt k e).2; omega
  · rcases hk with hk | hk
    · exact h.sub k hk
    · right; omega
theorem CodR.out {w : World} {cb : Nat} {st : CSt} {S : Nat → Prop} (h : CodR w cb st S) : ∃ G : Nat → Prop, TabR w cb 0 st.mo st.AO G := by
  obtain ⟨_, _, _, _, _, v, _, _, _, h9, _⟩ := h
  exact ⟨_, h9⟩
/-- Bytes that Put made, as a row that can be appended. -/
theorem put_row {w w' : World} {n b f : Int} {g cap : Nat} (hok : putOk n b f) (h : w'.ownsRow w.heap.size 5 1 (.slice (some ⟨g, 0, none⟩) (putL n b f).length cap) (putL n b f).length ((putL n b f).map (Value.int .u8))) : Row w' g 0 (putL n b f).length cap (putL n b f) := by
  obtain ⟨c1, c2, h1, h2, h3, h4, h5⟩ := hok
  refine row_of rfl h ?_
  have jb := join_bd b f h1 h2 h3 h4 h5
  have gb := gr_bd b h1 h2
  intro x hx
  unfold putL at hx
  split at hx
  · simp at hx; omega
  · rcases List.mem_cons.1 hx with rfl | hx
    · omega
    · exact rest_byte 5 _ (by omega) x hx
end Go.Proofs.YtkjfhgoddhigmacGreatDoor
