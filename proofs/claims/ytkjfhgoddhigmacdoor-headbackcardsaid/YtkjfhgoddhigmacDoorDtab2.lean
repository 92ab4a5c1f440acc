/-
  CONTRACTS of the methods Get and Find of the developers' table. No claim by itself.
-/
import Derived.Test.YtkjfhgoddhigmacDoorDtab1
namespace Go.Proofs.YtkjfhgoddhigmacDoor
open Go.RowKit
set_option maxHeartbeats 1000000 in
theorem tget : TGetSaid TabP := by
  intro tb max A S i w hD hF
  unfold tval
  have hAl := hF.len
  have hL : (alwaysL ++ A).length = 12 + A.length := by rw [List.length_append, always_len]
  have hb1 : Below w.heap.size w (w.alloc (.cells #[.string ⟨#[]⟩, .string ⟨#[]⟩] 33)) := (Below.refl _ _).alloc (Nat.le_refl _) _
  have HD1 : Hid (TabP (w.alloc (.cells #[.string ⟨#[]⟩, .string ⟨#[]⟩] 33)) tb max A S) := tabKeeps.below hD hb1
  by_cases h1 : i < 1
  · have hn : ¬ (1 ≤ i ∧ i ≤ ((alwaysL ++ A).length : Int)) := by omega
    clear hD
    go_enter Tryd.func48, Tryd.ntmps48
    go_wp2
    go_returns
    refine ⟨_, rfl, Or.inr ⟨hn, rfl⟩, ?_⟩
    repeat (first | exact Below.refl _ _ | refine Below.setCell ?_ (by simp) _ | refine Below.alloc ?_ (by first | (simp; done) | (simp; omega)) _)
  · have h1' : decide (i < 1) = false := by simp; omega
    by_cases h2 : i ≤ ((12 + A.length : Nat) : Int)
    · obtain ⟨k, rfl⟩ : ∃ k : Nat, i = (k : Int) + 1 := ⟨(i - 1).toNat, by omega⟩
      have hk : k < 12 + A.length := by omega
      have h2' : decide (((12 + A.length : Nat) : Int) < (k : Int) + 1) = false := by simp; omega
      have hy : 1 ≤ (k : Int) + 1 ∧ (k : Int) + 1 ≤ ((alwaysL ++ A).length : Int) := by omega
      have ek : ((k : Int) + 1 - 1).toNat = k := by omega
      have HY : Hid (1 ≤ (k : Int) + 1 ∧ (k : Int) + 1 ≤ ((alwaysL ++ A).length : Int)) := hy
      have hat := at_any tb max A S k _ HD1.out hF hk
      have hlen := len_read tb max A S _ HD1.out hF
      generalize hx : ((12 + A.length : Nat) : Int) = x at *
      have HG : Hid (∀ v, v = .tuple #[.agg #[.string ((alwaysL ++ A).getD k fnone).1, .string ((alwaysL ++ A).getD k fnone).2], .nilIface] → GotAt (alwaysL ++ A) ((k : Int) + 1) v) := fun v hv => Or.inl ⟨HY.out.1, HY.out.2, by rw [hv, ek]; rfl⟩
      clear hD hx hy ek hk hL h2 h1
      generalize (alwaysL ++ A).getD k fnone = f at *
      obtain ⟨n, u⟩ := f
      go_enter Tryd.func48, Tryd.ntmps48
      go_wp2_with fail
      refine hlen.mono ?_
      rintro e w' ⟨rfl, rfl⟩
      go_wp2_with fail
      refine hat.mono ?_
      rintro e w2 ⟨rfl, hb2⟩
      have hs2 := hb2.size
      simp at hs2
      have f0 : w2.frozen? ⟨w.heap.size, 0, none⟩ = false := by rw [hb2.frozen (p := ⟨w.heap.size, 0, none⟩) (by simp)]; simp
      have f1 : w2.frozen? ⟨w.heap.size, 1, none⟩ = false := by rw [hb2.frozen (p := ⟨w.heap.size, 1, none⟩) (by simp)]; simp
      have k0 : w2.cell? ⟨w.heap.size, 0, none⟩ = some (.string ⟨#[]⟩) := by rw [hb2.cell (p := ⟨w.heap.size, 0, none⟩) (by simp)]; simp
      have k1 : w2.cell? ⟨w.heap.size, 1, none⟩ = some (.string ⟨#[]⟩) := by rw [hb2.cell (p := ⟨w.heap.size, 1, none⟩) (by simp)]; simp
      have r0 : (w2.setCell ⟨w.heap.size, 0, none⟩ (.string n)).cell? ⟨w.heap.size, 0, none⟩ = some (.string n) := World.cell?_setCell_same _ _ _ k0
      have r1 : ((w2.setCell ⟨w.heap.size, 0, none⟩ (.string n)).setCell ⟨w.heap.size, 1, none⟩ (.string u)).cell? ⟨w.heap.size, 1, none⟩ = some (.string u) := World.cell?_setCell_same _ _ _ (by rw [World.cell?_setCell_other _ ⟨w.heap.size, 0, none⟩ ⟨w.heap.size, 1, none⟩ _ (by simp)]; exact k1)
      clear hat hlen
      go_wp2
      (try simp only [Exit.inBlock, Exit.then])
      refine bodyPost_ret (by simp [results, Tryd.results48, go_sem, r0, r1]; try rfl) rfl ?_
      refine ⟨_, rfl, HG.out _ rfl, ?_⟩
      exact Below.setCell (Below.setCell (hb1.trans (hb2.mono (by simp))) (by simp) _) (by simp) _
    · have h2' : decide (((12 + A.length : Nat) : Int) < i) = true := by simp; omega
      have hn : ¬ (1 ≤ i ∧ i ≤ ((alwaysL ++ A).length : Int)) := by omega
      have hlen := len_read tb max A S _ HD1.out hF
      generalize hx : ((12 + A.length : Nat) : Int) = x at *
      clear hD hx hL h2 h1
      go_enter Tryd.func48, Tryd.ntmps48
      go_wp2_with fail
      refine hlen.mono ?_
      rintro e w' ⟨rfl, rfl⟩
      clear hlen
      go_wp2
      go_returns
      refine ⟨_, rfl, Or.inr ⟨hn, rfl⟩, ?_⟩
      repeat (first | exact Below.refl _ _ | refine Below.setCell ?_ (by simp) _ | refine Below.alloc ?_ (by first | (simp; done) | (simp; omega)) _)
end Go.Proofs.YtkjfhgoddhigmacDoor
