/-
  CONTRACTS of the methods All and Find of tollref1.T. No claim by itself.
-/
import Derived.Test.YtkjfhgoddhigmabDoorTtab
import Derived.Laws.AppendOwnNone
import Derived.Deep.QuietTactic
import Derived.BigQuiet
import Derived.Deep.RegionHeld3
namespace Go.Proofs.YtkjfhgoddhigmabDoor
open Go.RowKit
theorem infoF : (Tryd.prog.info? 36).map (fun i => (i.zero, i.size, i.bytes)) = some (some (.agg #[.string ⟨#[]⟩, .string ⟨#[]⟩]), 2, 32) := by kernel_rfl
theorem rshrink_nil (tb : Nat) (most : Int) (w : World) (h0 : w.cell? ⟨tb, 0, none⟩ = some (.slice none 0 0)) (hf : w.frozen? ⟨tb, 0, none⟩ = false) :
    Calls Tryd.prog 11 #[.pointer (some ⟨tb, 0, none⟩), .int .i64 most] w fun e w' => e = .returned (.tuple #[]) ∧ w' = w.setCell ⟨tb, 0, none⟩ (.slice none 0 0) := by
  go_enter Tryd.func11, Tryd.ntmps11
  go_wp2_with fail
  refine wp_loop_rounds 1 ?_
  rw [rounds_succ]
  go_wp2
  go_end0
  exact ⟨rfl, rfl⟩
theorem fcells_get {w : World} {g off len cap : Nat} {L : List (ByteArray × ByteArray)} (h : FRow w g off len cap L) : ∀ j u, (fcells L)[j]? = some u → w.cell? ((⟨g, off, none⟩ : Addr).add j) = some u := by
  intro j u hu
  have hj : j < L.length * 2 := by
    rw [← fcells_len]
    rcases Nat.lt_or_ge j (fcells L).length with h | h
    · exact h
    · rw [List.getElem?_eq_none h] at hu; cases hu
  have hplain : (⟨g, off, none⟩ : Addr).add j = ⟨g, off + j, none⟩ := by unfold Addr.add; split <;> simp_all
  rw [hplain]
  have ht : j / 2 < L.length := by omega
  have hc := fcells_at L (j / 2) ht
  have hl := h.hlen
  rcases Nat.mod_two_eq_zero_or_one j with hm | hm
  · have ej : j = 2 * (j / 2) := by omega
    rw [ej, hc.1] at hu
    have h1 := h.hname (j / 2) (by omega)
    rw [show off + j = off + j / 2 * 2 from by omega, h1]; exact hu
  · have ej : j = 2 * (j / 2) + 1 := by omega
    rw [ej, hc.2] at hu
    have h1 := h.hvalue (j / 2) (by omega)
    rw [show off + j = off + j / 2 * 2 + 1 from by omega, h1]; exact hu
theorem fcells_one (L : List (ByteArray × ByteArray)) : ∀ u ∈ fcells L, u.oneCell' = true := by
  intro u hu
  obtain ⟨f, _, hf⟩ := List.mem_flatMap.1 hu
  simp at hf
  rcases hf with rfl | rfl <;> rfl
/-- A row of fields that the call itself made. -/
theorem frow_of {w : World} {base g n cap : Nat} {L : List (ByteArray × ByteArray)} (hl : L.length = n) (h : w.ownsRow base 36 2 (.slice (some ⟨g, 0, none⟩) n cap) n (fcells L)) : FRow w g 0 n cap L := by
  have hcap : n ≤ cap ∧ cap ≤ maxLen := by
    obtain ⟨_, ⟨hv, _⟩ | ⟨g', cap', cur, hv, _, _, hc, hm, _⟩⟩ := h
    · cases hv
    · cases hv; exact ⟨hc, hm⟩
  refine ⟨hl, hcap.1, hcap.2, fun t ht => ?_, fun t ht => ?_⟩
  · have hc := h.cellAt (2 * t) (by omega)
    rw [show 0 + t * 2 = 2 * t from by omega, hc, (fcells_at L t (by omega)).1]
  · have hc := h.cellAt (2 * t + 1) (by omega)
    rw [show 0 + t * 2 + 1 = 2 * t + 1 from by omega, hc, (fcells_at L t (by omega)).2]
set_option maxHeartbeats 1000000 in
theorem rall_row (tb g cap : Nat) (A : List (ByteArray × ByteArray)) (w : World) (h0 : w.cell? ⟨tb, 0, none⟩ = some (.slice (some ⟨g, 0, none⟩) A.length cap))
    (hr : FRow w g 0 A.length cap A) (hn : A.length ≤ 1048576) :
    Calls Tryd.prog 15 #[.pointer (some ⟨tb, 0, none⟩)] w fun e w' => ∃ gg cc, e = .returned (.slice (some ⟨gg, 0, none⟩) (12 + A.length) cc) ∧ FRow w' gg 0 (12 + A.length) cc (alwaysL ++ A) ∧ Below w.heap.size w w' := by
  obtain ⟨i0, hi, hz0, hz1, hz2⟩ := info_parts infoF
  have htb : tb < w.heap.size := by
    rcases Nat.lt_or_ge tb w.heap.size with h1 | h1
    · exact h1
    · simp [World.cell?, Array.getElem?_eq_none h1] at h0
  go_enter Tryd.func15, Tryd.ntmps15
  go_wp2_with fail
  refine (ralways_any w).mono ?_
  rintro e w1 ⟨g1, rfl, ho1, hb1⟩
  have s1 := hb1.size
  have h01 : w1.cell? ⟨tb, 0, none⟩ = some (.slice (some ⟨g, 0, none⟩) A.length cap) := (hb1.cell (p := ⟨tb, 0, none⟩) htb).trans h0
  have hr1 := hr.below hb1
  have HC : Hid (∀ j u, (fcells A)[j]? = some u → w1.cell? ((⟨g, 0, none⟩ : Addr).add j) = some u) := fcells_get hr1
  have HL : Hid ((fcells A).length = A.length * 2) := fcells_len A
  go_wp2_with (at_builtin; refine wpList_append_own _ rfl _ _ 22 rfl w.heap.size 36 i0 _ 2 32 Tryd.underlying22 hi hz0 hz1 hz2 rfl (by decide) _ _ _ rfl ho1 ⟨g, 0, none⟩ A.length cap (fcells A) rfl HL.out HC.out (fcells_one A) ?c3 ?c4 ?c5 ?_)
  case c3 => unfold maxLen; omega
  case c4 => omega
  case c5 => omega
  intro v' w3 hown' hgrow _
  have hb3 : Below w.heap.size w w3 := hb1.grown hgrow (by omega) (fun k hk => (ho1.lt k hk).1)
  have hsh : ∃ gg cc, v' = .slice (some ⟨gg, 0, none⟩) (12 + A.length) cc := by
    obtain ⟨_, ⟨_, h0⟩ | ⟨g', cap', cur, hv, _⟩⟩ := id hown'
    · omega
    · exact ⟨g', cap', hv⟩
  obtain ⟨gg, cc, rfl⟩ := hsh
  rw [← fcells_append] at hown'
  have hfr := frow_of (by rw [List.length_append]; rfl) hown'
  clear hown' hgrow
  go_wp2
  go_ret
  exact ⟨gg, cc, rfl, hfr, hb3⟩
set_option maxHeartbeats 1000000 in
theorem rall_nil (tb : Nat) (w : World) (h0 : w.cell? ⟨tb, 0, none⟩ = some (.slice none 0 0)) :
    Calls Tryd.prog 15 #[.pointer (some ⟨tb, 0, none⟩)] w fun e w' => ∃ gg cc, e = .returned (.slice (some ⟨gg, 0, none⟩) 12 cc) ∧ FRow w' gg 0 12 cc alwaysL ∧ Below w.heap.size w w' := by
  obtain ⟨i0, hi, hz0, hz1, hz2⟩ := info_parts infoF
  have htb : tb < w.heap.size := by
    rcases Nat.lt_or_ge tb w.heap.size with h1 | h1
    · exact h1
    · simp [World.cell?, Array.getElem?_eq_none h1] at h0
  go_enter Tryd.func15, Tryd.ntmps15
  go_wp2_with fail
  refine (ralways_any w).mono ?_
  rintro e w1 ⟨g1, rfl, ho1, hb1⟩
  have h01 : w1.cell? ⟨tb, 0, none⟩ = some (.slice none 0 0) := (hb1.cell (p := ⟨tb, 0, none⟩) htb).trans h0
  have hfr := frow_of rfl ho1
  go_wp2_with (at_builtin; refine wpList_append_own_none rfl _ _ 22 rfl w.heap.size 36 i0 2 Tryd.underlying22 hi _ _ _ rfl ho1 rfl ?_)
  go_wp2
  go_ret
  exact ⟨g1, 12, rfl, hfr, hb1⟩
end Go.Proofs.YtkjfhgoddhigmabDoor
