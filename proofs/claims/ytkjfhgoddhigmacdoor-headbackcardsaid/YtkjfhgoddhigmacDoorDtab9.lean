/-
  CONTRACT of slices.Insert at whatever a table keeps. No claim by itself.
-/
import Derived.Test.YtkjfhgoddhigmacDoorDtab8
namespace Go.Proofs.YtkjfhgoddhigmacDoor
open Go.RowKit
theorem off_grown {w w' : World} {r : Option Nat} (h : w.grownBy w' r) : Off (fun k => r = some k) w w' := ⟨h.os, h.tape, h.output, h.size, fun k hk hn => h.block k hk (fun e => hn e.symm)⟩
/-- slices.Insert of one field at the front of whatever a table keeps. -/
theorem ins_any (tb : Nat) (s : Value) (B : List (ByteArray × ByteArray)) (n v : ByteArray) (vb : Nat) (w : World) (hl : LRow w tb s B) (hv : w.heap[vb]? = some (.cells #[.string n, .string v] 33 (0, 0))) (hvs : s.ownBlock ≠ some vb) (hB : B.length ≤ 1048576) :
    Calls Tryd.prog 35 #[s, .int .i64 0, .slice (some ⟨vb, 0, none⟩) 1 1] w fun e w' => Off (fun k => s.ownBlock = some k) w w' ∧ ∃ g cap cur, e = .returned (.slice (some ⟨g, 0, none⟩) (B.length + 1) cap) ∧ (s.ownBlock = some g ∨ w.heap.size ≤ g) ∧ w'.heap[g]? = some (.cells cur 33 (0, 0)) ∧ B.length + 1 ≤ cap ∧ cap ≤ maxLen ∧ cur.size = cap * 2 ∧ cur.toList.take ((B.length + 1) * 2) = fcells ((n, v) :: B) := by
  rcases hl with ⟨rfl, rfl⟩ | ⟨g, cap, cur, rfl, a1, a2, hg, q1, q2, q3, q4⟩
  · refine (ins_nil n v vb w hv).mono ?_
    rintro e w' ⟨s', rfl, ho, hgr, hn, hb⟩
    refine ⟨off_grown hgr, ?_⟩
    obtain ⟨_, ⟨h2, _⟩ | ⟨g, cap, cur, rfl, _, k1, k2, k3, k4, k5⟩⟩ := ho
    · exact absurd h2 hn
    · simp [Value.ownBlock] at hb
      exact ⟨g, cap, cur, rfl, Or.inr (by omega), k1, k2, k3, k4, k5⟩
  · rcases Nat.eq_zero_or_pos B.length with h0 | h0
    · obtain rfl : B = [] := List.eq_nil_of_length_eq_zero h0
      refine (ins_end n v vb g cap w hv q2 ⟨rfl, Or.inr ⟨g, cap, cur, rfl, Nat.zero_le _, hg, q1, q2, q3, q4⟩⟩).mono ?_
      rintro e w' ⟨s', rfl, ho, hgr, hn, hb⟩
      refine ⟨off_grown hgr, ?_⟩
      obtain ⟨_, ⟨h2, _⟩ | ⟨g', cap', cur', rfl, _, k1, k2, k3, k4, k5⟩⟩ := ho
      · exact absurd h2 hn
      · refine ⟨g', cap', cur', rfl, ?_, k1, k2, k3, k4, k5⟩
        rcases hb with hb | hb
        · left; exact hb.symm
        · right; simp [Value.ownBlock] at hb; omega
    · by_cases hr : B.length + 1 ≤ cap
      · refine (ins_room n v vb g cap B cur w hv q2 (fun e => hvs (by rw [e]; rfl)) hg q3 q4 h0 hr).mono ?_
        rintro e w' ⟨rfl, hoff, cur', k1, k2, k3⟩
        exact ⟨hoff.mono (fun k hk => by rw [hk]; rfl), g, cap, cur', rfl, Or.inl rfl, k1, hr, q2, k2, k3⟩
      · refine (ins_grow n v vb g cap B cur w hv hg q4 h0 q1 (by omega) hB).mono ?_
        rintro e w' ⟨hb, G, rfl, k0, k1, cur', k2, k3, k4⟩
        exact ⟨Off.of_below hb, w.heap.size, G, cur', rfl, Or.inr (Nat.le_refl _), k2, k0, k1, k3, k4⟩
theorem keepN_zero (A : List (ByteArray × ByteArray)) : ∀ n, n ≤ A.length → keepN A 0 n = 0
  | 0, _ => rfl
  | n + 1, h => by
    have h1 := weight_len (A.take (n + 1))
    rw [List.length_take] at h1
    unfold keepN
    rw [if_pos (by omega)]
    exact keepN_zero A n (by omega)
theorem LRow.below {w w' : World} {tb : Nat} {s : Value} {B : List (ByteArray × ByteArray)} (h : LRow w tb s B) (hb : Below w.heap.size w w') : LRow w' tb s B := by
  rcases h with h | ⟨g, cap, cur, rfl, a1, a2, hg, r⟩
  · exact Or.inl h
  · exact Or.inr ⟨g, cap, cur, rfl, a1, a2, (hb.block g (lt_of_heap hg)).trans hg, r⟩
theorem LRow.lt {w : World} {tb : Nat} {s : Value} {B : List (ByteArray × ByteArray)} (h : LRow w tb s B) : ∀ k, s.ownBlock = some k → k < w.heap.size ∧ k ≠ tb ∧ 0 ≠ k := by
  intro k hk
  rcases h with ⟨rfl, _⟩ | ⟨g, cap, cur, rfl, a1, a2, hg, r⟩
  · simp [Value.ownBlock] at hk
  · simp [Value.ownBlock] at hk
    subst hk
    exact ⟨lt_of_heap hg, a2, a1⟩
end Go.Proofs.YtkjfhgoddhigmacDoor
