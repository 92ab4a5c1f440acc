/-
  CONTRACT of the Go function tollref1.ReadFrame. No claim by itself.
-/
import Derived.Test.YtdlaaollamgplacDoorRframe2
import Derived.Test.YtdlaaollamgplacDoorRead
import Derived.Deep.QuietTactic
import Derived.BigQuiet
namespace Go.Proofs.YtdlaaollamgplacDoor
open Go.RowKit
set_option maxRecDepth 100000
/-- A part of a row, wherever the cut lays it. -/
theorem fcut_row {w : World} {g off len cap : Nat} {Z : List Int} (h : Row w g off len cap Z) (u n : Nat) (hun : u + n ≤ len) :
    ∃ o, (if cap = u then some (⟨g, off, none⟩ : Addr) else some ⟨g, off + u, none⟩) = some ⟨g, o, none⟩ ∧ Row w g o n (cap - u) ((Z.drop u).take n) := by
  have hl := h.hlen
  have hc := h.hcap
  have hm := h.hmax
  have hlen : ((Z.drop u).take n).length = n := by rw [List.length_take, List.length_drop]; omega
  have hby : ∀ t, 0 ≤ ((Z.drop u).take n).getD t 0 ∧ ((Z.drop u).take n).getD t 0 < 256 := fun t => by
    by_cases ht : t < n
    · have e : ((Z.drop u).take n).getD t 0 = Z.getD (u + t) 0 := by simp [List.getD, ht, List.getElem?_drop]
      rw [e]; exact h.hbyte _
    · have e : ((Z.drop u).take n).getD t 0 = 0 := by simp [List.getD, List.getElem?_take, ht]
      rw [e]; decide
  by_cases e : cap = u
  · refine ⟨off, by rw [if_pos e], hlen, by omega, by omega, fun t ht => by omega, hby⟩
  · refine ⟨off + u, by rw [if_neg e], hlen, by omega, by omega, fun t ht => ?_, hby⟩
    have e2 : ((Z.drop u).take n).getD t 0 = Z.getD (u + t) 0 := by simp [List.getD, ht, List.getElem?_drop]
    rw [e2, Nat.add_assoc]
    exact h.hcell _ (by omega)
/-- What reading a frame gives. -/
def RdFr (w' : World) (t : Frm × Int × Int) (e : Ending) : Prop := ∃ a c, e = .returned (.tuple #[.agg #[.int .i64 t.1.1, .int .i64 t.1.2.1, .int .i64 t.1.2.2.1, .slice a t.1.2.2.2.length c], .int .i64 t.2.1, .int .i64 t.2.2]) ∧ Arg w' a t.1.2.2.2.length c t.1.2.2.2
theorem rdfr_bad {w' : World} {t : Frm × Int × Int} {k : Int} (h : t = (fr0, 0, k)) : RdFr w' t (.returned (.tuple #[.agg #[.int .i64 0, .int .i64 0, .int .i64 0, .slice none 0 0], .int .i64 0, .int .i64 k])) := by
  subst h
  exact ⟨none, 0, rfl, Or.inl ⟨rfl, rfl⟩⟩
set_option maxHeartbeats 4000000 in
theorem rrdframe_short (a : Option Addr) (len cap : Nat) (Z : List Int) (w : World) (hZ : Z.length = len) (hs : len < 9) :
    Calls Tryd.prog 17 #[.slice a len cap] w fun e w' => RdFr w' (rdF Z) e ∧ Below w.heap.size w w' := by
  have E : Hid (rdF Z = (fr0, 0, 8)) := by show rdF Z = _; unfold rdF; rw [if_pos (by omega)]
  have d : decide ((len : Int) < 9) = true := decide_eq_true (by omega)
  go_enter Tryd.func17, Tryd.ntmps17
  go_wp2
  go_returns
  refine ⟨rdfr_bad E.out, ?_⟩
  repeat (first | exact Below.refl _ _ | refine Below.setCell ?_ (by simp) _ | refine Below.alloc ?_ (by first | (simp; done) | (simp; omega)) _)
theorem rdfr_good {w' : World} {t : Frm × Int × Int} {k f st nn : Int} {L : List Int} {a : Option Addr} {len c : Nat} (h : t = ((k, f, st, L), nn, 0)) (hL : L.length = len) (hA : Arg w' a len c L) :
    RdFr w' t (.returned (.tuple #[.agg #[.int .i64 k, .int .i64 f, .int .i64 st, .slice a len c], .int .i64 nn, .int .i64 0])) := by
  subst h; subst hL
  exact ⟨a, c, rfl, hA⟩
set_option maxHeartbeats 8000000 in
theorem rrdframe_row (g off len cap : Nat) (Z : List Int) (w : World) (hr : Row w g off len cap Z) (hl9 : 9 ≤ len) :
    Calls Tryd.prog 17 #[.slice (some ⟨g, off, none⟩) len cap] w fun e w' => RdFr w' (rdF Z) e ∧ Below w.heap.size w w' := by
  have hZ := hr.hlen
  have hcap := hr.hcap
  have hmx := hr.hmax
  unfold maxLen at hmx
  have c3 := hr.hcell 3 (by omega)
  have c4 := hr.hcell 4 (by omega)
  have hgl : g < w.heap.size := by
    rcases Nat.lt_or_ge g w.heap.size with h1 | h1
    · exact h1
    · simp [World.cell?, Array.getElem?_eq_none h1] at c3
  obtain ⟨w0, hw0⟩ : ∃ w0, w0 = w.alloc (.cells #[.int .i64 0, .int .i64 0, .int .i64 0, .slice none 0 0] 43) := ⟨_, rfl⟩
  have hb0 : Below w.heap.size w w0 := by rw [hw0]; exact (Below.refl _ _).alloc (Nat.le_refl _) _
  have hr0 := hr.below hb0
  have hx : w0.heap[w.heap.size]? = some (.cells #[.int .i64 0, .int .i64 0, .int .i64 0, .slice none 0 0] 43 (0, 0)) := by rw [hw0]; exact Array.getElem?_push_size
  have hw3 := word_any g off 3 cap (Z.take 3) w0 (hr0.take 3 (by omega)) (by decide)
  obtain ⟨o5, ho5, hr5⟩ := fcut_row hr0 5 4 (by omega)
  have hw4 := word_any g o5 4 (cap - 5) ((Z.drop 5).take 4) w0 hr5 (by decide)
  have k3 := hr0.hcell 3 (by omega)
  have k4 := hr0.hcell 4 (by omega)
  have y3 := hr.hbyte 3
  have y4 := hr.hbyte 4
  have dl : decide ((len : Int) < 9) = false := decide_eq_false (by omega)
  have p3 : (3 : Int) ≤ (cap : Int) := by omega
  have p9 : (9 : Int) ≤ (cap : Int) := by omega
  have hwn : 0 ≤ word (Z.take 3) := by
    have := word_bd Z hr.hbyte 3 (by omega); exact this.1
  have HR : Hid (rdF Z = if 1024 < word (Z.take 3) then (fr0, 0, 4) else if 2147483647 < word ((Z.drop 5).take 4) then (fr0, 0, 10) else if (Z.length : Int) - 9 < word (Z.take 3) then (fr0, 0, 8) else ((Z.getD 3 0, Z.getD 4 0, word ((Z.drop 5).take 4), (Z.drop 9).take (word (Z.take 3)).toNat), 9 + word (Z.take 3), 0)) := by
    show rdF Z = _
    unfold rdF; rw [if_neg (by omega)]
  have HROW : Hid (∀ wx, Below w.heap.size w wx → ∀ m : Nat, 9 + m ≤ len → Arg wx (if cap = 9 then some ⟨g, off, none⟩ else some ⟨g, off + 9, none⟩) m (cap - 9) ((Z.drop 9).take m)) := fun wx hb m hm => by
    obtain ⟨o, ho, hro⟩ := fcut_row hr 9 m hm
    exact Or.inr ⟨g, o, ho, hro.below hb⟩
  have HX := hide hx
  have HZL := hide hZ
  rw [hZ] at HR
  generalize word (Z.take 3) = n at *
  generalize word ((Z.drop 5).take 4) = id at *
  generalize Z.getD 3 0 = z3 at *
  generalize Z.getD 4 0 = z4 at *
  generalize rdF Z = T at *
  have e5 : o5 = off + 5 := by
    rw [if_neg (by omega)] at ho5
    injection ho5 with ho5
    injection ho5 with _ ho5 _
    exact ho5.symm
  subst e5
  have HW0 := hide hw0
  have HW3 := hide hw3
  have HW4 := hide hw4
  clear hr hr0 hr5 hx c3 c4 hZ hw3 hw4 hw0 ho5
  go_enter Tryd.func17, Tryd.ntmps17
  go_wp2_with fail
  rw [← HW0.out]
  refine HW3.out.mono ?_
  rintro e w' ⟨rfl, rfl⟩
  clear HW3
  go_wp2_with fail
  refine HW4.out.mono ?_
  rintro e w' ⟨rfl, rfl⟩
  clear HW4
  have hw0 := HW0.out
  clear HW0
  subst hw0
  rcases Int.lt_or_le 1024 n with h1 | h1
  · have d1 : decide (1024 < n) = true := decide_eq_true h1
    clear k3 k4
    go_wp2
    go_returns
    refine ⟨rdfr_bad (HR.out.trans (if_pos h1)), ?_⟩
    repeat (first | exact Below.refl _ _ | refine Below.setCell ?_ (by simp) _ | refine Below.alloc ?_ (by first | (simp; done) | (simp; omega)) _)
  have g1 : ¬ (1024 < n) := by omega
  have HR1 := hide (HR.out.trans (if_neg g1))
  clear HR
  rcases Int.lt_or_le 2147483647 id with h2 | h2
  · clear k3 k4
    go_wp2
    go_returns
    refine ⟨rdfr_bad (HR1.out.trans (if_pos h2)), ?_⟩
    repeat (first | exact Below.refl _ _ | refine Below.setCell ?_ (by simp) _ | refine Below.alloc ?_ (by first | (simp; done) | (simp; omega)) _)
  have g2 : ¬ (2147483647 < id) := by omega
  have HR2 := hide (HR1.out.trans (if_neg g2))
  clear HR1
  rcases Int.lt_or_le ((len : Int) - 9) n with h3 | h3
  · clear k3 k4
    go_wp2
    go_returns
    refine ⟨rdfr_bad (HR2.out.trans (if_pos h3)), ?_⟩
    repeat (first | exact Below.refl _ _ | refine Below.setCell ?_ (by simp) _ | refine Below.alloc ?_ (by first | (simp; done) | (simp; omega)) _)
  have g3 : ¬ ((len : Int) - 9 < n) := by omega
  have HR3 := hide (HR2.out.trans (if_neg g3))
  clear HR2
  obtain ⟨m, rfl⟩ : ∃ m : Nat, n = (m : Int) := ⟨n.toNat, by omega⟩
  have p9m : (9 : Int) + (m : Int) ≤ (cap : Int) := by omega
  have p9n : 9 + m ≤ cap := by omega
  have hd : decide (((9 : Int) + (m : Int)) ≤ (cap : Int)) = true := decide_eq_true p9m
  go_wp2_with fail
  go_region
  have HA := hide (fun wx hb => HROW.out wx hb m (by omega))
  have HL : Hid (((Z.drop 9).take (m : Int).toNat).length = m) := by
    show List.length _ = _
    rw [List.length_take, List.length_drop, HZL.out]; simp; omega
  by_cases hc9 : cap = 9
  · rw [if_pos hc9] at HA
    simp only [if_pos hc9]
    go_wp2
    go_returns
    refine ⟨rdfr_good HR3.out HL.out ?_, ?_⟩
    · exact HA.out _ ((Below.refl _ _).alloc (Nat.le_refl _) _).drew
    · exact ((Below.refl _ _).alloc (Nat.le_refl _) _).drew
  · rw [if_neg hc9] at HA
    simp only [if_neg hc9]
    go_wp2
    go_returns
    refine ⟨rdfr_good HR3.out HL.out ?_, ?_⟩
    · exact HA.out _ ((Below.refl _ _).alloc (Nat.le_refl _) _).drew
    · exact ((Below.refl _ _).alloc (Nat.le_refl _) _).drew
/-- tollref1.ReadFrame, whole. -/
theorem rrdframe_any (a : Option Addr) (len cap : Nat) (Z : List Int) (w : World) (hA : Arg w a len cap Z) (hZ : Z.length = len) :
    Calls Tryd.prog 17 #[.slice a len cap] w fun e w' => RdFr w' (rdF Z) e ∧ Below w.heap.size w w' := by
  rcases Nat.lt_or_ge len 9 with h | h
  · exact rrdframe_short a len cap Z w hZ h
  · rcases hA with ⟨h0, _⟩ | ⟨g, off, rfl, hr⟩
    · omega
    · exact rrdframe_row g off len cap Z w hr h
end Go.Proofs.YtdlaaollamgplacDoor
