/-
  CONTRACT of the Go function frame.Read. No claim by itself.
-/
import Derived.Test.YtdlaaollamgplagGreatDoorDfr4
import Derived.Deep.RegionHeld3
namespace Go.Proofs.YtdlaaollamgplagGreatDoor
open Go.RowKit
set_option maxRecDepth 100000
/-- What reading a frame gives: the frame, how many bytes, the error. -/
def RdFeFr (n0 : Nat) (w' : World) (t : Frm × Int × Int) (e : Ending) : Prop := ∃ a c x, e = .returned (.tuple #[.agg #[.int .i64 t.1.1, .int .i64 t.1.2.1, .int .i64 t.1.2.2.1, .slice a t.1.2.2.2.length c], .int .i64 t.2.1, x]) ∧ (Arg w' a t.1.2.2.2.length c t.1.2.2.2 ∧ ∀ g off, a = some ⟨g, off, none⟩ → n0 ≤ g) ∧
  ((t.2.2 = 0 ∧ x = .nilIface) ∨ (t.2.2 ≠ 0 ∧ x = .iface 88 (.int .i64 t.2.2)))
theorem rdfe_badFr {n0 : Nat} {w' : World} {t : Frm × Int × Int} {k : Int} (h : t = (fr0, 0, k)) (hk : k ≠ 0) : RdFeFr n0 w' t (.returned (.tuple #[.agg #[.int .i64 0, .int .i64 0, .int .i64 0, .slice none 0 0], .int .i64 0, .iface 88 (.int .i64 k)])) := by
  subst h
  exact ⟨none, 0, _, rfl, ⟨Or.inl ⟨rfl, rfl⟩, fun _ _ e => by cases e⟩, Or.inr ⟨hk, rfl⟩⟩
theorem rdfe_goodFr {n0 : Nat} {w' : World} {t : Frm × Int × Int} {k f st nn : Int} {L : List Int} {a : Option Addr} {len c : Nat} (h : t = ((k, f, st, L), nn, 0)) (hL : L.length = len) (hA : Arg w' a len c L) (hfr : ∀ g off, a = some ⟨g, off, none⟩ → n0 ≤ g) :
    RdFeFr n0 w' t (.returned (.tuple #[.agg #[.int .i64 k, .int .i64 f, .int .i64 st, .slice a len c], .int .i64 nn, .nilIface])) := by
  subst h; subst hL
  exact ⟨a, c, _, rfl, ⟨hA, hfr⟩, Or.inl ⟨rfl, rfl⟩⟩
set_option maxHeartbeats 4000000 in
theorem read_short9Fr (a : Option Addr) (len cap : Nat) (Z : List Int) (w : World) (hZ : Z.length = len) (hs : len < 9) :
    Calls Tryz.prog 65 #[.slice a len cap] w fun e w' => RdFeFr w.heap.size w' (rdF Z) e ∧ Below w.heap.size w w' := by
  have E : Hid (rdF Z = (fr0, 0, 8)) := by show rdF Z = _; unfold rdF; rw [if_pos (by omega)]
  have d : decide ((len : Int) < 9) = true := decide_eq_true (by omega)
  go_enter Tryz.func65, Tryz.ntmps65
  go_wp2
  go_returns
  refine ⟨rdfe_badFr E.out (by decide), ?_⟩
  repeat (first | exact Below.refl _ _ | refine Below.setCell ?_ (by first | (simp; done) | (simp; omega) | omega) _ | refine Below.alloc ?_ (by first | (simp; done) | (simp; omega) | omega) _)
theorem row_setFr {w : World} {g off len cap b o : Nat} {Z : List Int} (h : Row w g off len cap Z) (hb : b ≠ g) (v : Value) : Row (w.setCell ⟨b, o, none⟩ v) g off len cap Z :=
  ⟨h.hlen, h.hcap, h.hmax, fun t ht => (World.cell?_setCell_far w ⟨b, o, none⟩ ⟨g, off + t, none⟩ v hb).trans (h.hcell t ht), h.hbyte⟩
theorem byte_memFr {L : List Int} (h : ∀ t, 0 ≤ L.getD t 0 ∧ L.getD t 0 < 256) : ∀ x ∈ L, 0 ≤ x ∧ x < 256 := by
  intro x hx
  obtain ⟨i, hi, rfl⟩ := List.getElem_of_mem hx
  have := h i
  simpa [List.getD, List.getElem?_eq_getElem hi] using this
/-- Four cells of a block are written. -/
theorem four_setFr (w : World) (b : Nat) (a0 a1 a2 a3 v0 v1 v2 v3 : Value) (h0 : w.cell? ⟨b, 0, none⟩ = some a0) (h1 : w.cell? ⟨b, 1, none⟩ = some a1) (h2 : w.cell? ⟨b, 2, none⟩ = some a2) (h3 : w.cell? ⟨b, 3, none⟩ = some a3) :
    let w' := (((w.setCell ⟨b, 0, none⟩ v0).setCell ⟨b, 1, none⟩ v1).setCell ⟨b, 2, none⟩ v2).setCell ⟨b, 3, none⟩ v3
    (w'.cell? ⟨b, 0, none⟩ = some v0 ∧ w'.cell? ⟨b, 1, none⟩ = some v1) ∧ (w'.cell? ⟨b, 2, none⟩ = some v2 ∧ w'.cell? ⟨b, 3, none⟩ = some v3) := by
  intro w'
  have ne : ∀ (x y : Nat), x ≠ y → (⟨b, x, none⟩ : Addr) ≠ ⟨b, y, none⟩ := fun x y h e => h (by injection e)
  have e1 : (w.setCell ⟨b, 0, none⟩ v0).cell? ⟨b, 0, none⟩ = some v0 := World.cell?_setCell_same' _ _ _ (by rw [h0]; rfl)
  have e2 : ((w.setCell ⟨b, 0, none⟩ v0).setCell ⟨b, 1, none⟩ v1).cell? ⟨b, 1, none⟩ = some v1 := World.cell?_setCell_same' _ _ _ (by rw [World.cell?_setCell_other _ _ _ _ (ne 0 1 (by decide)), h1]; rfl)
  have e3 : (((w.setCell ⟨b, 0, none⟩ v0).setCell ⟨b, 1, none⟩ v1).setCell ⟨b, 2, none⟩ v2).cell? ⟨b, 2, none⟩ = some v2 := World.cell?_setCell_same' _ _ _ (by rw [World.cell?_setCell_other _ _ _ _ (ne 1 2 (by decide)), World.cell?_setCell_other _ _ _ _ (ne 0 2 (by decide)), h2]; rfl)
  have e4 : w'.cell? ⟨b, 3, none⟩ = some v3 := World.cell?_setCell_same' _ _ _ (by rw [World.cell?_setCell_other _ _ _ _ (ne 2 3 (by decide)), World.cell?_setCell_other _ _ _ _ (ne 1 3 (by decide)), World.cell?_setCell_other _ _ _ _ (ne 0 3 (by decide)), h3]; rfl)
  refine ⟨⟨?_, ?_⟩, ?_, e4⟩
  · show (World.setCell _ _ _).cell? _ = _
    rw [World.cell?_setCell_other _ _ _ _ (ne 3 0 (by decide)), World.cell?_setCell_other _ _ _ _ (ne 2 0 (by decide)), World.cell?_setCell_other _ _ _ _ (ne 1 0 (by decide)), e1]
  · show (World.setCell _ _ _).cell? _ = _
    rw [World.cell?_setCell_other _ _ _ _ (ne 3 1 (by decide)), World.cell?_setCell_other _ _ _ _ (ne 2 1 (by decide)), e2]
  · show (World.setCell _ _ _).cell? _ = _
    rw [World.cell?_setCell_other _ _ _ _ (ne 3 2 (by decide)), e3]
theorem drewN_allocFr (w : World) (o : Obj) : ∀ n, (w.alloc o).drewN n = (w.drewN n).alloc o
  | 0 => rfl
  | n + 1 => by
    have ih := drewN_allocFr w o n
    show ((w.alloc o).drewN n).drew = _
    rw [ih]; rfl
theorem drewN_sizeFr (w : World) : ∀ n, (w.drewN n).heap.size = w.heap.size
  | 0 => rfl
  | n + 1 => drewN_sizeFr w n
set_option maxHeartbeats 8000000 in
theorem read_rowFr (g off len cap : Nat) (Z : List Int) (w : World) (hr : Row w g off len cap Z) (hl9 : 9 ≤ len) :
    Calls Tryz.prog 65 #[.slice (some ⟨g, off, none⟩) len cap] w fun e w' => RdFeFr w.heap.size w' (rdF Z) e ∧ Below w.heap.size w w' := by
  have hZ := hr.hlen
  have hcap := hr.hcap
  have hmx := hr.hmax
  unfold maxLen at hmx
  have c3 := hr.hcell 3 (by omega)
  have hgl : g < w.heap.size := by
    rcases Nat.lt_or_ge g w.heap.size with h1 | h1
    · exact h1
    · simp [World.cell?, Array.getElem?_eq_none h1] at c3
  obtain ⟨w0, hw0⟩ : ∃ w0, w0 = w.alloc (.cells #[.int .i64 0, .int .i64 0, .int .i64 0, .slice none 0 0] 60) := ⟨_, rfl⟩
  have hb0 : Below w.heap.size w w0 := by rw [hw0]; exact (Below.refl _ _).alloc (Nat.le_refl _) _
  have hr0 := hr.below hb0
  have HN : Hid (∀ d o l c X, Row w0 g o l c X → l ≤ 4 → Calls Tryz.prog 122 #[.slice (some ⟨g, o, none⟩) l c] (w0.drewN d) fun e w' => e = .returned (.int .i64 (word X)) ∧ w' = w0.drewN d) := fun d o l c X hx h4 => (number_any g o l c X _ (hx.below (drewN_below (Below.refl _ _) d)) h4).mono fun _ _ h => ⟨h.1, h.2.symm⟩
  have HRA := hide (hr0.take 3 (by omega))
  obtain ⟨o5, ho5, hr5⟩ := fcut_row hr0 5 4 (by omega)
  have e5 : o5 = off + 5 := by
    rw [if_neg (by omega)] at ho5
    injection ho5 with ho5
    injection ho5 with _ ho5 _
    exact ho5.symm
  subst e5
  have HRB := hide hr5
  have y3 := hr.hbyte 3
  have y4 := hr.hbyte 4
  have dl : decide ((len : Int) < 9) = false := decide_eq_false (by omega)
  have p3 : (3 : Int) ≤ (cap : Int) := by omega
  have p9 : (9 : Int) ≤ (cap : Int) := by omega
  have hwn : 0 ≤ word (Z.take 3) := by
    have := word_bd Z hr.hbyte 3 (by omega); exact this.1
  have HR : Hid (rdF Z = if 1024 < word (Z.take 3) then (fr0, 0, 4) else if 2147483647 < word ((Z.drop 5).take 4) then (fr0, 0, 10) else if (Z.length : Int) - 9 < word (Z.take 3) then (fr0, 0, 8) else ((Z.getD 3 0, Z.getD 4 0, word ((Z.drop 5).take 4), (Z.drop 9).take (word (Z.take 3)).toNat), 9 + word (Z.take 3), 0)) := by
    show rdF Z = _
    unfold rdF; rw [if_neg (by omega)]
  have HROW := hide hr
  have HZL := hide hZ
  rw [hZ] at HR
  obtain ⟨n, hn⟩ : ∃ n, n = word (Z.take 3) := ⟨_, rfl⟩
  obtain ⟨id, hid⟩ : ∃ id, id = word ((Z.drop 5).take 4) := ⟨_, rfl⟩
  rw [← hn] at HR hwn
  rw [← hid] at HR
  have HNN := hide hn
  have HID := hide hid
  clear hn hid
  generalize rdF Z = T at *
  have HW0 := hide hw0
  clear hr hr0 hr5 c3 hZ hw0 ho5
  go_enter Tryz.func65, Tryz.ntmps65
  go_wp2_with fail
  rw [← HW0.out]
  go_quiet ((go_at_call 122; refine Calls.quiet_of_same (HN.out _ _ _ _ _ (by first | exact HRA.out | exact HRB.out) (by decide))))
  rw [HW0.out, drewN_allocFr]
  obtain ⟨wq, hwq⟩ : ∃ wq, wq = w.drewN nq := ⟨_, rfl⟩
  have hsq : w.heap.size = wq.heap.size := by rw [hwq]; exact (drewN_sizeFr w nq).symm
  have HBQ := hide (show Below w.heap.size w wq by rw [hwq]; exact drewN_below (Below.refl _ _) nq)
  have HRQ := hide (HROW.out.below HBQ.out)
  rw [← hwq, ← HNN.out, ← HID.out]
  simp only [hsq] at hgl hb0 ⊢
  have HSQ := hide hsq
  clear hsq
  clear HN HRA HRB HNN HID hwq HROW hb0 HW0
  rcases Int.lt_or_le 1024 n with h1 | h1
  · have d1 : decide (1024 < n) = true := decide_eq_true h1
    go_wp2
    go_returns
    refine ⟨rdfe_badFr (HR.out.trans (if_pos h1)) (by decide), HBQ.out.trans ?_⟩
    have hsq := HSQ.out
    repeat (first | exact Below.refl _ _ | refine Below.setCell ?_ (by first | (simp; done) | (simp; omega) | omega) _ | refine Below.alloc ?_ (by first | (simp; done) | (simp; omega) | omega) _)
  have g1 : ¬ (1024 < n) := by omega
  have HR1 := hide (HR.out.trans (if_neg g1))
  clear HR
  rcases Int.lt_or_le 2147483647 id with h2 | h2
  · go_wp2
    go_returns
    refine ⟨rdfe_badFr (HR1.out.trans (if_pos h2)) (by decide), HBQ.out.trans ?_⟩
    have hsq := HSQ.out
    repeat (first | exact Below.refl _ _ | refine Below.setCell ?_ (by first | (simp; done) | (simp; omega) | omega) _ | refine Below.alloc ?_ (by first | (simp; done) | (simp; omega) | omega) _)
  have g2 : ¬ (2147483647 < id) := by omega
  have HR2 := hide (HR1.out.trans (if_neg g2))
  clear HR1
  rcases Int.lt_or_le ((len : Int) - 9) n with h3 | h3
  · have d3 : (len : Int) < 9 + n := by omega
    go_wp2
    go_returns
    refine ⟨rdfe_badFr (HR2.out.trans (if_pos h3)) (by decide), HBQ.out.trans ?_⟩
    have hsq := HSQ.out
    repeat (first | exact Below.refl _ _ | refine Below.setCell ?_ (by first | (simp; done) | (simp; omega) | omega) _ | refine Below.alloc ?_ (by first | (simp; done) | (simp; omega) | omega) _)
  have g3 : ¬ ((len : Int) - 9 < n) := by omega
  have HR3 := hide (HR2.out.trans (if_neg g3))
  clear HR2
  obtain ⟨m, rfl⟩ : ∃ m : Nat, n = (m : Int) := ⟨n.toNat, by omega⟩
  have p9m : (9 : Int) + (m : Int) ≤ (cap : Int) := by omega
  have p9l : ¬ ((len : Int) < (9 : Int) + (m : Int)) := by omega
  have p9n : 9 + m ≤ cap := by omega
  have hd9 : decide (((9 : Int) + (m : Int)) ≤ (cap : Int)) = true := decide_eq_true p9m
  have p90 : (0 : Int) ≤ (9 : Int) + (m : Int) := by omega
  have p99 : (9 : Int) ≤ (9 : Int) + (m : Int) := by omega
  have p9t : ((9 : Int) + (m : Int)).toNat = 9 + m := by omega
  have p9s : 9 + m - 9 = m := by omega
  obtain ⟨wA, hwA⟩ : ∃ wA, wA = wq.alloc (.cells #[.int .i64 0, .int .i64 0, .int .i64 0, .slice none 0 0] 60) := ⟨_, rfl⟩
  have hbA : Below wq.heap.size wq wA := by rw [hwA]; exact (Below.refl _ _).alloc (Nat.le_refl _) _
  have hszA : wA.heap.size = wq.heap.size + 1 := by rw [hwA]; simp
  have hxA : wA.heap[wq.heap.size]? = some (.cells #[.int .i64 0, .int .i64 0, .int .i64 0, .slice none 0 0] 60 (0, 0)) := by rw [hwA]; exact Array.getElem?_push_size
  have hrA := HRQ.out.below hbA
  have HBA := hide (HBQ.out.trans (hbA.mono (by have := HSQ.out; omega)))
  have HS : Hid (∀ wx, Below wA.heap.size wA wx → (((wx.cell? ⟨g, off + 3, none⟩ = some (.int .u8 (Z.getD 3 0)) ∧ wx.cell? ⟨g, off + 4, none⟩ = some (.int .u8 (Z.getD 4 0))) ∧ (wx.cell? ⟨wq.heap.size, 0, none⟩ = some (.int .i64 0) ∧ wx.cell? ⟨wq.heap.size, 1, none⟩ = some (.int .i64 0))) ∧ ((wx.cell? ⟨wq.heap.size, 2, none⟩ = some (.int .i64 0) ∧ wx.cell? ⟨wq.heap.size, 3, none⟩ = some (.slice none 0 0)) ∧ (wx.frozen? ⟨wq.heap.size, 0, none⟩ = false ∧ wx.frozen? ⟨wq.heap.size, 1, none⟩ = false))) ∧ (wx.frozen? ⟨wq.heap.size, 2, none⟩ = false ∧ wx.frozen? ⟨wq.heap.size, 3, none⟩ = false)) := fun wx hb => by
    have hx : wx.heap[wq.heap.size]? = some (.cells #[.int .i64 0, .int .i64 0, .int .i64 0, .slice none 0 0] 60 (0, 0)) := (hb.block _ (by omega)).trans hxA
    have h3 := (hrA.below hb).hcell 3 (by omega)
    have h4 := (hrA.below hb).hcell 4 (by omega)
    refine ⟨⟨⟨⟨h3, h4⟩, ?_, ?_⟩, ⟨?_, ?_⟩, ?_, ?_⟩, ?_, ?_⟩ <;> simp [World.cell?, World.frozen?, hx]
  obtain ⟨o9, ho9, hr9⟩ := fcut_row hrA 9 m (by omega)
  have hl9m : ((Z.drop 9).take m).length = m := hr9.hlen
  have HCL : Hid (Calls Tryz.prog 52 #[.slice (some ⟨g, o9, none⟩) m (cap - 9)] wA.drew fun e w' => ∃ g' c', e = .returned (.slice (some ⟨g', 0, none⟩) m c') ∧ w'.ownsRow wA.drew.heap.size 5 1 (.slice (some ⟨g', 0, none⟩) m c') m (((Z.drop 9).take m).map (Value.int .u8)) ∧ Below wA.drew.heap.size wA.drew w') :=
    clone_some ⟨g, o9, none⟩ m (cap - 9) ((Z.drop 9).take m) wA.drew hl9m (by omega) (Or.inr ⟨g, o9, rfl, hr9.below ((Below.refl _ _).drew)⟩)
  have HL9 := hide hl9m
  have HBY := hide hr9.hbyte
  obtain ⟨⟨⟨⟨q1, q2⟩, q3, q4⟩, ⟨q5, q6⟩, q7, q8⟩, q9, q10⟩ := HS.out wA (Below.refl _ _)
  have HSD : Hid (∀ wx, Below wA.drew.heap.size wA.drew wx → Below wA.heap.size wA wx) := fun wx hb => (Below.refl _ _).drew.trans hb
  rw [← hwA]
  have HSZ := hide hszA
  clear hr9 hrA hbA hxA HRQ hwA HBQ hl9m hszA
  generalize Z.getD 3 0 = z3 at *
  generalize Z.getD 4 0 = z4 at *
  by_cases hc9 : cap = 9
  · subst hc9
    rw [if_pos rfl] at ho9
    injection ho9 with ho9
    injection ho9 with _ ho9 _
    subst ho9
    obtain rfl : m = 0 := by omega
    simp only [Nat.sub_self] at HCL
    go_wp2_with fail
    have hneb : wq.heap.size ≠ g := by omega
    have HK : Hid (∀ (wx : World) (o1 : Nat) (v : Value) (o2 : Nat), (wx.setCell ⟨wq.heap.size, o1, none⟩ v).cell? ⟨g, o2, none⟩ = wx.cell? ⟨g, o2, none⟩) := fun wx o1 v o2 => World.cell?_setCell_far wx ⟨wq.heap.size, o1, none⟩ ⟨g, o2, none⟩ v hneb
    have i3 : (3 : Int) < (len : Int) := by omega
    have i4 : (4 : Int) < (len : Int) := by omega
    have i3n : 3 < len := by omega
    have i4n : 4 < len := by omega
    clear hneb
    have QD : Hid (wA.drew.cell? ⟨g, off + 3, none⟩ = some (.int .u8 z3) ∧ wA.drew.cell? ⟨g, off + 4, none⟩ = some (.int .u8 z4)) := ⟨q1, q2⟩
    go_region_held3 (fun wx => wx.cell? ⟨g, off + 3, none⟩ = some (.int .u8 z3) ∧ wx.cell? ⟨g, off + 4, none⟩ = some (.int .u8 z4))
      (first | (with_reducible exact (HS.out w2 (HSD.out w2 B2.out)).1.1.1) | (with_reducible exact QD.out) | (simp only [HK.out]; with_reducible exact (HS.out w2 (HSD.out w2 B2.out)).1.1.1))
      ((go_at_call 52; refine HCL.out.mono ?_; rintro e w2 ⟨g2, c2, rfl, ho2, hb2⟩; obtain ⟨⟨⟨⟨t1, t2⟩, t3, t4⟩, ⟨t5, t6⟩, t7, t8⟩, t9, t10⟩ := HS.out w2 (HSD.out _ hb2); have O2 := hide ho2; have B2 := hide hb2; clear ho2 hb2))
    have wz3 : IntKind.i64.wrap z3 = z3 := by rw [IntKind.wrap_i64]; omega
    have wz4 : IntKind.i64.wrap z4 = z4 := by rw [IntKind.wrap_i64]; omega
    try simp only [wz3, wz4]
    clear wz3 wz4
    obtain ⟨⟨u0, u1⟩, u2, u3⟩ := four_setFr w2 wq.heap.size _ _ _ _ (.int .i64 z3) (.int .i64 z4) (.int .i64 id) (.slice (some ⟨g2, 0, none⟩) 0 c2) t3 t4 t5 t6
    have f0 : ((((w2.setCell ⟨wq.heap.size, 0, none⟩ (.int .i64 z3)).setCell ⟨wq.heap.size, 1, none⟩ (.int .i64 z4)).setCell ⟨wq.heap.size, 2, none⟩ (.int .i64 id)).setCell ⟨wq.heap.size, 3, none⟩ (.slice (some ⟨g2, 0, none⟩) 0 c2)).frozen? ⟨wq.heap.size, 0, none⟩ = false := by simp only [World.frozen?_setCell]; exact t7
    have f1 : ((((w2.setCell ⟨wq.heap.size, 0, none⟩ (.int .i64 z3)).setCell ⟨wq.heap.size, 1, none⟩ (.int .i64 z4)).setCell ⟨wq.heap.size, 2, none⟩ (.int .i64 id)).setCell ⟨wq.heap.size, 3, none⟩ (.slice (some ⟨g2, 0, none⟩) 0 c2)).frozen? ⟨wq.heap.size, 1, none⟩ = false := by simp only [World.frozen?_setCell]; exact t8
    have f2 : ((((w2.setCell ⟨wq.heap.size, 0, none⟩ (.int .i64 z3)).setCell ⟨wq.heap.size, 1, none⟩ (.int .i64 z4)).setCell ⟨wq.heap.size, 2, none⟩ (.int .i64 id)).setCell ⟨wq.heap.size, 3, none⟩ (.slice (some ⟨g2, 0, none⟩) 0 c2)).frozen? ⟨wq.heap.size, 2, none⟩ = false := by simp only [World.frozen?_setCell]; exact t9
    have f3 : ((((w2.setCell ⟨wq.heap.size, 0, none⟩ (.int .i64 z3)).setCell ⟨wq.heap.size, 1, none⟩ (.int .i64 z4)).setCell ⟨wq.heap.size, 2, none⟩ (.int .i64 id)).setCell ⟨wq.heap.size, 3, none⟩ (.slice (some ⟨g2, 0, none⟩) 0 c2)).frozen? ⟨wq.heap.size, 3, none⟩ = false := by simp only [World.frozen?_setCell]; exact t10
    obtain ⟨w3, hw3⟩ : ∃ w3, w3 = (((w2.setCell ⟨wq.heap.size, 0, none⟩ (.int .i64 z3)).setCell ⟨wq.heap.size, 1, none⟩ (.int .i64 z4)).setCell ⟨wq.heap.size, 2, none⟩ (.int .i64 id)).setCell ⟨wq.heap.size, 3, none⟩ (.slice (some ⟨g2, 0, none⟩) 0 c2) := ⟨_, rfl⟩
    rw [← hw3] at u0 u1 u2 u3 f0 f1 f2 f3 ⊢
    have HW3 := hide hw3
    clear hw3 t1 t2 t3 t4 t5 t6 t7 t8 t9 t10 q1 q2 q3 q4 q5 q6 q7 q8 q9 q10
    have X4 := hide (four_setFr w3 wq.heap.size _ _ _ _ (.int .i64 z3) (.int .i64 z4) (.int .i64 id) (.slice (some ⟨g2, 0, none⟩) 0 c2) u0 u1 u2 u3)
    go_wp2
    obtain ⟨⟨x0, x1⟩, x2, x3⟩ := X4.out
    obtain ⟨w4, hw4⟩ : ∃ w4, w4 = (((w3.setCell ⟨wq.heap.size, 0, none⟩ (.int .i64 z3)).setCell ⟨wq.heap.size, 1, none⟩ (.int .i64 z4)).setCell ⟨wq.heap.size, 2, none⟩ (.int .i64 id)).setCell ⟨wq.heap.size, 3, none⟩ (.slice (some ⟨g2, 0, none⟩) 0 c2) := ⟨_, rfl⟩
    rw [← hw4] at x0 x1 x2 x3 ⊢
    have HW4 := hide hw4
    clear hw4 X4 u0 u1 u2 u3 f0 f1 f2 f3
    try simp only [Exit.inBlock, Exit.then]
    refine bodyPost_ret (by simp [results, Tryz.results65, go_sem, x0, x1, x2, x3]; try rfl) rfl ?_
    have hg2 : wq.heap.size ≠ g2 := by
      have h1 := (O2.out.lt g2 rfl).1
      have h2 : wA.drew.heap.size = wA.heap.size := rfl
      have h3 := HSZ.out
      omega
    refine ⟨rdfe_goodFr HR3.out HL9.out (Or.inr ⟨g2, 0, rfl, ?_⟩) (fun gg oo ee => by have e9 := Option.some.inj ee; injection e9 with e9; have h1 := (O2.out.lt g2 rfl).1; have h2 : wA.drew.heap.size = wA.heap.size := rfl; have h3 := HSZ.out; have h4 := HSQ.out; omega), ?_⟩
    · rw [HW4.out]
      repeat (refine row_setFr ?_ hg2 _)
      rw [HW3.out]
      repeat (refine row_setFr ?_ hg2 _)
      exact row_of HL9.out O2.out (byte_memFr HBY.out)
    · have hsq := HSQ.out
      rw [HW4.out]
      repeat (refine Below.setCell ?_ (by first | (simp; done) | (simp; omega) | omega) _)
      rw [HW3.out]
      repeat (refine Below.setCell ?_ (by first | (simp; done) | (simp; omega) | omega) _)
      exact HBA.out.trans ((HSD.out _ B2.out).mono (by have := HSZ.out; omega))
  · rw [if_neg hc9] at ho9
    injection ho9 with ho9
    injection ho9 with _ ho9 _
    subst ho9
    go_wp2_with fail
    have hneb : wq.heap.size ≠ g := by omega
    have HK : Hid (∀ (wx : World) (o1 : Nat) (v : Value) (o2 : Nat), (wx.setCell ⟨wq.heap.size, o1, none⟩ v).cell? ⟨g, o2, none⟩ = wx.cell? ⟨g, o2, none⟩) := fun wx o1 v o2 => World.cell?_setCell_far wx ⟨wq.heap.size, o1, none⟩ ⟨g, o2, none⟩ v hneb
    have i3 : (3 : Int) < (len : Int) := by omega
    have i4 : (4 : Int) < (len : Int) := by omega
    have i3n : 3 < len := by omega
    have i4n : 4 < len := by omega
    clear hneb
    have QD : Hid (wA.drew.cell? ⟨g, off + 3, none⟩ = some (.int .u8 z3) ∧ wA.drew.cell? ⟨g, off + 4, none⟩ = some (.int .u8 z4)) := ⟨q1, q2⟩
    go_region_held3 (fun wx => wx.cell? ⟨g, off + 3, none⟩ = some (.int .u8 z3) ∧ wx.cell? ⟨g, off + 4, none⟩ = some (.int .u8 z4))
      (first | (with_reducible exact (HS.out w2 (HSD.out w2 B2.out)).1.1.1) | (with_reducible exact QD.out) | (simp only [HK.out]; with_reducible exact (HS.out w2 (HSD.out w2 B2.out)).1.1.1))
      ((go_at_call 52; refine HCL.out.mono ?_; rintro e w2 ⟨g2, c2, rfl, ho2, hb2⟩; obtain ⟨⟨⟨⟨t1, t2⟩, t3, t4⟩, ⟨t5, t6⟩, t7, t8⟩, t9, t10⟩ := HS.out w2 (HSD.out _ hb2); have O2 := hide ho2; have B2 := hide hb2; clear ho2 hb2))
    have wz3 : IntKind.i64.wrap z3 = z3 := by rw [IntKind.wrap_i64]; omega
    have wz4 : IntKind.i64.wrap z4 = z4 := by rw [IntKind.wrap_i64]; omega
    try simp only [wz3, wz4]
    clear wz3 wz4
    obtain ⟨⟨u0, u1⟩, u2, u3⟩ := four_setFr w2 wq.heap.size _ _ _ _ (.int .i64 z3) (.int .i64 z4) (.int .i64 id) (.slice (some ⟨g2, 0, none⟩) m c2) t3 t4 t5 t6
    have f0 : ((((w2.setCell ⟨wq.heap.size, 0, none⟩ (.int .i64 z3)).setCell ⟨wq.heap.size, 1, none⟩ (.int .i64 z4)).setCell ⟨wq.heap.size, 2, none⟩ (.int .i64 id)).setCell ⟨wq.heap.size, 3, none⟩ (.slice (some ⟨g2, 0, none⟩) m c2)).frozen? ⟨wq.heap.size, 0, none⟩ = false := by simp only [World.frozen?_setCell]; exact t7
    have f1 : ((((w2.setCell ⟨wq.heap.size, 0, none⟩ (.int .i64 z3)).setCell ⟨wq.heap.size, 1, none⟩ (.int .i64 z4)).setCell ⟨wq.heap.size, 2, none⟩ (.int .i64 id)).setCell ⟨wq.heap.size, 3, none⟩ (.slice (some ⟨g2, 0, none⟩) m c2)).frozen? ⟨wq.heap.size, 1, none⟩ = false := by simp only [World.frozen?_setCell]; exact t8
    have f2 : ((((w2.setCell ⟨wq.heap.size, 0, none⟩ (.int .i64 z3)).setCell ⟨wq.heap.size, 1, none⟩ (.int .i64 z4)).setCell ⟨wq.heap.size, 2, none⟩ (.int .i64 id)).setCell ⟨wq.heap.size, 3, none⟩ (.slice (some ⟨g2, 0, none⟩) m c2)).frozen? ⟨wq.heap.size, 2, none⟩ = false := by simp only [World.frozen?_setCell]; exact t9
    have f3 : ((((w2.setCell ⟨wq.heap.size, 0, none⟩ (.int .i64 z3)).setCell ⟨wq.heap.size, 1, none⟩ (.int .i64 z4)).setCell ⟨wq.heap.size, 2, none⟩ (.int .i64 id)).setCell ⟨wq.heap.size, 3, none⟩ (.slice (some ⟨g2, 0, none⟩) m c2)).frozen? ⟨wq.heap.size, 3, none⟩ = false := by simp only [World.frozen?_setCell]; exact t10
    obtain ⟨w3, hw3⟩ : ∃ w3, w3 = (((w2.setCell ⟨wq.heap.size, 0, none⟩ (.int .i64 z3)).setCell ⟨wq.heap.size, 1, none⟩ (.int .i64 z4)).setCell ⟨wq.heap.size, 2, none⟩ (.int .i64 id)).setCell ⟨wq.heap.size, 3, none⟩ (.slice (some ⟨g2, 0, none⟩) m c2) := ⟨_, rfl⟩
    rw [← hw3] at u0 u1 u2 u3 f0 f1 f2 f3 ⊢
    have HW3 := hide hw3
    clear hw3 t1 t2 t3 t4 t5 t6 t7 t8 t9 t10 q1 q2 q3 q4 q5 q6 q7 q8 q9 q10
    have X4 := hide (four_setFr w3 wq.heap.size _ _ _ _ (.int .i64 z3) (.int .i64 z4) (.int .i64 id) (.slice (some ⟨g2, 0, none⟩) m c2) u0 u1 u2 u3)
    go_wp2
    obtain ⟨⟨x0, x1⟩, x2, x3⟩ := X4.out
    obtain ⟨w4, hw4⟩ : ∃ w4, w4 = (((w3.setCell ⟨wq.heap.size, 0, none⟩ (.int .i64 z3)).setCell ⟨wq.heap.size, 1, none⟩ (.int .i64 z4)).setCell ⟨wq.heap.size, 2, none⟩ (.int .i64 id)).setCell ⟨wq.heap.size, 3, none⟩ (.slice (some ⟨g2, 0, none⟩) m c2) := ⟨_, rfl⟩
    rw [← hw4] at x0 x1 x2 x3 ⊢
    have HW4 := hide hw4
    clear hw4 X4 u0 u1 u2 u3 f0 f1 f2 f3
    try simp only [Exit.inBlock, Exit.then]
    refine bodyPost_ret (by simp [results, Tryz.results65, go_sem, x0, x1, x2, x3]; try rfl) rfl ?_
    have hg2 : wq.heap.size ≠ g2 := by
      have h1 := (O2.out.lt g2 rfl).1
      have h2 : wA.drew.heap.size = wA.heap.size := rfl
      have h3 := HSZ.out
      omega
    refine ⟨rdfe_goodFr HR3.out HL9.out (Or.inr ⟨g2, 0, rfl, ?_⟩) (fun gg oo ee => by have e9 := Option.some.inj ee; injection e9 with e9; have h1 := (O2.out.lt g2 rfl).1; have h2 : wA.drew.heap.size = wA.heap.size := rfl; have h3 := HSZ.out; have h4 := HSQ.out; omega), ?_⟩
    · rw [HW4.out]
      repeat (refine row_setFr ?_ hg2 _)
      rw [HW3.out]
      repeat (refine row_setFr ?_ hg2 _)
      exact row_of HL9.out O2.out (byte_memFr HBY.out)
    · have hsq := HSQ.out
      rw [HW4.out]
      repeat (refine Below.setCell ?_ (by first | (simp; done) | (simp; omega) | omega) _)
      rw [HW3.out]
      repeat (refine Below.setCell ?_ (by first | (simp; done) | (simp; omega) | omega) _)
      exact HBA.out.trans ((HSD.out _ B2.out).mono (by have := HSZ.out; omega))
/-- frame.Read, whole. -/
theorem read_anyFr (a : Option Addr) (len cap : Nat) (Z : List Int) (w : World) (hA : Arg w a len cap Z) (hZ : Z.length = len) :
    Calls Tryz.prog 65 #[.slice a len cap] w fun e w' => RdFeFr w.heap.size w' (rdF Z) e ∧ Below w.heap.size w w' := by
  rcases Nat.lt_or_ge len 9 with h | h
  · exact read_short9Fr a len cap Z w hZ h
  · rcases hA with ⟨h0, _⟩ | ⟨g, off, rfl, hr⟩
    · omega
    · exact read_rowFr g off len cap Z w hr h
end Go.Proofs.YtdlaaollamgplagGreatDoor
