/-
  ORDER: the library's rotate. No claim by itself.
-/
import Derived.Lib.Bytealg
import Derived.Laws.Externs
import Derived.Laws.StandIn
import Derived.Deep.RegionHeld3
import Derived.BigQuiet
import Derived.Test.YtibipnipeaeonaaGreatDoorMV
import Derived.Test.YtibipnipeaeonaaGreatDoorNdv1X
namespace Go.Proofs.YtibipnipeaeonaaGreatDoor
open Go Go.RowKit
set_option maxRecDepth 100000
set_option maxHeartbeats 2000000 in
theorem zrot_any (w0 : World) (g off len cap a m b : Nat) (F : Value) (D T : List FB) (w : World) (h : SW w0 g off len cap D w) (hlen : len ≤ 4611686018427387904) (ham : a < m) (hmb : m < b) (hbl : b ≤ len) (hT : Rot T m (m - a) (b - m) D) :
    Calls Tryz.prog 100 #[.slice (some ⟨g, off, none⟩) len cap, .int .i64 a, .int .i64 m, .int .i64 b, F] w fun e w' => (∃ v, e = .returned v) ∧ SW w0 g off len cap T w' := by
  have H := vl h
  have HT := vl hT
  have hcap := h.row.hcap
  have i0 : (m : Int) - (a : Int) = ((m - a : Nat) : Int) := by omega
  have j0 : (b : Int) - (m : Int) = ((b - m : Nat) : Int) := by omega
  obtain ⟨p, hp⟩ : ∃ p, m - a = p := ⟨_, rfl⟩
  obtain ⟨q, hq⟩ : ∃ q, b - m = q := ⟨_, rfl⟩
  rw [hp] at HT i0
  rw [hq] at HT j0
  have hpm : p ≤ m := by omega
  have hql : m + q ≤ len := by omega
  have I0 := vl i0
  have J0 := vl j0
  clear h hT hp hq i0 j0
  go_enter Tryz.func100, Tryz.ntmps100
  go_wp2_with fail
  go_loopw [10, 11] (fun i j wr => ∃ (k l : Nat) (E : List FB), i = .int .i64 k ∧ j = .int .i64 l ∧ k ≤ p ∧ l ≤ q ∧ Vl (Rot T m k l E) ∧ Vl (SW w0 g off len cap E wr)) (fun i j _ => (intOf i).toNat + (intOf j).toNat)
  case atStart => exact ⟨p, q, D, by rw [I0.out], by rw [J0.out], Nat.le_refl _, Nat.le_refl _, HT, H⟩
  case round =>
    obtain ⟨k, l, E, rfl, rfl, hk, hl, HR, HW⟩ := hrel
    obtain ⟨r1, r2, r3, r4⟩ := HR.out.bnd
    rw [HW.out.row.hlen] at r2
    have e1 : (m : Int) - (k : Int) = ((m - k : Nat) : Int) := by omega
    have E1 := vl e1
    clear e1
    by_cases heq : k = l
    · subst heq
      have HC := vl (zswr_any w0 g off len cap (m - k) m k F E wr HW.out (by omega) r2 hlen)
      rw [← E1.out] at HC
      go_wp2_with fail
      refine HC.out.mono ?_
      rintro e w1 ⟨⟨v, rfl⟩, E', hE, hw⟩
      have HF := vl (HR.out.fin hE ▸ hw)
      clear hE hw
      go_wp2_with fail
      go_end0
      exact ⟨⟨_, rfl⟩, HF.out⟩
    · have hne : ¬ (k : Int) = (l : Int) := by omega
      have hne2 : ((k : Int) != (l : Int)) = true := by simpa using hne
      by_cases hgt : l < k
      · have hgt' : (l : Int) < (k : Int) := by omega
        have HC := vl (zswr_any w0 g off len cap (m - k) m l F E wr HW.out (by omega) r2 hlen)
        rw [← E1.out] at HC
        have E2 : Vl ((k : Int) - (l : Int) = ((k - l : Nat) : Int)) := vl (by omega)
        go_wp2_with fail
        refine HC.out.mono ?_
        rintro e w1 ⟨⟨v, rfl⟩, E', hE, hw⟩
        have HR2 := vl (HR.out.left hgt hE)
        have HW2 := vl hw
        clear hE hw HC
        go_wp2_with fail
        go_roundw
        case rel => exact ⟨k - l, l, E', by rw [E2.out], rfl, by omega, by omega, HR2, HW2⟩
        case measure => simp [intOf]; omega
      · have hgt' : ¬ (l : Int) < (k : Int) := by omega
        have HC := vl (zswr_any w0 g off len cap (m - k) (m + l - k) k F E wr HW.out (by omega) (by omega) hlen)
        have e2 : (m : Int) + (l : Int) - (k : Int) = ((m + l - k : Nat) : Int) := by omega
        have E3 : Vl ((l : Int) - (k : Int) = ((l - k : Nat) : Int)) := vl (by omega)
        rw [← E1.out, ← e2] at HC
        clear e2
        go_wp2_with fail
        refine HC.out.mono ?_
        rintro e w1 ⟨⟨v, rfl⟩, E', hE, hw⟩
        have HR2 := vl (HR.out.right (by omega) hE)
        have HW2 := vl hw
        clear hE hw HC
        go_wp2_with fail
        go_roundw
        case rel => exact ⟨k, l - k, E', rfl, by rw [E3.out], by omega, by omega, HR2, HW2⟩
        case measure => simp [intOf]; omega
end Go.Proofs.YtibipnipeaeonaaGreatDoor
/-
  ORDER: the comparison, and the library's insertion sort. No claim by itself.
-/
namespace Go.Proofs.YtibipnipeaeonaaGreatDoor
open Go Go.RowKit
set_option maxRecDepth 100000
theorem cmp_lex : ∀ (x y : List UInt8), decide (Lib.compareBytes x y < 0) = lexLt (x.map fun c => (c.toNat : Int)) (y.map fun c => (c.toNat : Int))
  | [], [] => rfl
  | [], _ :: _ => rfl
  | _ :: _, [] => rfl
  | a :: x, b :: y => by
    rw [Lib.compareBytes, List.map_cons, List.map_cons, lexLt]
    by_cases h1 : a < b
    · have h1' : (a.toNat : Int) < (b.toNat : Int) := by have := UInt8.lt_iff_toNat_lt.1 h1; omega
      rw [if_pos h1, if_pos h1']
      rfl
    · have h1' : ¬ (a.toNat : Int) < (b.toNat : Int) := fun h => h1 (UInt8.lt_iff_toNat_lt.2 (by omega))
      rw [if_neg h1, if_neg h1']
      by_cases h2 : b < a
      · have h2' : ¬ (a.toNat : Int) = (b.toNat : Int) := by have := UInt8.lt_iff_toNat_lt.1 h2; omega
        rw [if_pos h2, if_neg h2']
        rfl
      · have h2' : (a.toNat : Int) = (b.toNat : Int) := by
          have : ¬ b.toNat < a.toNat := fun h => h2 (UInt8.lt_iff_toNat_lt.2 h)
          omega
        rw [if_neg h2, if_pos h2']
        exact cmp_lex x y
theorem zcs_any (a b : ByteArray) (w : World) : Calls Tryz.prog 67 #[.string a, .string b] w fun e w' => e = .returned (.int .i64 (Lib.compareBytes a.data.toList b.data.toList)) ∧ w = w' := by
  go_enter Tryz.func67, Tryz.ntmps67
  go_wp2
  rw [run_callFunc_extern Tryz.func83 (by kernel_rfl) (by kernel_rfl) (by kernel_rfl) (e := Extern.BytealgCompare.compare) (by kernel_rfl), Lib.run_compareString]
  simp only [Result.andThen]
  rw [Oper.upon_value]
  go_wp2
  go_ret
  exact ⟨rfl, rfl⟩
theorem zcmp_any (a b : ByteArray) (w : World) : Calls Tryz.prog 52 #[.string a, .string b] w fun e w' => e = .returned (.int .i64 (Lib.compareBytes a.data.toList b.data.toList)) ∧ w = w' := by
  have H := vl (zcs_any a b w)
  generalize Lib.compareBytes a.data.toList b.data.toList = k at *
  go_enter Tryz.func52, Tryz.ntmps52
  go_wp2_with fail
  refine H.out.mono ?_
  rintro _ _ ⟨rfl, rfl⟩
  go_wp2
  go_ret
  exact ⟨rfl, rfl⟩
/-- The comparison that is handed in: less than 0 where the one name is ahead of the other one. -/
theorem zless_any (n v m u : ByteArray) (w : World) : Calls Tryz.prog 51 #[.agg #[.string n, .string v], .agg #[.string m, .string u]] w fun e w' => (∃ k : Int, e = .returned (.int .i64 k) ∧ decide (k < 0) = lexLt (unums n) (unums m)) ∧ Below w.heap.size w w' := by
  have HB : Vl (Below w.heap.size w ((w.alloc (.cells #[.string n, .string v] 84)).alloc (.cells #[.string m, .string u] 84))) := ((Below.refl _ w).alloc (Nat.le_refl _) _).alloc (by simp) _
  have HK := vl (cmp_lex n.data.toList m.data.toList)
  have HC := vl (fun W => zcmp_any n m W)
  obtain ⟨k, hk⟩ : ∃ k, Lib.compareBytes n.data.toList m.data.toList = k := ⟨_, rfl⟩
  rw [hk] at HC HK
  clear hk
  go_enter Tryz.func51, Tryz.ntmps51
  go_wp2_with fail
  refine (HC.out _).mono ?_
  rintro _ _ ⟨rfl, rfl⟩
  go_wp2
  go_ret
  exact ⟨⟨k, rfl, HK.out⟩, HB.out⟩
def cmpV : Value := .func (.func 51) #[] #[]
theorem zenters : ∀ args w, (callFunc 51 args).run Tryz.prog w = .ok (.enter 51 args) w := enters_of Tryz.func51 (by kernel_rfl) rfl
theorem snoc_of {L : List FB} (h : L ≠ []) : ∃ U u, L = U ++ [u] := by
  rcases List.eq_nil_or_concat L with e | ⟨U, u, e⟩
  · exact absurd e h
  · exact ⟨U, u, by simpa using e⟩
theorem getD_at (P Q : List FB) (x : FB) : (P ++ x :: Q).getD P.length fnone = x := by rw [getD_app, if_neg (Nat.lt_irrefl _), Nat.sub_self]; rfl
/-- Where an insertion stands: x is between what is not greater, or not looked at, and what is greater. -/
def InsI (A Z R : List FB) (x : FB) (j : Nat) (E : List FB) : Prop := ∃ U V, Z = U ++ V ∧ E = A ++ U ++ [x] ++ V ++ R ∧ j = A.length + U.length ∧ ∀ y ∈ V, lexLt (nmK x) (nmK y) = true
theorem InsI.stop {A Z R E : List FB} {x : FB} {j : Nat} (h : InsI A Z R x j E) (hZ : Srt nmK Z) (hs : j = A.length ∨ lexLt (nmK (E.getD j fnone)) (nmK (E.getD (j - 1) fnone)) = false) : ∃ Z', E = A ++ Z' ++ R ∧ Mrg nmK Z [x] Z' := by
  obtain ⟨U, V, rfl, rfl, hj, hV⟩ := h
  refine ⟨U ++ [x] ++ V, by simp, mrg_oneR hZ (fun u hu => ?_) hV⟩
  rcases hs with e | e
  · have : U = [] := List.length_eq_zero_iff.1 (by omega)
    subst this
    cases hu
  · by_cases hU : U = []
    · subst hU; cases hu
    · obtain ⟨U', u', rfl⟩ : ∃ U' u', U = U' ++ [u'] := snoc_of hU
      have e0 : A ++ (U' ++ [u']) ++ [x] ++ V ++ R = (A ++ U') ++ u' :: x :: (V ++ R) := by simp
      have e00 : A ++ (U' ++ [u']) ++ [x] ++ V ++ R = (A ++ U' ++ [u']) ++ x :: (V ++ R) := by simp
      have h1 : j = (A ++ U' ++ [u']).length := by simp at hj ⊢; omega
      have h2 : j - 1 = (A ++ U').length := by simp at hj ⊢; omega
      have e1 : (A ++ (U' ++ [u']) ++ [x] ++ V ++ R).getD j fnone = x := by rw [e00, h1]; exact getD_at _ _ _
      have e2 : (A ++ (U' ++ [u']) ++ [x] ++ V ++ R).getD (j - 1) fnone = u' := by rw [e0, h2]; exact getD_at _ _ _
      rw [e1, e2] at e
      refine lex_le_trans ?_ e
      rcases List.mem_append.1 hu with h | h
      · exact srt_mid (srt_left hZ) u h u' (List.mem_singleton.2 rfl)
      · rw [List.mem_singleton.1 h]; exact le_refl' _
theorem InsI.down {A Z R E : List FB} {x : FB} {j : Nat} (h : InsI A Z R x (j + 1) E) (hA : A.length < j + 1) (hl : lexLt (nmK (E.getD (j + 1) fnone)) (nmK (E.getD j fnone)) = true) : InsI A Z R x j (swapL fnone E (j + 1) j) := by
  obtain ⟨U, V, rfl, rfl, hj, hV⟩ := h
  obtain ⟨U', u, rfl⟩ : ∃ U' u, U = U' ++ [u] := by
    have : U ≠ [] := by intro e; subst e; simp at hj; omega
    exact snoc_of this
  simp at hj
  have ej : j = (A ++ U').length := by simp; omega
  have e0 : A ++ (U' ++ [u]) ++ [x] ++ V ++ R = (A ++ U') ++ u :: x :: (V ++ R) := by simp
  rw [e0] at hl ⊢
  have e1 : ((A ++ U') ++ u :: x :: (V ++ R)).getD (j + 1) fnone = x := by
    rw [getD_app, if_neg (by omega), show j + 1 - (A ++ U').length = 1 by omega]; rfl
  have e2 : ((A ++ U') ++ u :: x :: (V ++ R)).getD j fnone = u := by
    rw [getD_app, if_neg (by omega), show j - (A ++ U').length = 0 by omega]; rfl
  rw [e1, e2] at hl
  rw [ej, swap_adj']
  refine ⟨U', u :: V, by simp, by simp, by simp, fun y hy => ?_⟩
  rcases List.mem_cons.1 hy with rfl | hy
  · exact hl
  · exact hV y hy
/-- How far an insertion sort came. -/
def InsO (A X R : List FB) (i : Nat) (E : List FB) : Prop := ∃ X1 X2 Z, X = X1 ++ X2 ∧ i = A.length + X1.length ∧ E = A ++ Z ++ X2 ++ R ∧ Srt nmK Z ∧ Sby nmK X1 Z ∧ Z.length = X1.length
theorem InsO.step {A X R E : List FB} {i : Nat} (h : InsO A X R i E) (hi : i < A.length + X.length) : ∃ Z X2 x, InsI A Z (X2 ++ R) x i E ∧ Srt nmK Z ∧ (∀ E' Z', E' = A ++ Z' ++ (X2 ++ R) → Mrg nmK Z [x] Z' → InsO A X R (i + 1) E') := by
  obtain ⟨X1, X2, Z, rfl, hi', rfl, hZ, hb, hl⟩ := h
  match X2, hi with
  | [], hi => simp at hi; omega
  | x :: r, _ =>
    refine ⟨Z, r, x, ⟨Z, [], by simp, by simp, by omega, fun y hy => by cases hy⟩, hZ, fun E' Z' e m => ⟨X1 ++ [x], r, Z', by simp, by simp; omega, by rw [e]; simp, m.srt, ?_, by rw [m.len]; simp; omega⟩⟩
    exact (Sby.app hb (Sby.refl _)).trans m.sby
theorem InsO.start {A X R : List FB} (h : X ≠ []) : InsO A X R (A.length + 1) (A ++ X ++ R) := by
  match X, h with
  | x :: r, _ => exact ⟨[x], r, [x], rfl, rfl, by simp, List.pairwise_singleton _ _, Sby.refl _, rfl⟩
theorem InsI.len {A Z R E : List FB} {x : FB} {j : Nat} (h : InsI A Z R x j E) : A.length ≤ j ∧ j < E.length := by
  obtain ⟨U, V, rfl, rfl, hj, _⟩ := h
  exact ⟨by omega, by simp [hj]⟩
/-- Two fields of a row, cell by cell. -/
def FC2 (W : World) (g off i j : Nat) (p1 p2 q1 q2 : ByteArray) : Prop := W.cell? ⟨g, off + i * 2, none⟩ = some (.string p1) ∧ W.cell? ⟨g, off + i * 2 + 1, none⟩ = some (.string p2) ∧ W.cell? ⟨g, off + j * 2, none⟩ = some (.string q1) ∧ W.cell? ⟨g, off + j * 2 + 1, none⟩ = some (.string q2)
theorem FC2.below {W W' : World} {g off i j : Nat} {p1 p2 q1 q2 : ByteArray} (h : FC2 W g off i j p1 p2 q1 q2) (hb : Below W.heap.size W W') : W'.cell? ⟨g, off + i * 2, none⟩ = some (.string p1) ∧ W'.cell? ⟨g, off + i * 2 + 1, none⟩ = some (.string p2) ∧ W'.cell? ⟨g, off + j * 2, none⟩ = some (.string q1) ∧ W'.cell? ⟨g, off + j * 2 + 1, none⟩ = some (.string q2) := by
  have hg := blk_of_cell h.1
  exact ⟨(hb.cell (p := ⟨g, off + i * 2, none⟩) hg).trans h.1, (hb.cell (p := ⟨g, off + i * 2 + 1, none⟩) hg).trans h.2.1, (hb.cell (p := ⟨g, off + j * 2, none⟩) hg).trans h.2.2.1, (hb.cell (p := ⟨g, off + j * 2 + 1, none⟩) hg).trans h.2.2.2⟩
theorem SW.fc2 {w0 w : World} {g off len cap i j : Nat} {D : List FB} {p1 p2 q1 q2 : ByteArray} (h : SW w0 g off len cap D w) (hi : i < len) (hj : j < len) (hp : D.getD i fnone = (p1, p2)) (hq : D.getD j fnone = (q1, q2)) : FC2 w g off i j p1 p2 q1 q2 := by
  have a1 := h.row.hname i hi
  have a2 := h.row.hvalue i hi
  have a3 := h.row.hname j hj
  have a4 := h.row.hvalue j hj
  rw [hp] at a1 a2
  rw [hq] at a3 a4
  exact ⟨a1, a2, a3, a4⟩
set_option maxHeartbeats 4000000 in
theorem zins_any (w0 : World) (g off len cap : Nat) (A X R : List FB) (w : World) (h : SW w0 g off len cap (A ++ X ++ R) w) (hlen : len ≤ 4398046511104) :
    Calls Tryz.prog 81 #[.slice (some ⟨g, off, none⟩) len cap, .int .i64 (A.length : Nat), .int .i64 ((A.length + X.length : Nat) : Int), .func (.func 51) #[] #[]] w fun e w' => (∃ v, e = .returned v) ∧ ∃ Z, SW w0 g off len cap (A ++ Z ++ R) w' ∧ Srt nmK Z ∧ Sby nmK X Z ∧ Z.length = X.length := by
  have H := vl h
  have hl := h.row.hlen
  have hcap := h.row.hcap
  have hax : A.length + X.length ≤ len := by rw [← hl]; simp
  have HZ := vl zless_any
  obtain ⟨a, ha⟩ : ∃ a, A.length = a := ⟨_, rfl⟩
  obtain ⟨b, hb⟩ : ∃ b, a + X.length = b := ⟨_, rfl⟩
  rw [ha] at hax ⊢
  rw [hb] at hax ⊢
  have HA := vl ha
  have HBX := vl hb
  have hab : a ≤ b := by omega
  clear h hl ha hb
  go_enter Tryz.func81, Tryz.ntmps81
  go_wp2_with fail
  go_loopw [8] (fun i wr => ∃ (k : Nat) (E : List FB), i = .int .i64 k ∧ a < k ∧ k ≤ b + 1 ∧ Vl (b < k → X = [] ∧ E = A ++ X ++ R) ∧ Vl (k ≤ b → InsO A X R k E) ∧ Vl (SW w0 g off len cap E wr)) (fun i _ => b + 1 - (intOf i).toNat)
  case atStart =>
    refine ⟨a + 1, A ++ X ++ R, by go_num, by omega, by omega, vl (fun hh => ⟨List.length_eq_zero_iff.1 (by have := HBX.out; omega), rfl⟩), vl (fun hh => ?_), H⟩
    have := InsO.start (A := A) (X := X) (R := R) (fun e => by have := HBX.out; rw [e] at this; simp at this; omega)
    rwa [HA.out] at this
  case round =>
    obtain ⟨k, E, rfl, hak, hkb, HE, HO, HW⟩ := hrel
    obtain ⟨wO, hwO⟩ : ∃ x, x = wr := ⟨_, rfl⟩
    subst hwO
    by_cases hlt : k < b
    · have hlt' : (k : Int) < (b : Int) := by omega
      obtain ⟨Z, X2, x, hI, hZ, hN⟩ := (HO.out (by omega)).step (by rw [HA.out, HBX.out]; exact hlt)
      have HI := vl hI
      have HZS := vl hZ
      have HN := vl hN
      clear hI hZ hN HE
      go_wp2_with fail
      go_loopw [9] (fun j wr2 => ∃ (t : Nat) (E2 : List FB), j = .int .i64 t ∧ a ≤ t ∧ t ≤ k ∧ Vl (InsI A Z (X2 ++ R) x t E2) ∧ Vl (SW w0 g off len cap E2 wr2)) (fun j _ => (intOf j).toNat)
      case atStart => exact ⟨k, E, rfl, by omega, Nat.le_refl _, HI, HW⟩
      case round =>
        obtain ⟨t, E2, rfl, hat, htk, HI2, HW2⟩ := hrel
        have hE2 := HW2.out.row.hlen
        have ht2 := HI2.out.len.2
        rw [hE2] at ht2
        have htl : (t : Int) < (len : Int) := by omega
        by_cases hgt : a < t
        · have hgt' : (a : Int) < (t : Int) := by omega
          obtain ⟨s, rfl⟩ : ∃ s, t = s + 1 := ⟨t - 1, by omega⟩
          have c1 := HW2.out.row.hname (s + 1) (by omega)
          have c2 := HW2.out.row.hvalue (s + 1) (by omega)
          have c3 := HW2.out.row.hname s (by omega)
          have c4 := HW2.out.row.hvalue s (by omega)
          have f1 := HW2.out.fro
          obtain ⟨p, hp⟩ : ∃ p, E2.getD (s + 1) fnone = p := ⟨_, rfl⟩
          obtain ⟨q, hq⟩ : ∃ q, E2.getD s fnone = q := ⟨_, rfl⟩
          rw [hp] at c1 c2
          rw [hq] at c3 c4
          have HP := vl hp
          have HQ := vl hq
          obtain ⟨p1, p2⟩ := p
          obtain ⟨q1, q2⟩ := q
          have HC := vl (fun W => HZ.out p1 p2 q1 q2 W)
          obtain ⟨r, hr⟩ : ∃ r, lexLt (unums p1) (unums q1) = r := ⟨_, rfl⟩
          rw [hr] at HC
          have HR := vl hr
          have hwp : IntKind.i64.wrap (s : Int) = (s : Int) := by rw [IntKind.wrap_i64]; omega
          have hs0 : (0 : Int) ≤ (s : Int) + 1 := by omega
          have hs1 : (s : Int) + 1 < (len : Int) := by omega
          have hs2 : (s : Int) < (len : Int) := by omega
          have hs3 : s + 1 < len := by omega
          have hs4 : s < len := by omega
          have hs5 : (a : Int) < (s : Int) + 1 := by omega
          have hgl : g < wr.drew.heap.size := blk_of_cell c1
          have HFC := vl (show FC2 wr.drew g off (s + 1) s p1 p2 q1 q2 from ⟨c1, c2, c3, c4⟩)
          have HSTOP := vl (fun hh : r = false => HI2.out.stop HZS.out (Or.inr (by rw [show s + 1 - 1 = s by omega, HP.out, HQ.out]; exact HR.out.trans hh)))
          have HDOWN := vl (fun hh : r = true => HI2.out.down (by rw [HA.out]; omega) (by rw [HP.out, HQ.out]; exact HR.out.trans hh))
          clear hp hq hr hE2 ht2 htl hgt' hgt HI HO HI2
          go_wp2_with fail
          go_region_held3 (fun w' => w'.cell? ⟨g, off + (s + 1) * 2, none⟩ = some (.string p1) ∧ w'.cell? ⟨g, off + (s + 1) * 2 + 1, none⟩ = some (.string p2) ∧ w'.cell? ⟨g, off + s * 2, none⟩ = some (.string q1) ∧ w'.cell? ⟨g, off + s * 2 + 1, none⟩ = some (.string q2))
            (first | go_keep | (with_reducible exact (HFC.out.below hb2)))
            ((go_at_call 51; refine (HC.out _).mono ?_; rintro e w2 ⟨⟨kk, rfl, hkk⟩, hb2⟩))
          have HW3 : Vl (SW w0 g off len cap E2 w2) := (HW2.out.drew).below hb2
          clear hb2 HFC hkk HC c1 c2 c3 c4 f1 HW2
          cases r with
          | false =>
            obtain ⟨Z', e1, hM⟩ := HSTOP.out rfl
            have HNX := vl (HN.out E2 Z' e1 hM)
            clear HSTOP HDOWN e1 hM
            go_wp2_with fail
            go_roundw
            case rel => exact ⟨k + 1, E2, by go_num, by omega, by omega, vl (fun hh => by omega), vl (fun _ => HNX.out), HW3⟩
            case measure => simp [intOf]; omega
          | true =>
            have HD := vl (HDOWN.out rfl)
            obtain ⟨c1, c2, c3, c4⟩ : FC2 w2 g off (s + 1) s p1 p2 q1 q2 := HW3.out.fc2 hs3 hs4 HP.out HQ.out
            have f1 := HW3.out.fro
            obtain ⟨W4, hW4⟩ : ∃ W4, W4 = ((((w2.setCell ⟨g, off + (s + 1) * 2, none⟩ (.string q1)).setCell ⟨g, off + (s + 1) * 2 + 1, none⟩ (.string q2)).setCell ⟨g, off + s * 2, none⟩ (.string p1)).setCell ⟨g, off + s * 2 + 1, none⟩ (.string p2)).drew := ⟨_, rfl⟩
            have HW4 : Vl (SW w0 g off len cap (swapL fnone E2 (s + 1) s) W4) := by
              rw [hW4]
              exact HW3.out.swap (s + 1) s hs3 hs4 HP.out HQ.out
            have HWD := vl hW4
            clear hW4 HSTOP HDOWN
            go_wp2_with fail
            go_region
            rw [← HWD.out]
            clear HWD c1 c2 c3 c4 f1
            go_wp2_with fail
            go_roundw
            case rel => exact ⟨s, _, by go_num, by omega, by omega, HD, HW4⟩
            case measure => simp [intOf]
        · have hta : t = a := by omega
          have hgt' : ¬ (a : Int) < (t : Int) := by omega
          obtain ⟨Z', e1, hM⟩ := HI2.out.stop HZS.out (Or.inl (by rw [HA.out]; exact hta))
          have HNX := vl (HN.out E2 Z' e1 hM)
          clear e1 hM hta HI HO HI2 hE2 ht2
          have hdc : decide ((a : Int) < (t : Int)) = false := decide_eq_false hgt'
          have HW3 : Vl (∀ n, SW w0 g off len cap E2 (wr.drewN n)) := vl (fun n => HW2.out.below (drewN_below (Below.refl _ wr) n))
          go_wp2_with fail
          go_quiet (fail)
          go_wp2_with fail
          go_roundw
          case rel => exact ⟨k + 1, E2, by go_num, by omega, by omega, vl (fun hh => by omega), vl (fun _ => HNX.out), vl (HW3.out _)⟩
          case measure => simp [intOf]; omega
    · have hlt' : ¬ (k : Int) < (b : Int) := by omega
      have HF : Vl (∃ Z, SW w0 g off len cap (A ++ Z ++ R) wO ∧ Srt nmK Z ∧ Sby nmK X Z ∧ Z.length = X.length) := by
        by_cases hkb2 : k = b
        · obtain ⟨X1, X2, Z, hX, hi, hE, hZ, hb, hl⟩ := HO.out (by omega)
          have hx := HBX.out
          have hA := HA.out
          have hx2 : X2 = [] := List.length_eq_zero_iff.1 (by rw [hX, List.length_append] at hx; omega)
          subst hx2
          rw [List.append_nil] at hX hE
          subst hX
          exact ⟨Z, hE ▸ HW.out, hZ, hb, hl⟩
        · obtain ⟨e1, e2⟩ := HE.out (by omega)
          exact ⟨[], by rw [e1] at e2; exact e2 ▸ HW.out, List.Pairwise.nil, by rw [e1]; exact Sby.refl _, by rw [e1]⟩
      clear HE HO
      go_wp2_with fail
      go_end0
      obtain ⟨Z, k1, k2⟩ := HF.out
      exact ⟨⟨_, rfl⟩, Z, by rw [← List.append_assoc]; exact k1, k2⟩
end Go.Proofs.YtibipnipeaeonaaGreatDoor
/-
  ORDER: what a merge in place does. No claim by itself.
-/
namespace Go.Proofs.YtibipnipeaeonaaGreatDoor
open Go Go.RowKit
set_option maxRecDepth 100000
/-- One text on its way through others. -/
def Sh (A Y : List FB) (x : FB) (C : List FB) (k : Nat) (E : List FB) : Prop := ∃ U V, Y = U ++ V ∧ E = A ++ U ++ [x] ++ V ++ C ∧ k = A.length + U.length
theorem Sh.up {A Y C E : List FB} {x : FB} {k : Nat} (h : Sh A Y x C k E) (hk : k < A.length + Y.length) : Sh A Y x C (k + 1) (swapL fnone E k (k + 1)) := by
  obtain ⟨U, V, rfl, rfl, rfl⟩ := h
  match V, hk with
  | [], hk => simp at hk
  | v :: V, _ =>
    refine ⟨U ++ [v], V, by simp, ?_, by simp; omega⟩
    have e0 : A ++ U ++ [x] ++ v :: V ++ C = (A ++ U) ++ x :: v :: (V ++ C) := by simp
    rw [e0, show A.length + U.length = (A ++ U).length by simp, swap_adj]
    simp
theorem Sh.down {A Y C E : List FB} {x : FB} {k : Nat} (h : Sh A Y x C (k + 1) E) (hk : A.length < k + 1) : Sh A Y x C k (swapL fnone E (k + 1) k) := by
  obtain ⟨U, V, rfl, rfl, hk'⟩ := h
  obtain ⟨U', u, rfl⟩ := snoc_of (L := U) (fun e => by subst e; simp at hk'; omega)
  simp at hk'
  have e0 : A ++ (U' ++ [u]) ++ [x] ++ V ++ C = (A ++ U') ++ u :: x :: (V ++ C) := by simp
  have ek : k = (A ++ U').length := by simp; omega
  refine ⟨U', u :: V, by simp, ?_, by omega⟩
  rw [e0, ek, swap_adj']
  simp
theorem Sh.bnd {A Y C E : List FB} {x : FB} {k : Nat} (h : Sh A Y x C k E) : A.length ≤ k ∧ k ≤ A.length + Y.length ∧ E.length = A.length + Y.length + 1 + C.length := by
  obtain ⟨U, V, rfl, rfl, rfl⟩ := h
  refine ⟨by omega, by rw [List.length_append]; omega, by simp; omega⟩
theorem Sh.last {A Y C E : List FB} {x : FB} {k : Nat} (h : Sh A Y x C k E) (hk : k = A.length + Y.length) : E = A ++ (Y ++ [x]) ++ C := by
  obtain ⟨U, V, rfl, rfl, rfl⟩ := h
  have : V = [] := List.length_eq_zero_iff.1 (by rw [List.length_append] at hk; omega)
  subst this
  simp
theorem Sh.first {A Y C E : List FB} {x : FB} {k : Nat} (h : Sh A Y x C k E) (hk : k = A.length) : E = A ++ ([x] ++ Y) ++ C := by
  obtain ⟨U, V, rfl, rfl, rfl⟩ := h
  have : U = [] := List.length_eq_zero_iff.1 (by omega)
  subst this
  simp
/- what is at a place -/
theorem at_app (A L : List FB) (c : Nat) (h : A.length ≤ c) : (A ++ L).getD c fnone = L.getD (c - A.length) fnone := by rw [getD_app, if_neg (by omega)]
theorem at_left (L R : List FB) (c : Nat) (h : c < L.length) : (L ++ R).getD c fnone = L.getD c fnone := by rw [getD_app, if_pos h]
theorem at_X {A X R : List FB} {c : Nat} (h1 : A.length ≤ c) (h2 : c < A.length + X.length) : (A ++ X ++ R).getD c fnone = X.getD (c - A.length) fnone := by
  rw [List.append_assoc, at_app _ _ _ h1, at_left _ _ _ (by omega)]
theorem at_Y {A X Y B : List FB} {c : Nat} (h1 : A.length + X.length ≤ c) (h2 : c < A.length + X.length + Y.length) : (A ++ X ++ Y ++ B).getD c fnone = Y.getD (c - (A.length + X.length)) fnone := by
  have := at_X (A := A ++ X) (X := Y) (R := B) (c := c) (by simpa using h1) (by simpa using h2)
  simpa using this
theorem mem_fd {L : List FB} {x : FB} (h : x ∈ L) : ∃ i, i < L.length ∧ L.getD i fnone = x := by
  obtain ⟨i, hi, rfl⟩ := List.getElem_of_mem h
  exact ⟨i, hi, by rw [List.getD, List.getElem?_eq_getElem hi]; rfl⟩
def P1 (D : List FB) (a c : Nat) : Prop := lexLt (nmK (D.getD c fnone)) (nmK (D.getD a fnone)) = false
def P2 (D : List FB) (m c : Nat) : Prop := lexLt (nmK (D.getD m fnone)) (nmK (D.getD c fnone)) = true
def P3 (D : List FB) (p c : Nat) : Prop := lexLt (nmK (D.getD (p - c) fnone)) (nmK (D.getD c fnone)) = true
section
variable {A X Y B : List FB}
theorem p1_mono {x : FB} (hY : Srt nmK Y) : ∀ c c', A.length + 1 ≤ c → c ≤ c' → c' < A.length + 1 + Y.length → P1 (A ++ [x] ++ Y ++ B) A.length c → P1 (A ++ [x] ++ Y ++ B) A.length c' := by
  intro c c' h1 h2 h3 h
  unfold P1 at h ⊢
  have key : ∀ c, A.length + 1 ≤ c → c < A.length + 1 + Y.length → (A ++ [x] ++ Y ++ B).getD c fnone = Y.getD (c - (A.length + 1)) fnone := fun c h1 h2 => by rw [at_Y (by simpa using h1) (by simp; omega)]; simp
  rw [key c h1 (by omega)] at h
  rw [key c' (by omega) h3]
  exact lex_le_trans h (srt_get hY (by omega) (by omega) fnone)
theorem p1_end {x : FB} {i : Nat} (hY : Srt nmK Y) (h : Bs (P1 (A ++ [x] ++ Y ++ B) A.length) (A.length + 1) (A.length + 1 + Y.length) i i) : ∃ Y1 Y2, Y = Y1 ++ Y2 ∧ i = A.length + 1 + Y1.length ∧ Mrg nmK [x] Y (Y1 ++ [x] ++ Y2) := by
  have hlo := h.lo
  have hhi := h.hi
  obtain ⟨Y1, Y2, e, hl⟩ := cut_list Y (i - (A.length + 1)) (by omega)
  have ex : (A ++ [x] ++ Y ++ B).getD A.length fnone = x := by rw [show A ++ [x] ++ Y ++ B = A ++ x :: (Y ++ B) by simp]; exact getD_at _ _ _
  refine ⟨Y1, Y2, e, by omega, ?_⟩
  have key : ∀ c, A.length + 1 ≤ c → c < A.length + 1 + Y.length → (A ++ [x] ++ Y ++ B).getD c fnone = Y.getD (c - (A.length + 1)) fnone := fun c h1 h2 => by rw [at_Y (by simpa using h1) (by simp; omega)]; simp
  rw [e]
  refine mrg_oneL (e ▸ hY) (fun y hy => ?_) (fun y hy => ?_)
  · obtain ⟨t, ht, rfl⟩ := mem_fd hy
    have := h.no (A.length + 1 + t) (by omega) (by omega)
    unfold P1 at this
    rw [ex, key _ (by omega) (by have : Y.length = Y1.length + Y2.length := by rw [e]; simp
                                 omega), show A.length + 1 + t - (A.length + 1) = t by omega, e, at_left _ _ _ ht] at this
    cases hh : lexLt (nmK (Y1.getD t fnone)) (nmK x) with
    | true => rfl
    | false => exact absurd hh this
  · obtain ⟨t, ht, rfl⟩ := mem_fd hy
    have hlen : Y.length = Y1.length + Y2.length := by rw [e]; simp
    have := h.yes (A.length + 1 + (Y1.length + t)) (by omega) (by omega)
    unfold P1 at this
    rw [ex, key _ (by omega) (by omega), show A.length + 1 + (Y1.length + t) - (A.length + 1) = Y1.length + t by omega, e, at_app _ _ _ (by omega), show Y1.length + t - Y1.length = t by omega] at this
    exact this
theorem p2_mono {y : FB} (hX : Srt nmK X) : ∀ c c', A.length ≤ c → c ≤ c' → c' < A.length + X.length → P2 (A ++ X ++ [y] ++ B) (A.length + X.length) c → P2 (A ++ X ++ [y] ++ B) (A.length + X.length) c' := by
  intro c c' h1 h2 h3 h
  unfold P2 at h ⊢
  have e : ∀ c, A.length ≤ c → c < A.length + X.length → (A ++ X ++ [y] ++ B).getD c fnone = X.getD (c - A.length) fnone := fun c h1 h2 => by rw [List.append_assoc (A ++ X), at_X h1 h2]
  rw [e c h1 (by omega)] at h
  rw [e c' (by omega) h3]
  exact lt_le h (srt_get hX (by omega) (by omega) fnone)
theorem p2_end {y : FB} {i : Nat} (hX : Srt nmK X) (h : Bs (P2 (A ++ X ++ [y] ++ B) (A.length + X.length)) A.length (A.length + X.length) i i) : ∃ X1 X2, X = X1 ++ X2 ∧ i = A.length + X1.length ∧ Mrg nmK X [y] (X1 ++ [y] ++ X2) := by
  have hlo := h.lo
  have hhi := h.hi
  obtain ⟨X1, X2, e, hl⟩ := cut_list X (i - A.length) (by omega)
  have ey : (A ++ X ++ [y] ++ B).getD (A.length + X.length) fnone = y := by rw [show A ++ X ++ [y] ++ B = (A ++ X) ++ y :: B by simp, show A.length + X.length = (A ++ X).length by simp]; exact getD_at _ _ _
  have key : ∀ c, A.length ≤ c → c < A.length + X.length → (A ++ X ++ [y] ++ B).getD c fnone = X.getD (c - A.length) fnone := fun c h1 h2 => by rw [List.append_assoc (A ++ X), at_X h1 h2]
  have hlen : X.length = X1.length + X2.length := by rw [e]; simp
  refine ⟨X1, X2, e, by omega, ?_⟩
  rw [e]
  refine mrg_oneR (e ▸ hX) (fun x hx => ?_) (fun x hx => ?_)
  · obtain ⟨t, ht, rfl⟩ := mem_fd hx
    have := h.no (A.length + t) (by omega) (by omega)
    unfold P2 at this
    rw [ey, key _ (by omega) (by omega), show A.length + t - A.length = t by omega, e, at_left _ _ _ ht] at this
    exact not_lt_le this
  · obtain ⟨t, ht, rfl⟩ := mem_fd hx
    have := h.yes (A.length + (X1.length + t)) (by omega) (by omega)
    unfold P2 at this
    rw [ey, key _ (by omega) (by omega), show A.length + (X1.length + t) - A.length = X1.length + t by omega, e, at_app _ _ _ (by omega), show X1.length + t - X1.length = t by omega] at this
    exact this
/-- The numbers of a merge: where it is cut. -/
structure Cut3 (a m b mid s0 r0 : Nat) : Prop where
  am : a < m
  mb : m < b
  mid_ : mid = (a + b) / 2
  way : (mid < m ∧ s0 = mid + m - b ∧ r0 = mid) ∨ (m ≤ mid ∧ s0 = a ∧ r0 = m)
theorem Cut3.rng {a m b mid s0 r0 c : Nat} (h : Cut3 a m b mid s0 r0) (h1 : s0 ≤ c) (h2 : c < r0) : a ≤ c ∧ c < m ∧ m ≤ mid + m - 1 - c ∧ mid + m - 1 - c < b := by
  have := h.am; have := h.mb; have := h.mid_
  rcases h.way with ⟨h3, h4, h5⟩ | ⟨h3, h4, h5⟩ <;> omega
theorem p3_mono {a m b mid s0 r0 : Nat} (h : Cut3 a m b mid s0 r0) (ha : a = A.length) (hm : m = A.length + X.length) (hb : b = A.length + X.length + Y.length) (hX : Srt nmK X) (hY : Srt nmK Y) :
    ∀ c c', s0 ≤ c → c ≤ c' → c' < r0 → P3 (A ++ X ++ Y ++ B) (mid + m - 1) c → P3 (A ++ X ++ Y ++ B) (mid + m - 1) c' := by
  intro c c' h1 h2 h3 hp
  obtain ⟨q1, q2, q3, q4⟩ := h.rng h1 (by omega : c < r0)
  obtain ⟨t1, t2, t3, t4⟩ := h.rng (by omega : s0 ≤ c') h3
  unfold P3 at hp ⊢
  rw [at_Y (by omega) (by omega), List.append_assoc (A ++ X), at_X (by omega) (by omega)] at hp ⊢
  exact lt_le (le_lt (srt_get hY (by omega) (by omega) fnone) hp) (srt_get hX (by omega) (by omega) fnone)
theorem p3_end {a m b mid s0 r0 s : Nat} (h : Cut3 a m b mid s0 r0) (ha : a = A.length) (hm : m = A.length + X.length) (hb : b = A.length + X.length + Y.length) (hX : Srt nmK X) (hY : Srt nmK Y)
    (hs : Bs (P3 (A ++ X ++ Y ++ B) (mid + m - 1)) s0 r0 s s) : ∃ X1 X2 Y1 Y2, X = X1 ++ X2 ∧ Y = Y1 ++ Y2 ∧ s = a + X1.length ∧ mid + m - s = m + Y1.length ∧ s + Y1.length = mid ∧ s ≤ m ∧ a < mid ∧ mid < b ∧
      (∀ x ∈ X2, ∀ y ∈ Y1, lexLt (nmK y) (nmK x) = true) ∧ (∀ x ∈ X1, ∀ y ∈ Y2, lexLe (nmK x) (nmK y)) := by
  have g1 := h.am; have g2 := h.mb; have g3 := h.mid_
  have hlo := hs.lo; have hhi := hs.hi
  have bs : a ≤ s ∧ s ≤ m ∧ m ≤ mid + m - s ∧ mid + m - s ≤ b ∧ s ≤ mid := by
    rcases h.way with ⟨h3, h4, h5⟩ | ⟨h3, h4, h5⟩ <;> omega
  obtain ⟨b1, b2, b3, b4, b5⟩ := bs
  obtain ⟨X1, X2, eX, lX⟩ := cut_list X (s - a) (by omega)
  obtain ⟨Y1, Y2, eY, lY⟩ := cut_list Y (mid - s) (by omega)
  have LX : X.length = X1.length + X2.length := by rw [eX]; simp
  have LY : Y.length = Y1.length + Y2.length := by rw [eY]; simp
  have keyX : ∀ c, A.length ≤ c → c < A.length + X.length → (A ++ X ++ Y ++ B).getD c fnone = X.getD (c - A.length) fnone := fun c h1 h2 => by rw [List.append_assoc (A ++ X), at_X h1 h2]
  refine ⟨X1, X2, Y1, Y2, eX, eY, by omega, by omega, by omega, b2, by omega, by omega, fun x hx y hy => ?_, fun x hx y hy => ?_⟩
  · obtain ⟨i, hi, rfl⟩ := mem_fd hx
    obtain ⟨j, hj, rfl⟩ := mem_fd hy
    have hr : s < r0 := by rcases h.way with ⟨h3, h4, h5⟩ | ⟨h3, h4, h5⟩ <;> omega
    have hp := hs.yes s (Nat.le_refl _) hr
    unfold P3 at hp
    rw [at_Y (by omega) (by omega), keyX s (by omega) (by omega)] at hp
    have k1 : lexLe (nmK (Y1.getD j fnone)) (nmK (Y.getD (mid + m - 1 - s - (A.length + X.length)) fnone)) := by
      have := srt_get hY (i := j) (j := mid + m - 1 - s - (A.length + X.length)) (by omega) (by omega) fnone
      rwa [show Y.getD j fnone = Y1.getD j fnone by rw [eY]; exact at_left _ _ _ hj] at this
    have k2 : lexLe (nmK (X.getD (s - A.length) fnone)) (nmK (X2.getD i fnone)) := by
      have := srt_get hX (i := s - A.length) (j := X1.length + i) (by omega) (by omega) fnone
      rwa [show X.getD (X1.length + i) fnone = X2.getD i fnone by rw [eX, at_app _ _ _ (by omega), show X1.length + i - X1.length = i by omega]] at this
    exact lt_le (le_lt k1 hp) k2
  · obtain ⟨i, hi, rfl⟩ := mem_fd hx
    obtain ⟨j, hj, rfl⟩ := mem_fd hy
    have hr : s0 ≤ s - 1 := by rcases h.way with ⟨h3, h4, h5⟩ | ⟨h3, h4, h5⟩ <;> omega
    have hp := hs.no (s - 1) hr (by omega)
    unfold P3 at hp
    rw [at_Y (by omega) (by omega), keyX (s - 1) (by omega) (by omega)] at hp
    have hp := not_lt_le hp
    have k1 : lexLe (nmK (X1.getD i fnone)) (nmK (X.getD (s - 1 - A.length) fnone)) := by
      have := srt_get hX (i := i) (j := s - 1 - A.length) (by omega) (by omega) fnone
      rwa [show X.getD i fnone = X1.getD i fnone by rw [eX]; exact at_left _ _ _ hi] at this
    have k2 : lexLe (nmK (Y.getD (mid + m - 1 - (s - 1) - (A.length + X.length)) fnone)) (nmK (Y2.getD j fnone)) := by
      have := srt_get hY (i := mid + m - 1 - (s - 1) - (A.length + X.length)) (j := Y1.length + j) (by omega) (by omega) fnone
      rwa [show Y.getD (Y1.length + j) fnone = Y2.getD j fnone by rw [eY, at_app _ _ _ (by omega), show Y1.length + j - Y1.length = j by omega]] at this
    exact lex_le_trans (lex_le_trans k1 hp) k2
end
end Go.Proofs.YtibipnipeaeonaaGreatDoor
