/-
  CONTRACTS of the Go functions frame.number, bytes.Clone, slices.Grow and slices.Concat at bytes, frame.numbers. No claim by itself.
-/
import Derived.Test.YtdlaaollamgplagGreatDoorRrdframe
import Derived.Lib.AppendZerosOnto
import Derived.Lib.SliceRun
import Derived.Lib.Walk
namespace Go.Proofs.YtdlaaollamgplagGreatDoor
open Go.RowKit
set_option maxRecDepth 100000
set_option maxHeartbeats 2000000 in
/-- The number in at most four bytes. -/
theorem number_any (g off len cap : Nat) (Z : List Int) (w : World) (hr : Row w g off len cap Z) (h2 : len ≤ 4) :
    Calls Tryz.prog 122 #[.slice (some ⟨g, off, none⟩) len cap] w fun e w' => e = .returned (.int .i64 (word Z)) ∧ w = w' := by
  obtain ⟨z1, z2, z3, z4, z5⟩ := hr
  unfold maxLen at z3
  have H4 : Hid (∀ t, t < len → w.cell? ⟨g, off + t, none⟩ = some (.int .u8 (Z.getD t 0))) := z4
  have H5 : Hid (∀ t, 0 ≤ Z.getD t 0 ∧ Z.getD t 0 < 256) := z5
  have HL : Hid (Z.length = len) := z1
  clear z1 z4 z5
  go_enter Tryz.func122, Tryz.ntmps122
  go_wp2
  go_loop [3, 8] (fun n i => ∃ k : Nat, i = .int .i64 k ∧ k ≤ len ∧ n = .int .i64 (word (Z.take k))) (fun _ i => len - (intOf i).toNat)
  case atStart => exact ⟨0, rfl, by omega, by simp [word]⟩
  case round =>
    obtain ⟨k, rfl, hk, rfl⟩ := hrel
    have hb := word_bd Z H5.out k (by rw [HL.out]; omega)
    have hp := pow256_bd k (by omega)
    by_cases hlt : k < len
    · have hc := H4.out k (by omega)
      have hby := H5.out k
      have hw : Hid (word (Z.take (k + 1)) = word (Z.take k) * 256 + Z.getD k 0) := word_take Z k (by rw [HL.out]; omega)
      have hx : word (Z.take k) < 16777216 := by
        have h3 : k ≤ 3 := by omega
        have : (256 : Nat) ^ k ≤ 256 ^ 3 := Nat.pow_le_pow_right (by decide) h3
        have e : ((256 ^ k : Nat) : Int) = (256 : Int) ^ k := by simp
        omega
      generalize word (Z.take k) = n at *
      generalize Z.getD k 0 = c at *
      have hor : bits .or .i64 (n * 256) c = n * 256 + c := shl_or n c (by omega) (by omega) (by omega) (by omega)
      obtain ⟨hb0, hb1⟩ := hb
      obtain ⟨hc0, hc1⟩ := hby
      clear hb1 hp
      go_wp2
      go_round
      case rel => exact ⟨k + 1, by go_num, by omega, by rw [hw.out]⟩
      case measure => simp [intOf]; omega
    · have ek : Z.take k = Z := List.take_of_length_le (by rw [HL.out]; omega)
      rw [ek]
      go_wp2
      go_ret
      exact ⟨rfl, rfl⟩
/-- Nothing is cloned as nothing. -/
theorem clone_none (n c : Nat) (w : World) :
    Calls Tryz.prog 52 #[.slice none n c] w fun e w' => e = .returned (.slice none 0 0) ∧ w = w' := by
  have q : ∀ (w : World) (a : Option Addr) (n c n' c' : Nat), (binOp .eql 23 (.slice a n c) (.slice none n' c')).run Tryz.prog w = .ok (.bool a.isNone) w := fun w a n c n' c' => Lib.run_eql_slice_nil w _ _ a n c n' c' Tryz.underlying23
  go_enter Tryz.func52, Tryz.ntmps52
  go_wp2
  go_ret
  exact ⟨rfl, rfl⟩
theorem info5 : (Tryz.prog.info? 5).map (fun i => (i.zero, i.size, i.bytes)) = some (some (.int .u8 0), 1, 1) := by kernel_rfl
set_option maxHeartbeats 2000000 in
theorem clone_some (a : Addr) (n c : Nat) (Z : List Int) (w : World) (hZ : Z.length = n) (hbig : n ≤ 140737488355328) (hc : n = 0 ∨ ∃ g off, a = ⟨g, off, none⟩ ∧ Row w g off n c Z) :
    Calls Tryz.prog 52 #[.slice (some a) n c] w fun e w' => ∃ g' c', e = .returned (.slice (some ⟨g', 0, none⟩) n c') ∧ w'.ownsRow w.heap.size 5 1 (.slice (some ⟨g', 0, none⟩) n c') n (Z.map (Value.int .u8)) ∧ Below w.heap.size w w' := by
  have q : ∀ (w : World) (a : Option Addr) (n c n' c' : Nat), (binOp .eql 23 (.slice a n c) (.slice none n' c')).run Tryz.prog w = .ok (.bool a.isNone) w := fun w a n c n' c' => Lib.run_eql_slice_nil w _ _ a n c n' c' Tryz.underlying23
  obtain ⟨i0, hi, hz0, hz1, hz2⟩ := info_parts info5
  have A : Hid (∀ j u, (Z.map (Value.int .u8))[j]? = some u → (w.alloc (.cells #[] 5)).cell? (a.add j) = some u) := by
    intro j u hj
    have hjn : j < Z.length := by
      have := (List.getElem?_eq_some_iff.1 hj).1
      simpa using this
    rcases hc with h0 | ⟨g, off, rfl, hr⟩
    · omega
    · have hb := hr.below ((Below.refl _ w).alloc (Nat.le_refl _) (.cells #[] 5))
      have hx := hb.hcell j (by omega)
      have e : (Z.map (Value.int .u8))[j]? = some (Value.int .u8 (Z.getD j 0)) := by simp [List.getD, List.getElem?_eq_getElem hjn]
      rw [e] at hj
      have hplain : (⟨g, off, none⟩ : Addr).add j = ⟨g, off + j, none⟩ := by unfold Addr.add; split <;> simp_all
      rw [hplain, hx]; exact hj
  clear hc
  go_enter Tryz.func52, Tryz.ntmps52
  go_wp2_with (at_builtin; refine wpList_append_own _ rfl _ _ 23 rfl w.heap.size 5 i0 (.int .u8 0) 1 1 Tryz.underlying23 hi hz0 hz1 hz2 rfl (by decide) _ _ _ rfl (World.ownsRow_made w #[] 0 (Nat.le_refl _) (Nat.zero_le _) rfl) a n c (Z.map (Value.int .u8)) rfl ?qc1 ?qc2 ?qc3 ?qc4 ?qc5 ?qc6 ?_)
  case qc1 => simp; omega
  case qc2 => exact A.out
  case qc3 => intro u hu; obtain ⟨x, _, rfl⟩ := List.mem_map.1 hu; rfl
  case qc4 => unfold maxLen; omega
  case qc5 => omega
  case qc6 => simp
  intro v' w1 hown hgrow hnil
  go_wp2
  go_ret
  have hnn : v' ≠ .slice none 0 0 := by
    first | exact hnil | (intro e; exact absurd (hnil.1 e).1 (by simp))
  have hB : Below w.heap.size w w1 := ((Below.refl _ w).alloc (Nat.le_refl _) _).grown hgrow (by simp) (by intro k hk; simp [Value.ownBlock] at hk; omega)
  have hown' : w1.ownsRow w.heap.size 5 1 v' n (Z.map (Value.int .u8)) := by simpa using hown
  obtain ⟨q1, ⟨q2, _⟩ | ⟨g', c', cur, rfl, q3⟩⟩ := hown'
  · exact absurd q2 hnn
  · exact ⟨g', c', rfl, ⟨q1, Or.inr ⟨g', c', cur, rfl, q3⟩⟩, hB⟩
set_option maxHeartbeats 2000000 in
/-- Room for n bytes where there is nothing. -/
theorem grow_nil (n : Nat) (w : World) (h0 : 0 < n) (hbig : n ≤ 140737488355328) :
    Calls Tryz.prog 124 #[.slice none 0 0, .int .i64 n] w fun e w' => ∃ g cap, e = .returned (.slice (some ⟨g, 0, none⟩) 0 cap) ∧ n ≤ cap ∧ w'.ownsRow w.heap.size 5 1 (.slice (some ⟨g, 0, none⟩) 0 cap) 0 [] ∧ Below w.heap.size w w' := by
  obtain ⟨i0, hi, hz0, hz1, hz2⟩ := info_parts info5
  obtain ⟨G, hG⟩ : ∃ G, G = grownCap w n 0 5 := ⟨_, rfl⟩
  have hGn : n ≤ G := by rw [hG]; exact grownCap_ge w _ _ _
  have hGm : G ≤ maxLen := by rw [hG]; exact grownCap_le_maxLen w _ _ _ (by unfold maxLen; omega)
  have hold : (Builtin.firstCells i0.size 0 (.slice none 0 0)).run Tryz.prog w.drew = .ok ([] : List Value).toArray w.drew := run_firstCells_none w.drew i0.size 0 0 0
  obtain ⟨ROW, hROW⟩ : ∃ ROW : Array Value, ROW = ([] : List Value).toArray ++ Builtin.zeroCells (Value.int .u8 0).cells n ++ Builtin.zeroCells (Value.int .u8 0).cells (G - n) := ⟨_, rfl⟩
  have hrz : ∀ ty, (Builtin.append_ #[23, 3] ty #[.slice none 0 0, .int .i64 n]).run Tryz.prog w = .ok (.slice (some ⟨w.heap.size, 0, none⟩) n G) (w.drew.alloc (.cells ROW 5)) := fun ty => by
    have h := Lib.run_append_grow_zeros w 23 3 ty 5 i0 (.int .u8 0) .i64 .i64 Tryz.underlying23 Tryz.underlying3 hi hz0 none 0 0 [] hold n h0 (by omega) (by omega) (by omega) (by rw [hz2]; omega) (by rw [Nat.zero_add]; exact growslice_fits h0 (by rw [hz2]; omega))
    rw [Nat.zero_add, ← hG, ← hROW] at h
    exact h
  have hRs : ROW.size = G := by rw [hROW]; simp [Builtin.zeroCells, Value.cells]; omega
  have HROW := hide hROW
  unfold maxLen at hGm
  have p0 : (0 : Int) < (n : Int) := by omega
  have p1 : (0 : Int) ≤ (G : Int) := by omega
  clear hold hG hROW
  go_enter Tryz.func124, Tryz.ntmps124
  go_wp2_with (at_builtin; refine Lib.wpList_append_run _ rfl _ _ _ _ rfl _ _ rfl rfl _ _ (hrz _) ?_)
  go_ret
  exact ⟨w.heap.size, G, rfl, hGn, World.ownsRow_made w.drew ROW G (Nat.le_refl _) (by unfold maxLen; omega) (by rw [hRs, Nat.mul_one]), ((Below.refl _ w).drew).alloc (Nat.le_refl _) _⟩
/-- Pairs as cells: where they lie. -/
def Pairs (w : World) (vb : Nat) (L : List (Int × Int)) : Prop := ∀ j p, L[j]? = some p → w.cell? ⟨vb, j * 2, none⟩ = some (.int .i64 p.1) ∧ w.cell? ⟨vb, j * 2 + 1, none⟩ = some (.int .i64 p.2)
/-- Numbers as bytes, each in as many as the second says. -/
def nmL (L : List (Int × Int)) : List Int := (L.map fun p => bigL p.2.toNat p.1).flatten
theorem nmL_snoc (L : List (Int × Int)) (p : Int × Int) : nmL (L ++ [p]) = nmL L ++ bigL p.2.toNat p.1 := by simp [nmL]
theorem nmL_le : ∀ L : List (Int × Int), (∀ p ∈ L, p.2 ≤ 4) → (nmL L).length ≤ 4 * L.length
  | [], _ => Nat.le_refl _
  | p :: r, h => by
    have h1 := nmL_le r (fun q hq => h q (by simp [hq]))
    have h2 := h p (by simp)
    have e : nmL (p :: r) = bigL p.2.toNat p.1 ++ nmL r := by simp [nmL]
    rw [e, List.length_append, bigL_len, List.length_cons]
    omega
set_option maxHeartbeats 4000000 in
theorem numbers_any (vb m : Nat) (L : List (Int × Int)) (w : World) (hvb : vb < w.heap.size) (hP : Pairs w vb L) (hm : L.length = m) (h3 : m ≤ 3) (h4 : ∀ p ∈ L, p.2 ≤ 4) :
    Calls Tryz.prog 66 #[.slice (some ⟨vb, 0, none⟩) m m] w fun e w' => ((∃ v, e = .returned (.tuple #[v, .nilIface]) ∧ (∀ p ∈ L, bigOk p.1 p.2) ∧ w'.ownsRow w.heap.size 5 1 v (nmL L).length ((nmL L).map (Value.int .u8))) ∨
      (e = .returned (.tuple #[.slice none 0 0, .iface 88 (.int .i64 1)]) ∧ ∃ p ∈ L, ¬ bigOk p.1 p.2)) ∧ Below w.heap.size w w' := by
  obtain ⟨i0, hi, hz0, hz1, hz2⟩ := info_parts info5
  have HP : Hid (∀ wx j p, Below w.heap.size w wx → L[j]? = some p → wx.cell? ⟨vb, j * 2, none⟩ = some (.int .i64 p.1) ∧ wx.cell? ⟨vb, j * 2 + 1, none⟩ = some (.int .i64 p.2)) := fun wx j p hb hj =>
    ⟨(hb.cell (p := ⟨vb, j * 2, none⟩) hvb).trans (hP j p hj).1, (hb.cell (p := ⟨vb, j * 2 + 1, none⟩) hvb).trans (hP j p hj).2⟩
  have H4 := hide h4
  have HM := hide hm
  clear hP h4 hm
  go_enter Tryz.func66, Tryz.ntmps66
  go_wp2
  go_loopw [4, 11] (fun b i wr => ∃ k : Nat, i = .int .i64 k ∧ k ≤ m ∧ wr.ownsRow w.heap.size 5 1 b (nmL (L.take k)).length ((nmL (L.take k)).map (Value.int .u8)) ∧ (∀ p ∈ L.take k, bigOk p.1 p.2) ∧ Below w.heap.size w wr) (fun _ i _ => m - (intOf i).toNat)
  case atStart => exact ⟨0, rfl, Nat.zero_le _, by simpa [nmL] using World.ownsRow_nil _ _ _ _, by simp, Below.refl _ _⟩
  case round =>
    obtain ⟨k, rfl, hk, hown, hall, hB⟩ := hrel
    by_cases hlt : k < m
    · obtain ⟨p, hp⟩ : ∃ p, L[k]? = some p := ⟨_, List.getElem?_eq_getElem (by rw [HM.out]; exact hlt)⟩
      obtain ⟨hc1, hc2⟩ := HP.out wr k p hB hp
      obtain ⟨x, s⟩ := p
      simp only at hc1 hc2
      have HO := hide hown
      have HALL := hide hall
      have HB := hide hB
      have HPK := hide hp
      clear hown hall hB hp
      go_wp2_with fail
      obtain ⟨wA, hwA⟩ : ∃ wA, wA = wr.alloc (Obj.cells #[Value.int IntKind.i64 x, Value.int IntKind.i64 s] 122) := ⟨_, rfl⟩
      rw [← hwA]
      have BA := hide (show Below wr.heap.size wr wA by rw [hwA]; exact (Below.refl _ _).alloc (Nat.le_refl _) _)
      clear hwA hc1 hc2
      have sA := BA.out.size
      have sB := HB.out.size
      by_cases hok : bigOk x s
      · refine (big_yes x s wA hok).mono ?_
        rintro e w1 ⟨g1, rfl, ho1, hb1⟩
        have s1 := hb1.size
        have hlen : (bigL s.toNat x).length ≤ 4 := by rw [bigL_len]; have := hok.2.1; omega
        have hpos : 1 ≤ (bigL s.toNat x).length := by rw [bigL_len]; have := hok.1; omega
        have hpre : (nmL (L.take k)).length ≤ 12 := by
          have h1 := nmL_le (L.take k) (fun p hp => H4.out p (List.take_subset _ _ hp))
          rw [List.length_take] at h1
          omega
        have Ho := hide (own_below HO.out (BA.out.trans (hb1.mono (by omega))))
        have hr1 := hide (row_of rfl ho1 (bigL_byte s.toNat x))
        have BB := hide (HB.out.trans ((BA.out.trans (hb1.mono (by omega))).mono (by omega)))
        have HALL2 : Hid (∀ p ∈ L.take (k + 1), bigOk p.1 p.2) := by
          intro p hp
          rw [List.take_add_one, HPK.out] at hp
          rcases List.mem_append.1 hp with h | h
          · exact HALL.out p h
          · simp at h; subst h; exact hok
        have HN : Hid (nmL (L.take (k + 1)) = nmL (L.take k) ++ bigL s.toNat x) := by
          show nmL (L.take (k + 1)) = _
          rw [List.take_add_one, HPK.out]
          exact nmL_snoc _ _
        have sBB := BB.out.size
        clear hok ho1 hb1 BA HB HALL
        generalize bigL s.toNat x = P at *
        generalize hq : nmL (L.take k) = Qq at *
        clear hq
        go_wp2_with (at_builtin; refine wpList_append_own _ rfl _ _ 23 rfl w.heap.size 5 i0 (.int .u8 0) 1 1 Tryz.underlying23 hi hz0 hz1 hz2 rfl (by decide) _ _ _ rfl Ho.out ⟨g1, 0, none⟩ P.length P.length (P.map (Value.int .u8)) rfl (by simp) (fr_news hr1.out) (fr_one P) ?c3 ?c4 ?c5 ?_)
        case c3 => unfold maxLen; omega
        case c4 => omega
        case c5 => omega
        intro v2 w2 hown2 hgrow2 _
        have B2 := hide (BB.out.grown hgrow2 (by omega) (fun k hk => (Ho.out.lt k hk).1))
        have O2 := hide hown2
        clear hown2 hgrow2
        go_wp2
        go_roundw
        case rel => exact ⟨k + 1, by go_num, by omega, by rw [HN.out, List.length_append, List.map_append]; exact O2.out, HALL2.out, B2.out⟩
        case measure => simp [intOf]; omega
      · refine (big_no x s wA hok).mono ?_
        rintro e w1 ⟨rfl, rfl⟩
        have HN := hide hok
        clear hok
        go_wp2
        go_ret2
        refine ⟨Or.inr ⟨rfl, _, List.mem_of_getElem? HPK.out, HN.out⟩, HB.out.trans (BA.out.mono (by omega))⟩
    · have ek : L.take k = L := List.take_of_length_le (by rw [HM.out]; omega)
      rw [ek] at hown hall
      have HO := hide hown
      have HALL := hide hall
      have HB := hide hB
      clear hown hall hB ek
      go_wp2
      go_ret2
      exact ⟨Or.inl ⟨_, rfl, HALL.out, HO.out⟩, HB.out⟩
end Go.Proofs.YtdlaaollamgplagGreatDoor
