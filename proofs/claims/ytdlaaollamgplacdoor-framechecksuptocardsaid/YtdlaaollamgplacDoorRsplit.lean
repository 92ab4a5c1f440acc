/-
  CONTRACT of the Go function tollref1.Split. No claim by itself.
-/
import Derived.Test.YtdlaaollamgplacDoorSplit
import Derived.Deep.DeepCutAuto
import Derived.Deep.CutBlock
namespace Go.Proofs.YtdlaaollamgplacDoor
open Go Go.RowKit
set_option maxRecDepth 100000
/-- A frame's cells: its body is a piece of the block itself. -/
def rC (st : Int) (pa : Nat → Option Addr) (cap len : Nat) (i : Nat) : List Value := [.int .i64 2, .int .i64 0, .int .i64 st, .slice (pa i) (min 1024 (len - 1024 * i)) (cap - 1024 * i)]
def rCells (st : Int) (pa : Nat → Option Addr) (cap len n : Nat) : List Value := ((List.range n).map (rC st pa cap len)).flatten
theorem rCells_succ (st : Int) (pa : Nat → Option Addr) (cap len n : Nat) : rCells st pa cap len (n + 1) = rCells st pa cap len n ++ rC st pa cap len n := by
  unfold rCells; rw [List.range_succ, List.map_append, List.flatten_append]; simp
theorem rCells_len (st : Int) (pa : Nat → Option Addr) (cap len : Nat) : ∀ n, (rCells st pa cap len n).length = n * 4
  | 0 => rfl
  | n + 1 => by rw [rCells_succ, List.length_append, rCells_len st pa cap len n]; simp [rC]; omega
theorem rCells_get (st : Int) (pa : Nat → Option Addr) (cap len q : Nat) (hq : q < 4) : ∀ n t, t < n → (rCells st pa cap len n)[t * 4 + q]? = (rC st pa cap len t)[q]?
  | 0, t, h => by omega
  | n + 1, t, h => by
    rw [rCells_succ]
    by_cases e : t = n
    · subst e
      rw [List.getElem?_append_right (by rw [rCells_len]; omega), rCells_len]
      congr 1; omega
    · rw [List.getElem?_append_left (by rw [rCells_len]; omega)]
      exact rCells_get st pa cap len q hq n t (by omega)
/-- From the row, with what was written into it at last, to the frames. -/
theorem rsplit_fin {base : Nat} {W WF : World} {gr cr n len cap : Nat} {st : Int} {Z : List Int} {e : Bool} {pa : Nat → Option Addr} (hZ : Z.length = len)
    (hown : W.ownsRow base 43 4 (.slice (some ⟨gr, 0, none⟩) n cr) n (rCells st pa cap len n))
    (harg : ∀ t, t < n → Arg WF (pa t) (min 1024 (len - 1024 * t)) (cap - 1024 * t) (pc Z t))
    (hcell : ∀ j u, W.cell? ⟨gr, j, none⟩ = some u → WF.cell? ⟨gr, j, none⟩ = some (if j = (n - 1) * 4 + 1 then .int .i64 ((if n = 1 ∧ e = true then 1 else 0) + 4) else if j = 1 ∧ e = true then .int .i64 1 else if j = 0 then .int .i64 1 else u)) :
    FrRow WF gr 0 n cr (sfr st Z e n) pa (fun t => cap - 1024 * t) := by
  have hcap : n ≤ cr ∧ cr ≤ maxLen := by
    rcases hown.2 with ⟨hv, _⟩ | ⟨g', cap', cur, hv, _, _, h1, h2, _⟩
    · cases hv
    · cases hv; exact ⟨h1, h2⟩
  have hpl : ∀ t, (pc Z t).length = min 1024 (len - 1024 * t) := fun t => by rw [pc_len, hZ]
  refine ⟨hcap.1, hcap.2, fun t ht => ?_⟩
  have g : ∀ q u, q < 4 → (rC st pa cap len t)[q]? = some u → W.cell? ⟨gr, t * 4 + q, none⟩ = some u := fun q u hq hu => by
    rw [hown.cellAt (t * 4 + q) (by omega), rCells_get st pa cap len q hq n t ht]; exact hu
  have h0 := hcell (t * 4 + 0) _ (g 0 _ (by decide) rfl)
  have h1 := hcell (t * 4 + 1) _ (g 1 _ (by decide) rfl)
  have h2 := hcell (t * 4 + 2) _ (g 2 _ (by decide) rfl)
  have h3 := hcell (t * 4 + 3) _ (g 3 _ (by decide) rfl)
  rw [Nat.add_zero] at h0
  simp only [Nat.zero_add]
  refine ⟨⟨?_, ?_⟩, ⟨?_, ?_⟩, ?_⟩
  · rw [h0, if_neg (by omega), if_neg (by omega)]
    by_cases e0 : t = 0
    · subst e0; simp [sfr]
    · rw [if_neg (by omega)]; simp [sfr, e0]
  · rw [h1]
    by_cases el : t = n - 1
    · have e1 : t + 1 = n := by omega
      rw [if_pos (by rw [el])]
      by_cases e0 : t = 0
      · have e2 : n = 1 := by omega
        subst e0; subst e2; cases e <;> simp [sfr]
      · have e2 : ¬ (n = 1) := by omega
        simp [sfr, e0, e1, e2]
    · have e1 : ¬ (t + 1 = n) := by omega
      rw [if_neg (by omega)]
      by_cases e0 : t = 0
      · subst e0; cases e <;> simp [sfr, e1]
      · rw [if_neg (by omega), if_neg (by omega)]
        simp [sfr, e0, e1]
  · rw [h2, if_neg (by omega), if_neg (by omega), if_neg (by omega)]; rfl
  · rw [h3, if_neg (by omega), if_neg (by omega), if_neg (by omega)]
    show some (Value.slice (pa t) (min 1024 (len - 1024 * t)) (cap - 1024 * t)) = some (Value.slice (pa t) (pc Z t).length (cap - 1024 * t))
    rw [hpl]
  · show Arg WF (pa t) (pc Z t).length (cap - 1024 * t) (pc Z t)
    rw [hpl]; exact harg t ht
/-- A part of a row. -/
theorem row_part1 {w : World} {g off len cap : Nat} {Z : List Int} (h : Row w g off len cap Z) (s n c : Nat) (hs : s + n ≤ len) (hc : n ≤ c) (hm : c ≤ maxLen) : Row w g (off + s) n c ((Z.drop s).take n) := by
  have hl := h.hlen
  refine ⟨by simp; omega, hc, hm, fun t ht => ?_, fun t => ?_⟩
  · have e : ((Z.drop s).take n).getD t 0 = Z.getD (s + t) 0 := by simp [List.getD, ht, List.getElem?_drop]
    rw [e, Nat.add_assoc]
    exact h.hcell _ (by omega)
  · by_cases ht : t < n
    · have e : ((Z.drop s).take n).getD t 0 = Z.getD (s + t) 0 := by simp [List.getD, ht, List.getElem?_drop]
      rw [e]; exact h.hbyte _
    · have e : ((Z.drop s).take n).getD t 0 = 0 := by simp [List.getD, List.getElem?_take, ht]
      rw [e]; decide
theorem news_four (w : World) (x0 x1 x2 x3 : Value) : ∀ j u, [x0, x1, x2, x3][j]? = some u → (w.alloc (.cells #[x0, x1, x2, x3] 43)).cell? ((⟨w.heap.size, 0, none⟩ : Addr).add j) = some u := by
  intro j u hj
  have hadd : (⟨w.heap.size, 0, none⟩ : Addr).add j = ⟨w.heap.size, j, none⟩ := by unfold Addr.add; split <;> simp_all
  rw [hadd, cell_of_row _ _ j _ _ _ (heap_alloc_new w _), ← hj]
  simp
theorem one_four (k f s : Int) (a : Option Addr) (l c : Nat) : ∀ u ∈ [Value.int .i64 k, .int .i64 f, .int .i64 s, .slice a l c], u.oneCell' = true := by
  intro u hu
  simp at hu
  rcases hu with rfl | rfl | rfl | rfl <;> rfl
set_option maxHeartbeats 8000000 in
theorem rsplit_in (st : Int) (a : Option Addr) (g off len cap : Nat) (Z : List Int) (e : Bool) (w : World) (pa : Nat → Option Addr) (hpa0 : pa 0 = a) (hpa : ∀ t, 1024 * t < len → pa t = some ⟨g, off + 1024 * t, none⟩)
    (hA : ∀ wx, Below w.heap.size w wx → ∀ t, t < nP len → Arg wx (pa t) (min 1024 (len - 1024 * t)) (cap - 1024 * t) (pc Z t)) (hcap : len ≤ cap) (hmax : cap ≤ maxLen) (hZ : Z.length = len) (hl : len ≤ 140737488351232) :
    Calls Tryd.prog 22 #[.int .i64 st, .slice a len cap, .bool e] w fun r w' => ∃ (g' c' : Nat) (A : Nat → Option Addr) (C : Nat → Nat), r = .returned (.slice (some ⟨g', 0, none⟩) (nP len) c') ∧ FrRow w' g' 0 (nP len) c' (sfr st Z e (nP len)) A C ∧ Below w.heap.size w w' := by
  obtain ⟨i0, hi, hz0, hz1, hz2⟩ := info_parts infoFr
  have HZ0 := hide (show i0.zero = some (.agg #[.int .i64 0, .int .i64 0, .int .i64 0, .slice none 0 0]) ∧ i0.size = 4 ∧ i0.bytes = 48 from ⟨hz0, hz1, hz2⟩)
  have HI := hide hi
  have HPA := hide hpa
  have HA := hide hA
  have HZ := hide hZ
  have hmax' : cap ≤ 9223372036854775807 := by unfold maxLen at hmax; omega
  clear hi hz0 hz1 hz2 hpa hA hZ hmax
  go_enter Tryd.func22, Tryd.ntmps22
  go_wp2
  go_loopw [1, 7] (fun b l wr => ∃ j : Nat, b = .slice (pa j) (len - 1024 * j) (cap - 1024 * j) ∧ (j = 0 ∨ 1024 * j < len) ∧ Hid (wr.ownsRow w.heap.size 43 4 l j (rCells st pa cap len j)) ∧ Hid (Below w.heap.size w wr)) (fun b _ _ => (match b with | .slice _ n _ => n | _ => 0))
  case atStart => exact ⟨0, by simp [hpa0], Or.inl rfl, World.ownsRow_nil _ _ _ _, Below.refl _ _⟩
  case round =>
    obtain ⟨j, rfl, hj, HO, HB⟩ := hrel
    have sB := HB.out.size
    by_cases hlt : 1024 < len - 1024 * j
    · have epa := HPA.out j (by omega)
      have epa1 := HPA.out (j + 1) (by omega)
      have HS := hide (rCells_succ st pa cap len j)
      have HRC : Hid (rC st pa cap len j = [.int .i64 2, .int .i64 0, .int .i64 st, .slice (some ⟨g, off + 1024 * j, none⟩) 1024 (cap - 1024 * j)]) := by
        show _ = _
        unfold rC
        rw [epa, show min 1024 (len - 1024 * j) = 1024 by omega]
      have HEP := hide epa1
      rw [epa]
      have hj48 : j + 1 ≤ 140737488352 := by omega
      have HN := hide (show len - 1024 * (j + 1) = len - 1024 * j - 1024 ∧ cap - 1024 * (j + 1) = cap - 1024 * j - 1024 ∧ off + 1024 * (j + 1) = off + 1024 * j + 1024 ∧ 1024 * (j + 1) < len by omega)
      have hC1 : 1024 ≤ cap - 1024 * j := by omega
      have hC2 : ¬ (cap - 1024 * j = 1024) := by omega
      have hC3 : cap - 1024 * j ≤ 9223372036854775807 := by omega
      clear epa epa1 hj
      generalize hL : len - 1024 * j = L at *
      generalize hCp : cap - 1024 * j = Cp at *
      generalize hoo : off + 1024 * j = o at *
      clear hL hCp hoo
      have q1 : (1024 : Int) < (L : Int) := by omega
      have q2 : (1024 : Int) ≤ (Cp : Int) := by omega
      go_wp2_with (at_builtin; refine wpList_append_own _ rfl _ _ 56 rfl w.heap.size 43 i0 (.agg #[.int .i64 0, .int .i64 0, .int .i64 0, .slice none 0 0]) 4 48 Tryd.underlying56 HI.out HZ0.out.1 HZ0.out.2.1 HZ0.out.2.2 rfl (by decide) _ j _ rfl (HO.out.alloc _) ⟨wr.heap.size, 0, none⟩ 1 1 [.int .i64 2, .int .i64 0, .int .i64 st, .slice (some ⟨g, o, none⟩) 1024 Cp] rfl rfl (news_four wr _ _ _ _) (one_four _ _ _ _ _ _) (by unfold maxLen; omega) (by omega) (by rw [World.size_alloc]; omega) ?_)
      intro v3 w3 hown3 hgrow3 _
      have B3 := hide ((HB.out.alloc (by omega) _).grown hgrow3 (by rw [World.size_alloc]; omega) (fun k hk => (HO.out.lt k hk).1))
      have O3 := hide hown3
      clear hown3 hgrow3
      go_wp2
      go_roundw
      case rel => exact ⟨j + 1, by rw [HEP.out, HN.out.1, HN.out.2.1, HN.out.2.2.1], Or.inr HN.out.2.2.2, by show World.ownsRow _ _ _ _ _ _ _; rw [HS.out, HRC.out]; exact O3.out, B3.out⟩
      case measure => simp; omega
    · have HNP : Hid (nP len = j + 1) := by
        show _ = _
        rcases hj with e0 | h0
        · subst e0; unfold nP; omega
        · exact nP_step len j h0 (by omega)
      have HS := hide (rCells_succ st pa cap len j)
      have HRC : Hid (rC st pa cap len j = [.int .i64 2, .int .i64 0, .int .i64 st, .slice (pa j) (len - 1024 * j) (cap - 1024 * j)]) := by
        show _ = _
        unfold rC
        rw [show min 1024 (len - 1024 * j) = len - 1024 * j by omega]
      have hj48 : j + 1 ≤ 140737488352 := by omega
      generalize hL : len - 1024 * j = L at *
      generalize hCp : cap - 1024 * j = Cp at *
      generalize hpj : pa j = aj at *
      clear hL hCp hpj hj
      have q1 : ¬ ((1024 : Int) < (L : Int)) := by omega
      go_upto_region 6 with (at_builtin; refine wpList_append_own _ rfl _ _ 56 rfl w.heap.size 43 i0 (.agg #[.int .i64 0, .int .i64 0, .int .i64 0, .slice none 0 0]) 4 48 Tryd.underlying56 HI.out HZ0.out.1 HZ0.out.2.1 HZ0.out.2.2 rfl (by decide) _ j _ rfl (HO.out.alloc _) ⟨wr.heap.size, 0, none⟩ 1 1 [.int .i64 2, .int .i64 0, .int .i64 st, .slice aj L Cp] rfl rfl (news_four wr _ _ _ _) (one_four _ _ _ _ _ _) (by unfold maxLen; omega) (by omega) (by rw [World.size_alloc]; omega) ?_)
      intro v3 w3 hown3 hgrow3 _
      have B3 := hide ((HB.out.alloc (by omega) _).grown hgrow3 (by rw [World.size_alloc]; omega) (fun k hk => (HO.out.lt k hk).1))
      rw [← HRC.out, ← HS.out] at hown3
      obtain ⟨gr, cr, rfl⟩ := ownsRow_succ hown3
      have hlo := hown3.lt gr rfl
      have O3 := hide hown3
      have F3 : Hid (∀ i, w3.frozen? ⟨gr, i, none⟩ = false) := fun i => hown3.frozenAt i
      have hcr : j + 1 ≤ cr := by
        rcases hown3.2 with ⟨hv, _⟩ | ⟨g', cap', cur, hv, _, _, h1, h2, _⟩
        · cases hv
        · cases hv; exact h1
      have c0 : w3.cell? ⟨gr, 0, none⟩ = some (.int .i64 2) := by rw [hown3.cellAt 0 (by omega)]; exact rCells_get st pa cap len 0 (by decide) (j + 1) 0 (by omega)
      have c1 : w3.cell? ⟨gr, 1, none⟩ = some (.int .i64 0) := by rw [hown3.cellAt 1 (by omega)]; exact rCells_get st pa cap len 1 (by decide) (j + 1) 0 (by omega)
      have cm : w3.cell? ⟨gr, j * 4 + 1, none⟩ = some (.int .i64 0) := by rw [hown3.cellAt (j * 4 + 1) (by omega)]; exact rCells_get st pa cap len 1 (by decide) (j + 1) j (by omega)
      have f0 := F3.out 0
      clear hown3 hgrow3 HO HB HS HRC
      go_upto_region 7 with fail
      obtain ⟨W1, hW1⟩ : ∃ W1, W1 = w3.setCell ⟨gr, 0, none⟩ (.int .i64 1) := ⟨_, rfl⟩
      rw [← hW1]
      have d : ∀ i, W1.cell? ⟨gr, i, none⟩ = if i = 0 then some (.int .i64 1) else w3.cell? ⟨gr, i, none⟩ := fun i => by rw [hW1]; exact cell_set c0
      have B1 := hide (show Below w.heap.size w W1 by rw [hW1]; exact B3.out.setCell (by show w.heap.size ≤ gr; exact hlo.1) _)
      have f1 : W1.frozen? ⟨gr, 1, none⟩ = false := by rw [hW1, World.frozen?_setCell]; exact F3.out 1
      have fm : W1.frozen? ⟨gr, j * 4 + 1, none⟩ = false := by rw [hW1, World.frozen?_setCell]; exact F3.out _
      have d1 : W1.cell? ⟨gr, 1, none⟩ = some (.int .i64 0) := by rw [d, if_neg (by decide)]; exact c1
      have dm : W1.cell? ⟨gr, j * 4 + 1, none⟩ = some (.int .i64 0) := by rw [d, if_neg (by omega)]; exact cm
      have HD := hide d
      clear d hW1 B3 F3 f0 c0 c1 cm
      cases e with
      | true =>
        go_upto_region 9 with fail
        obtain ⟨W2, hW2⟩ : ∃ W2, W2 = W1.setCell ⟨gr, 1, none⟩ (.int .i64 1) := ⟨_, rfl⟩
        rw [← hW2]
        have k : ∀ i, W2.cell? ⟨gr, i, none⟩ = if i = 1 then some (.int .i64 1) else W1.cell? ⟨gr, i, none⟩ := fun i => by rw [hW2]; exact cell_set d1
        have B2 := hide (show Below w.heap.size w W2 by rw [hW2]; exact B1.out.setCell (by show w.heap.size ≤ gr; exact hlo.1) _)
        have gm : W2.frozen? ⟨gr, j * 4 + 1, none⟩ = false := by rw [hW2, World.frozen?_setCell]; exact fm
        obtain ⟨fl, hfl⟩ : ∃ fl : Int, fl = if j = 0 then 1 else 0 := ⟨_, rfl⟩
        have km : W2.cell? ⟨gr, j * 4 + 1, none⟩ = some (.int .i64 fl) := by
          rw [k, hfl]
          by_cases e0 : j = 0
          · rw [if_pos (by omega), if_pos e0]
          · rw [if_neg (by omega), if_neg e0]; exact dm
        have hfl1 : 0 ≤ fl := by rw [hfl]; split <;> omega
        have hfl2 : fl ≤ 1 := by rw [hfl]; split <;> omega
        have HFL := hide hfl
        have HK := hide k
        clear k hW2 B1 f1 fm d1 dm hfl
        go_wp2
        go_ret
        have hb : Below w.heap.size w (W2.setCell ⟨gr, j * 4 + 1, none⟩ (.int .i64 (fl + 4))) := B2.out.setCell (by show w.heap.size ≤ gr; exact hlo.1) _
        refine ⟨gr, cr, pa, fun t => cap - 1024 * t, by rw [HNP.out]; rfl, ?_, hb⟩
        rw [HNP.out]
        refine rsplit_fin HZ.out O3.out (fun t ht => HA.out _ hb t (by rw [HNP.out]; exact ht)) (fun i u hu => ?_)
        rw [cell_set km, HK.out, HD.out, hu, HFL.out, show (j + 1 - 1) * 4 + 1 = j * 4 + 1 by omega]
        by_cases e1 : i = j * 4 + 1
        · rw [if_pos e1, if_pos e1]
          by_cases e0 : j = 0
          · rw [if_pos e0, if_pos ⟨by omega, rfl⟩]
          · rw [if_neg e0, if_neg (fun h => e0 (by omega))]
        · rw [if_neg e1, if_neg e1]
          by_cases e2 : i = 1
          · rw [if_pos e2, if_pos ⟨e2, rfl⟩]
          · rw [if_neg e2, if_neg (show ¬ (i = 1 ∧ true = true) from fun h => e2 h.1)]
            by_cases e3 : i = 0
            · rw [if_pos e3, if_pos e3]
            · rw [if_neg e3, if_neg e3]
      | false =>
        go_wp2
        go_ret
        have hb : Below w.heap.size w (W1.setCell ⟨gr, j * 4 + 1, none⟩ (.int .i64 4)) := B1.out.setCell (by show w.heap.size ≤ gr; exact hlo.1) _
        refine ⟨gr, cr, pa, fun t => cap - 1024 * t, by rw [HNP.out]; rfl, ?_, hb⟩
        rw [HNP.out]
        refine rsplit_fin HZ.out O3.out (fun t ht => HA.out _ hb t (by rw [HNP.out]; exact ht)) (fun i u hu => ?_)
        rw [cell_set dm, HD.out, hu, show (j + 1 - 1) * 4 + 1 = j * 4 + 1 by omega]
        by_cases e1 : i = j * 4 + 1
        · rw [if_pos e1, if_pos e1, if_neg (by simp)]
          rfl
        · rw [if_neg e1, if_neg e1, if_neg (show ¬ (i = 1 ∧ false = true) by simp)]
          by_cases e3 : i = 0
          · rw [if_pos e3, if_pos e3]
          · rw [if_neg e3, if_neg e3]
/-- tollref1.Split, whole. -/
theorem rsplit_any (st : Int) (a : Option Addr) (len cap : Nat) (Z : List Int) (e : Bool) (w : World) (hA : Arg w a len cap Z) (hZ : Z.length = len) (hl : len ≤ 140737488351232) (hc : len = 0 → cap ≤ maxLen) :
    Calls Tryd.prog 22 #[.int .i64 st, .slice a len cap, .bool e] w fun r w' => ∃ (g' c' : Nat) (A : Nat → Option Addr) (C : Nat → Nat), r = .returned (.slice (some ⟨g', 0, none⟩) (nP len) c') ∧ FrRow w' g' 0 (nP len) c' (sfr st Z e (nP len)) A C ∧ Below w.heap.size w w' := by
  rcases hA with ⟨h0, h1⟩ | ⟨g, off, ha, hr⟩
  · subst h0
    refine rsplit_in st a 0 0 0 cap Z e w (fun _ => a) rfl (fun t ht => by omega) (fun wx _ t _ => Or.inl ⟨by omega, ?_⟩) (by omega) (hc rfl) hZ hl
    rw [h1]; simp [pc]
  · subst ha
    refine rsplit_in st _ g off len cap Z e w (fun t => some ⟨g, off + 1024 * t, none⟩) (by simp) (fun t _ => rfl) (fun wx hb t ht => ?_) hr.hcap hr.hmax hZ hl
    have hrx := hr.below hb
    have hcp := hr.hcap
    have hmx := hr.hmax
    by_cases h0 : len = 0
    · refine Or.inl ⟨by omega, ?_⟩
      have : Z = [] := List.eq_nil_of_length_eq_zero (by omega)
      rw [this]; simp [pc]
    · have ht' : 1024 * t < len := by unfold nP at ht; omega
      refine Or.inr ⟨g, off + 1024 * t, rfl, ?_⟩
      have h := row_part1 hrx (1024 * t) (min 1024 (len - 1024 * t)) (cap - 1024 * t) (by omega) (by omega) (by omega)
      have e : pc Z t = (Z.drop (1024 * t)).take (min 1024 (len - 1024 * t)) := by
        unfold pc
        by_cases h1 : 1024 ≤ len - 1024 * t
        · rw [Nat.min_eq_left h1]
        · rw [Nat.min_eq_right (by omega), List.take_of_length_le (by simp; omega), List.take_of_length_le (by simp; omega)]
      rw [e]
      exact h
end Go.Proofs.YtdlaaollamgplacDoor
