/-
  CONTRACT of the Go function frame.ReadSets. No claim by itself.
-/
import Derived.Test.YtdlaaollamgplacDoorDchk3
namespace Go.Proofs.YtdlaaollamgplacDoor
open Go Go.RowKit Go.Shelf
set_option maxRecDepth 100000
attribute [local go_sem] Oper.semAt_some
theorem infoA2 : (Tryd.prog.info? 59).map (fun i => (i.zero, i.size, i.bytes)) = some (some (.agg #[.int .i64 0, .int .i64 0]), 2, 16) := by kernel_rfl
/-- Settings' cells. -/
def sCells (Z : List Int) (js : List Nat) : List Value := (js.map fun j => [Value.int .i64 (sId Z j), .int .i64 (sVal Z j)]).flatten
theorem sCells_snoc (Z : List Int) (js : List Nat) (j : Nat) : sCells Z (js ++ [j]) = sCells Z js ++ [.int .i64 (sId Z j), .int .i64 (sVal Z j)] := by simp [sCells]
/-- What was read so far. -/
def RsI (w : World) (Z : List Int) (len : Nat) (pre : List (Pc 6 len)) (X : World) : Prop :=
  (∃ v, Boxed X (w.heap.size + 2) 54 v ∧ X.ownsRow (w.heap.size + 9) 59 2 v pre.length (sCells Z (pre.map (·.1)))) ∧ ((∀ y ∈ pre, sVal Z y.1 ≤ 2147483647) ∧ Boxed X w.heap.size 54 (.slice none 0 0) ∧ Boxed X (w.heap.size + 1) 26 .nilIface) ∧ Below w.heap.size w X
def RsX (w : World) (Z : List Int) (len : Nat) (c : Code) (pre : List (Pc 6 len)) (X : World) : Prop :=
  c = .ret ∧ (∃ q y, pre = q ++ [y] ∧ 2147483647 < sVal Z y.1) ∧ (Boxed X w.heap.size 54 (.slice none 0 0) ∧ Boxed X (w.heap.size + 1) 26 (.iface 73 (.int .i64 10))) ∧ Below w.heap.size w X
/-- What ReadSets tells. -/
def RsTold (Z : List Int) (len : Nat) (w w' : World) (v x : Value) : Prop :=
  (len % 6 ≠ 0 ∧ v = .slice none 0 0 ∧ x = .iface 73 (.int .i64 3)) ∨
  (len % 6 = 0 ∧ (∃ j, j < len / 6 ∧ 2147483647 < sVal Z j) ∧ v = .slice none 0 0 ∧ x = .iface 73 (.int .i64 10)) ∨
  (len % 6 = 0 ∧ (∀ j, j < len / 6 → sVal Z j ≤ 2147483647) ∧ x = .nilIface ∧ w'.ownsRow w.heap.size 59 2 v (len / 6) (sCells Z (List.range (len / 6))))
theorem own_mono {X : World} {b b' s k : Nat} {e : TypeId} {v : Value} {xs : List Value} (h : X.ownsRow b e s v k xs) (hb : b' ≤ b) : X.ownsRow b' e s v k xs := by
  obtain ⟨h1, h2 | ⟨g, cap, cur, hv, hg, r⟩⟩ := h
  · exact ⟨h1, Or.inl h2⟩
  · exact ⟨h1, Or.inr ⟨g, cap, cur, hv, Nat.le_trans hb hg, r⟩⟩
theorem bx_own {X Y : World} {row : Option Nat} {W0s B : Nat} {t : TypeId} {u : Value} (h : Boxed X B t u) (hgr : X.grownBy Y row) (hr : ∀ r, row = some r → W0s ≤ r ∧ ∃ o : Obj, X.heap[r]? = some o ∧ o.isCells = false) : Boxed Y B t u :=
  (Own.from (boxed_own (β := Unit) _ _ (fun _ => _)) W0s) () X Y row h hgr hr
set_option maxHeartbeats 8000000 in
theorem rsets_in (a : Option Addr) (g off len cap : Nat) (Z : List Int) (w : World) (hm : len ≤ 50000000000000) (hA : len = 0 ∨ (a = some ⟨g, off, none⟩ ∧ Row w g off len cap Z)) :
    CallsIn Fence.wide 9 Tryd.prog 27 #[.slice a len cap] w fun e w' => ∃ v x, e = .returned (.tuple #[v, x]) ∧ RsTold Z len w w' v x ∧ Below w.heap.size w w' := by
  have hg : len = 0 ∨ g < w.heap.size := by
    rcases Nat.eq_zero_or_pos len with h0 | h0
    · exact Or.inl h0
    · exact Or.inr (lt_cell ((hA.resolve_left (by omega)).2.hcell 0 h0))
  obtain ⟨i0, hi, hz0, hz1, hz2⟩ := info_parts infoA2
  have HZ := hide (show i0.zero = some (.agg #[.int .i64 0, .int .i64 0]) ∧ i0.size = 2 ∧ i0.bytes = 16 from ⟨hz0, hz1, hz2⟩)
  have HI := hide hi
  clear hi hz0 hz1 hz2
  refine callsIn_of_wp_marks Tryd.func27 rfl trivial ?_ rfl
  simp only [Tryd.ntmps27, List.size_toArray, List.length_cons, List.length_nil, Nat.reduceAdd, Nat.reduceSub, Array.replicate_succ, Array.replicate_zero, List.push_toArray, List.append_toArray, List.nil_append, List.cons_append]
  by_cases h6 : len % 6 = 0
  case neg =>
    have p6 : (((len : Int) % 6) != 0) = true := by simp; omega
    gi_wp2
    have c1 := ((Boxed.new w 54 (.slice none 0 0)).alloc (Obj.cells #[Value.iface 73 (.int .i64 3)] 26)).cell
    have c2 := (Boxed.new (w.alloc (Obj.cells #[Value.slice none 0 0] 54)) 26 (.iface 73 (.int .i64 3))).cell
    simp only [World.size_alloc] at c2
    refine ⟨.tuple #[.slice none 0 0, .iface 73 (.int .i64 3)], by simp [results, Tryd.results27, go_sem], _, _, rfl, Or.inl ⟨h6, rfl, rfl⟩, ((Below.refl _ w).alloc (Nat.le_refl _) _).alloc (by simp) _⟩
  have p6 : (((len : Int) % 6) != 0) = false := by simp; omega
  have HG := hide hg
  have HA := hide hA
  have H6 := hide h6
  clear hg hA h6
  gi_wp2_with (refine ⟨trivial, ?_⟩; gi_at_call 50; refine (callsIn_wide.2 (settings_call _ _ _ _)).mono ?_; rintro e w' ⟨rfl, rfl⟩)
  have bR0 := (((Boxed.new w 54 (.slice none 0 0)).alloc (Obj.cells #[Value.nilIface] 26)).alloc (Obj.cells #[Value.slice none 0 0] 54)).alloc (Obj.cells #[Value.slice a len cap] 29)
  have bR1 := ((Boxed.new (w.alloc (Obj.cells #[Value.slice none 0 0] 54)) 26 .nilIface).alloc (Obj.cells #[Value.slice none 0 0] 54)).alloc (Obj.cells #[Value.slice a len cap] 29)
  have bL := (Boxed.new ((w.alloc (Obj.cells #[Value.slice none 0 0] 54)).alloc (Obj.cells #[Value.nilIface] 26)) 54 (.slice none 0 0)).alloc (Obj.cells #[Value.slice a len cap] 29)
  have bB := Boxed.new (((w.alloc (Obj.cells #[Value.slice none 0 0] 54)).alloc (Obj.cells #[Value.nilIface] 26)).alloc (Obj.cells #[Value.slice none 0 0] 54)) 29 (.slice a len cap)
  have hB0 : Below w.heap.size w ((((w.alloc (Obj.cells #[Value.slice none 0 0] 54)).alloc (Obj.cells #[Value.nilIface] 26)).alloc (Obj.cells #[Value.slice none 0 0] 54)).alloc (Obj.cells #[Value.slice a len cap] 29)) := ((((Below.refl _ w).alloc (Nat.le_refl _) _).alloc (by simp) _).alloc (by simp; omega) _).alloc (by simp; omega) _
  have hsz : ((((w.alloc (Obj.cells #[Value.slice none 0 0] 54)).alloc (Obj.cells #[Value.nilIface] 26)).alloc (Obj.cells #[Value.slice none 0 0] 54)).alloc (Obj.cells #[Value.slice a len cap] 29)).heap.size = w.heap.size + 4 := by simp
  simp only [World.size_alloc] at bR1 bL bB
  obtain ⟨W0, hW0⟩ : ∃ W0, (((w.alloc (Obj.cells #[Value.slice none 0 0] 54)).alloc (Obj.cells #[Value.nilIface] 26)).alloc (Obj.cells #[Value.slice none 0 0] 54)).alloc (Obj.cells #[Value.slice a len cap] 29) = W0 := ⟨_, rfl⟩
  rw [hW0] at bR0 bR1 bL bB hB0 hsz ⊢
  clear hW0
  refine wpIn_range_chain3 (N := (len + 6 - 1) / 6) (m := 3) (n₀ := w.heap.size) (w0 := W0) rfl (by decide) (gf := 67) (lb := #[.pointer (some ⟨w.heap.size + 1 + 1 + 1, 0, none⟩)]) rfl trivial (enters_of Tryd.func67 (by kernel_rfl) rfl)
    (encs := sEnc Z len) (S := sAll len) (Sp := sSome len)
    (settings_own a g off len cap w.heap.size (w.heap.size + 1 + 1 + 1) Z W0 H6.out (by omega) (HA.out.imp id (fun h => ⟨h.1, h.2.below hB0⟩)) HG.out bB (by omega))
    (by omega) (Below.refl _ _) (fun _ => rfl)
    (RsI w Z len) (RsX w Z len)
    ?hI ?hIx ⟨⟨_, bL, World.ownsRow_nil _ _ _ _⟩, ⟨(fun y hy => by cases hy), bR0, bR1⟩, hB0⟩
    (fun x a' X => ∃ B, w.heap.size + 9 ≤ B ∧ a' = { tmps := #[.slice a len cap, undef, .pointer (some ⟨w.heap.size, 0, none⟩), .pointer (some ⟨w.heap.size + 1, 0, none⟩), .pointer (some ⟨w.heap.size + 1 + 1, 0, none⟩), .pointer (some ⟨B, 0, none⟩), .slice a len cap, .int .i64 len, .int .i64 ((len : Int) % 6), .bool false, undef, .slice a len cap, .func (.func 67) #[] #[.pointer (some ⟨w.heap.size + 1 + 1 + 1, 0, none⟩)], sArr Z x.1, undef, undef, undef, undef, undef, undef, undef, undef, undef], defers := [] } ∧ Two2 X B (sId Z x.1) (sVal Z x.1))
    ?hAx ?assign ?body ?done ?stop
  case hI =>
    rintro s X Y row ⟨⟨v, h1, h2⟩, ⟨h3, h4, h5⟩, hbl⟩ hgr hr
    exact ⟨⟨v, bx_own h1 hgr hr, owns_turn h2 hgr (fun r e => (hr r e).2)⟩, ⟨h3, bx_own h4 hgr hr, bx_own h5 hgr hr⟩, (ownFrom_below (β := Unit) (Nat.le_refl _) (by omega)) () X Y row hbl hgr hr⟩
  case hIx =>
    rintro c s X Y row ⟨hc, h1, ⟨h2, h3⟩, hbl⟩ hgr hr
    exact ⟨hc, h1, ⟨bx_own h2 hgr hr, bx_own h3 hgr hr⟩, (ownFrom_below (β := Unit) (Nat.le_refl _) (by omega)) () X Y row hbl hgr hr⟩
  case hAx =>
    rintro x a' s X Y row ⟨B, hB, ha, hT⟩ hgr hr
    exact ⟨B, hB, ha, ((Own.from (two_own B _ _ a' a') W0.heap.size) () X Y row ⟨rfl, hT⟩ hgr hr).2⟩
  case assign =>
    intro l pre x X K hI hs hK
    dsimp only [sEnc, sArr]
    gi_wp2
    have hal := World.grownBy_alloc X (.cells #[.int .i64 (sId Z x.1), .int .i64 (sVal Z x.1)] 59) none
    refine hK _ _ ((keeps_of_below ((Below.refl _ X).alloc (Nat.le_refl _) _)).from _) ⟨(Below.refl _ X).alloc (by omega) _, fun k o _ _ ho => (hal.block k (Array.getElem?_eq_some_iff.1 ho).1 (by simp)).trans ho⟩ ?_ ⟨X.heap.size, by omega, by simp [sArr], heap_alloc_new _ _⟩
    obtain ⟨⟨v, h1, h2⟩, ⟨h3, h4, h5⟩, h6⟩ := hI
    exact ⟨⟨v, h1.alloc _, h2.alloc _⟩, ⟨h3, h4.alloc _, h5.alloc _⟩, h6.alloc (by have := h6.size; omega) _⟩
  case body =>
    rintro l pre x a' X ⟨⟨v, bV, hown⟩, ⟨hall, b0, b1⟩, hBX⟩ ⟨B, hB, rfl, hT⟩ hlt hsX
    have t0 := hT.c0
    have t1 := hT.c1
    have cV := bV.cell
    have fV := bV.frozen
    have c0 := b0.cell
    have f0 := b0.frozen
    have c1 := b1.cell
    have f1 := b1.frozen
    have HALL := hide hall
    have HBV := hide bV
    have HB0 := hide b0
    have HB1 := hide b1
    have HBX := hide hBX
    have HT := hide hT
    have HSZ := hide hsz
    have HOWN := hide hown
    have HSC := hide (sCells_snoc Z (pre.map (·.1)) x.1)
    have hlen6 : pre.length + 1 ≤ 8333333333334 := by omega
    have hsX2 : w.heap.size + 9 ≤ X.heap.size := by omega
    obtain ⟨p1, hp1⟩ : ∃ p1, sId Z x.1 = p1 := ⟨_, rfl⟩
    obtain ⟨p2, hp2⟩ : ∃ p2, sVal Z x.1 = p2 := ⟨_, rfl⟩
    have HP2 := hide hp2
    rw [hp1] at t0
    rw [hp2] at t1
    rw [hp1, hp2] at HSC HT
    unfold sArr
    rw [hp1, hp2]
    clear hT hp1 hp2 hall bV b0 b1 hBX hsz hown hsX hlt bR0 bR1 bL bB hB0
    by_cases e5 : 2147483647 < p2
    · gi_wp2
      exact ⟨((KeepsOthers.setCell _ _ _).trans (KeepsOthers.setCell _ _ _)).from _, rfl, ⟨pre, x, rfl, by rw [HP2.out]; exact e5⟩, ⟨(HB0.out.set _).other (by omega) _, (HB1.out.other (by omega) _).set _⟩, (HBX.out.setCell (Nat.le_refl _) _).setCell (by show w.heap.size ≤ w.heap.size + 1; omega) _⟩
    · have HCN : Hid (∀ j u, [Value.int .i64 p1, .int .i64 p2][j]? = some u → (X.alloc (.cells #[.int .i64 p1, .int .i64 p2] 59)).cell? ((⟨X.heap.size, 0, none⟩ : Addr).add j) = some u) := by
        intro j u hj
        have hadd : (⟨X.heap.size, 0, none⟩ : Addr).add j = ⟨X.heap.size, j, none⟩ := by unfold Addr.add; split <;> simp_all
        rw [hadd, cell_of_row _ _ j _ _ _ (World.alloc_heap_new X _), ← hj]
        simp
      have HCO : Hid (∀ u ∈ [Value.int .i64 p1, .int .i64 p2], u.oneCell' = true) := by intro u hu; simp at hu; rcases hu with rfl | rfl <;> rfl
      gi_wp2_with (gi_at_builtin; refine wpListIn_append_own _ rfl _ _ 54 rfl (w.heap.size + 9) 59 i0 (.agg #[.int .i64 0, .int .i64 0]) 2 16 Tryd.underlying54 HI.out HZ.out.1 HZ.out.2.1 HZ.out.2.2 rfl (by decide) v pre.length _ rfl (HOWN.out.alloc _) ⟨X.heap.size, 0, none⟩ 1 1 [.int .i64 p1, .int .i64 p2] rfl rfl HCN.out HCO.out (by unfold maxLen; omega) (by omega) (by rw [World.size_alloc]; omega) ?_)
      intro v3 w3 hown3 hgrow3 _
      obtain ⟨g3, c3, rfl⟩ := ownsRow_succ hown3
      obtain ⟨hv1, hv2, _, hk2, hbel2⟩ := HBV.out.appended (n₀ := w.heap.size) (by decide) (own_mono HOWN.out (by omega)) (by omega) (by omega) (own_mono hown3 (by omega)) hgrow3
      have cV3 := hv1.cell
      have fV3 := hv1.frozen
      have hgs := grownBy_setCell' w3 (w.heap.size + 2) (.slice (some ⟨g3, 0, none⟩) (pre.length + 1) c3)
      have other : ∀ (B : Nat) (t : TypeId) (u : Value), Boxed X B t u → t ≠ 59 → B ≠ w.heap.size + 2 → Boxed (w3.setCell ⟨w.heap.size + 2, 0, none⟩ (.slice (some ⟨g3, 0, none⟩) (pre.length + 1) c3)) B t u := fun B t u hb ht hne =>
        (((hb.alloc _).kept hgrow3 (hb.not_row ht HOWN.out)).kept hgs (fun e' => hne (by simpa using e')))
      have ho4 := hown3.kept hgs (.inr (hv1.not_row (by decide) hown3).symm)
      have HFIN : Hid (KeepsFrom W0.heap.size X (w3.setCell ⟨w.heap.size + 2, 0, none⟩ (.slice (some ⟨g3, 0, none⟩) (pre.length + 1) c3)) ∧ (Below w.heap.size X (w3.setCell ⟨w.heap.size + 2, 0, none⟩ (.slice (some ⟨g3, 0, none⟩) (pre.length + 1) c3)) ∧ KeepsIn (W0.heap.size + 2) 3 X (w3.setCell ⟨w.heap.size + 2, 0, none⟩ (.slice (some ⟨g3, 0, none⟩) (pre.length + 1) c3))) ∧
          RsI w Z len (pre ++ [x]) (w3.setCell ⟨w.heap.size + 2, 0, none⟩ (.slice (some ⟨g3, 0, none⟩) (pre.length + 1) c3))) := by
        refine ⟨hk2.from _, ⟨hbel2, fun k o h1 h2 ho => ?_⟩, ⟨_, hv2, ?_⟩, ⟨fun y hy => ?_, other _ _ _ HB0.out (by decide) (by omega), other _ _ _ HB1.out (by decide) (by omega)⟩, HBX.out.trans hbel2⟩
        · have hs := HSZ.out
          have hkl : k < X.heap.size := (Array.getElem?_eq_some_iff.1 ho).1
          rw [hgs.block k (by have := hgrow3.size; simp at this; omega) (fun e' => by simp at e'; omega), hgrow3.block k (by simp; omega) (fun e' => by have := (HOWN.out.lt k e'.symm).1; omega)]
          exact (Below.heap_alloc _ _ _ hkl).trans ho
        · rw [List.length_append, List.map_append]
          have := HSC.out
          simp only [List.map_cons, List.map_nil, List.length_cons, List.length_nil]
          rw [this]
          exact ho4
        · rcases List.mem_append.1 hy with h | h
          · exact HALL.out y h
          · rw [List.mem_singleton.1 h, HP2.out]; omega
      clear hv1 hv2 hk2 hbel2 hgs other ho4 hown3 hgrow3
      gi_wp2
      exact HFIN.out
  case done =>
    rintro D xs X hD hS ⟨⟨v, bV, hown⟩, ⟨hall, b0, b1⟩, hBX⟩ hX
    have cV := bV.cell
    have c0 := b0.cell
    have f0 := b0.frozen
    have c1 := b1.cell
    have f1 := b1.frozen
    have HALL := hide hall
    have HB0 := hide b0
    have HB1 := hide b1
    have HBX := hide hBX
    have HS := hide hS
    have HOWN := hide hown
    have HSZ := hide hsz
    have hv : ∃ a c, v = .slice a xs.length c := by
      rcases hown.2 with ⟨h1, h2⟩ | ⟨g', c', cur, h1, _⟩
      · exact ⟨none, 0, by rw [h1, h2]⟩
      · exact ⟨_, c', h1⟩
    obtain ⟨va, vc, rfl⟩ := hv
    clear hall b0 b1 hBX hS hown bV bR0 bR1 bL bB hB0 hsz
    gi_wp2
    have hX2 : ((X.setCell ⟨w.heap.size, 0, none⟩ (.slice va xs.length vc)).setCell ⟨w.heap.size + 1, 0, none⟩ .nilIface).heap[D]? = some (.deferred (some [])) := (KeepsOthers.setCell _ _ _).same D _ ((KeepsOthers.setCell _ _ _).same D _ hX rfl) rfl
    refine ⟨by simp, .inl ⟨_, _, rfl, run_takeDeferred (b := D) (ds := []) hX2, ?_⟩⟩
    have hs := HSZ.out
    have e0 : Boxed (((X.setCell ⟨w.heap.size, 0, none⟩ (.slice va xs.length vc)).setCell ⟨w.heap.size + 1, 0, none⟩ .nilIface).putObj D (.deferred none)) w.heap.size 54 (.slice va xs.length vc) := (World.putObj_heap_other (by omega)).trans ((HB0.out.set _).other (by omega) _)
    have e1 : Boxed (((X.setCell ⟨w.heap.size, 0, none⟩ (.slice va xs.length vc)).setCell ⟨w.heap.size + 1, 0, none⟩ .nilIface).putObj D (.deferred none)) (w.heap.size + 1) 26 .nilIface := (World.putObj_heap_other (by omega)).trans ((HB1.out.other (by omega) _).set _)
    have k0 := e0.cell
    have k1 := e1.cell
    refine ⟨.tuple #[.slice va xs.length vc, .nilIface], by simp [results, Tryd.results27, go_sem, k0, k1], _, _, rfl, Or.inr (Or.inr ⟨H6.out, fun j hj => ?_, rfl, ?_⟩), ?_⟩
    · obtain ⟨y, hy, e⟩ := mem_range_of HS.out (show j < (len + 6 - 1) / 6 by have := H6.out; omega)
      rw [← e]; exact HALL.out y hy
    · have hxs : xs.map (·.1) = List.range (len / 6) := by
        have h := HS.out
        unfold sAll at h
        rw [h]; congr 1; have := H6.out; omega
      have hxl : xs.length = len / 6 := by have := congrArg List.length hxs; simpa using this
      have h1 : X.ownsRow (w.heap.size + 9) 59 2 (.slice va xs.length vc) xs.length (sCells Z (xs.map (·.1))) := HOWN.out
      rw [hxs, hxl] at h1
      rw [hxl]
      have h2 := (own_mono h1 (show w.heap.size ≤ w.heap.size + 9 by omega)).kept (grownBy_setCell' X w.heap.size (.slice va (len / 6) vc)) (.inr (HB0.out.not_row (by decide) h1).symm)
      have h3 := h2.kept (grownBy_setCell' _ (w.heap.size + 1) .nilIface) (.inr ((HB1.out.other (by omega) _).not_row (by decide) h2).symm)
      refine owns_turn h3 (grownBy_putObj' _ D _) (fun r e' => ?_)
      cases e'
      rw [hxl] at hX2
      exact ⟨_, hX2, rfl⟩
    · exact ((HBX.out.setCell (Nat.le_refl _) _).setCell (by show w.heap.size ≤ w.heap.size + 1; omega) _).trans (belowK_b (w := W0) (by omega) _ D _ _ hD hX2 rfl rfl)
  case stop =>
    rintro D c pre X hD _ ⟨rfl, ⟨q, y, rfl, hy⟩, ⟨b0, b1⟩, hBX⟩ hX
    gi_wp2
    refine ⟨by simp, .inl ⟨_, _, rfl, run_takeDeferred (b := D) (ds := []) hX, ?_⟩⟩
    have k0 := (show Boxed (X.putObj D (.deferred none)) w.heap.size 54 (.slice none 0 0) from (World.putObj_heap_other (by omega)).trans b0).cell
    have k1 := (show Boxed (X.putObj D (.deferred none)) (w.heap.size + 1) 26 (.iface 73 (.int .i64 10)) from (World.putObj_heap_other (by omega)).trans b1).cell
    refine ⟨.tuple #[.slice none 0 0, .iface 73 (.int .i64 10)], by simp [results, Tryd.results27, go_sem, k0, k1], _, _, rfl, Or.inr (Or.inl ⟨H6.out, ⟨y.1, by have := y.2; have := H6.out; omega, hy⟩, rfl, rfl⟩), ?_⟩
    exact hBX.trans (belowK_b (w := W0) (by omega) _ D _ _ hD hX rfl rfl)
/-- frame.ReadSets, whole. -/
theorem rsets_any (a : Option Addr) (len cap : Nat) (Z : List Int) (w : World) (hA : Arg w a len cap Z) (hm : len ≤ 50000000000000) :
    Calls Tryd.prog 27 #[.slice a len cap] w fun e w' => ∃ v x, e = .returned (.tuple #[v, x]) ∧ RsTold Z len w w' v x ∧ Below w.heap.size w w' := by
  rcases hA with ⟨h0, _⟩ | ⟨g, off, ha, hr⟩
  · exact callsIn_wide.1 (rsets_in a 0 0 len cap Z w hm (Or.inl h0))
  · exact callsIn_wide.1 (rsets_in a g off len cap Z w hm (Or.inr ⟨ha, hr⟩))
end Go.Proofs.YtdlaaollamgplacDoor
