/-
  CONTRACT of the Go function tollref1.Frame, at frames that may be said. No claim by itself.
-/
import Derived.Test.YtdlaaollamgplacDoorRframe
import Derived.Deep.AppendLies
namespace Go.Proofs.YtdlaaollamgplacDoor
open Go.RowKit
set_option maxRecDepth 100000
theorem fr_news {w : World} {g off len cap : Nat} {Z : List Int} (h : Row w g off len cap Z) : ∀ j u, (Z.map (Value.int .u8))[j]? = some u → w.cell? ((⟨g, off, none⟩ : Addr).add j) = some u := by
  intro j u hu
  have hj : j < Z.length := by
    have := (List.getElem?_eq_some_iff.1 hu).1
    simpa using this
  have e : (⟨g, off, none⟩ : Addr).add j = ⟨g, off + j, none⟩ := by unfold Addr.add; split <;> simp_all
  rw [e, h.hcell j (by rw [← h.hlen]; exact hj), ← hu, List.getElem?_map, List.getElem?_eq_getElem hj]
  simp [List.getD, List.getElem?_eq_getElem hj]
theorem fr_one (Z : List Int) : ∀ u ∈ Z.map (Value.int .u8), u.oneCell' = true := by
  intro u hu
  obtain ⟨c, _, rfl⟩ := List.mem_map.1 hu
  rfl
theorem fr_shape {w : World} {base n : Nat} {v : Value} {xs : List Value} (h : w.ownsRow base 5 1 v n xs) (hn : 1 ≤ n) : ∃ g cap, v = .slice (some ⟨g, 0, none⟩) n cap := by
  obtain ⟨_, ⟨_, h0⟩ | ⟨g, cap, cur, hv, _⟩⟩ := h
  · omega
  · exact ⟨g, cap, hv⟩
theorem fr_shape2 {w : World} {base n : Nat} {v : Value} {xs : List Value} (h : w.ownsRow base 5 1 v n xs) (hn : 1 ≤ n) : ∃ g cap, v = .slice (some ⟨g, 0, none⟩) n cap ∧ n ≤ cap := by
  obtain ⟨_, ⟨_, h0⟩ | ⟨g, cap, cur, hv, _, _, hc, _⟩⟩ := h
  · omega
  · exact ⟨g, cap, hv, hc⟩
theorem fr_mono {w : World} {base base' n : Nat} {v : Value} {xs : List Value} (h : w.ownsRow base 5 1 v n xs) (hb : base' ≤ base) : w.ownsRow base' 5 1 v n xs := by
  obtain ⟨h1, h2 | ⟨g, cap, cur, hv, hg, r⟩⟩ := h
  · exact ⟨h1, Or.inl h2⟩
  · exact ⟨h1, Or.inr ⟨g, cap, cur, hv, by omega, r⟩⟩
set_option maxHeartbeats 8000000 in
theorem rframe_good (k fl st : Int) (a : Option Addr) (len cap : Nat) (Z : List Int) (w : World) (hA : Arg w a len cap Z) (hZ : Z.length = len) (hok : frmE (k, fl, st, Z) = 0) :
    Calls Tryd.prog 14 #[.agg #[.int .i64 k, .int .i64 fl, .int .i64 st, .slice a len cap]] w fun e w' => (∃ v x, e = .returned (.tuple #[v, .int .i64 x]) ∧ FrMade w w' (k, fl, st, Z) v x) ∧ Below w.heap.size w w' := by
  obtain ⟨i0, hi, hz0, hz1, hz2⟩ := info_parts info5w
  have hr : ¬ (k < 0 ∨ 255 < k ∨ fl < 0 ∨ 255 < fl ∨ st < 0 ∨ 2147483647 < st) ∧ len ≤ 1024 := by
    unfold frmE at hok
    simp only at hok
    split at hok
    · simp at hok
    · rename_i h1
      split at hok
      · simp at hok
      · rename_i h2; exact ⟨h1, by omega⟩
  obtain ⟨h1, hl4⟩ := hr
  have d1 : decide (k < 0) = false := decide_eq_false (by omega)
  have d2 : decide (255 < k) = false := decide_eq_false (by omega)
  have d3 : decide (fl < 0) = false := decide_eq_false (by omega)
  have d4 : decide (255 < fl) = false := decide_eq_false (by omega)
  have d5 : decide (st < 0) = false := decide_eq_false (by omega)
  have d6 : decide (2147483647 < st) = false := decide_eq_false (by omega)
  have d7 : decide ((1024 : Int) < (len : Int)) = false := decide_eq_false (by omega)
  have k0 : 0 ≤ k := by omega
  have k1 : k ≤ 255 := by omega
  have l0 : 0 ≤ fl := by omega
  have l1 : fl ≤ 255 := by omega
  have s0 : 0 ≤ st := by omega
  have s1 : st ≤ 2147483647 := by omega
  have HF : Hid (frmL (k, fl, st, Z) = bigL 3 len ++ ([k, fl] ++ (bigL 4 st ++ Z))) := by show frmL _ = _; unfold frmL; rw [hZ]
  have HOK := hide hok
  obtain ⟨w0, hw0⟩ : ∃ w0, w0 = w.alloc (.cells #[.int .i64 k, .int .i64 fl, .int .i64 st, .slice a len cap] 43) := ⟨_, rfl⟩
  have hb0 : Below w.heap.size w w0 := by rw [hw0]; exact (Below.refl _ _).alloc (Nat.le_refl _) _
  have hsz0 : w.heap.size + 1 ≤ w0.heap.size := by rw [hw0]; simp
  have hx : w0.heap[w.heap.size]? = some (.cells #[.int .i64 k, .int .i64 fl, .int .i64 st, .slice a len cap] 43 (0, 0)) := by rw [hw0]; exact Array.getElem?_push_size
  have HX : Hid (∀ wx i u, Below w0.heap.size w0 wx → (#[Value.int .i64 k, .int .i64 fl, .int .i64 st, .slice a len cap] : Array Value)[i]? = some u → wx.cell? ⟨w.heap.size, i, none⟩ = some u) := fun wx i u hb hu => by
    rw [hb.cell (p := ⟨w.heap.size, i, none⟩) (by show w.heap.size < _; omega), cell_of_row w0 w.heap.size i _ _ _ hx]; exact hu
  have HA : Hid (∀ wx, Below w.heap.size w wx → Arg wx a len cap Z) := fun wx hb => hA.below hb
  have hbg := rbig_row (len : Int) 3 w0 ⟨by decide, by decide, by omega, by unfold most; simp; omega⟩
  clear hok h1 hA hx
  simp only [show (3 : Int).toNat = 3 from rfl] at hbg
  have hb3 : 3 ≤ (bigL 3 (len : Int)).length ∧ (bigL 3 (len : Int)).length ≤ 3 := by rw [bigL_len]; omega
  generalize bigL 3 (len : Int) = P at *
  go_enter Tryd.func14, Tryd.ntmps14
  go_wp2_with fail
  rw [← hw0]
  clear hw0
  refine hbg.mono ?_
  rintro e w1 ⟨g1, c1, rfl, ho1, hbe1⟩
  have n1 : ∀ wx, Below w0.heap.size w0 wx → wx.cell? ⟨w.heap.size, 0, none⟩ = some (.int .i64 k) := fun wx hb => HX.out wx 0 _ hb rfl
  have m0 := n1 w1 hbe1
  have O1 := hide ho1
  have B1 := hide hbe1
  have z1 := hbe1.size
  clear n1 ho1 hbe1 hbg
  have HN_w2 : Hid (∀ j u, [Value.int .u8 k][j]? = some u → (w1.alloc (.cells #[.int .u8 k] 5)).cell? ((⟨w1.heap.size, 0, none⟩ : Addr).add j) = some u) :=
    World.news_of_block (w := w1.alloc (.cells #[.int .u8 k] 5)) (B := w1.heap.size) (cs := #[.int .u8 k]) (t := 5) (fr := (0, 0)) Array.getElem?_push_size
  have HO_w2 := hide ((O1.out).alloc (.cells #[.int .u8 k] 5))
  have HB_w2 : Hid (Below w0.heap.size w0 (w1.alloc (.cells #[.int .u8 k] 5))) := B1.out.alloc B1.out.size _
  have sz_w2 := HB_w2.out.size
  go_wp2_with (at_builtin; refine wpList_append_own _ rfl _ _ 29 rfl w0.heap.size 5 i0 _ 1 1 Tryd.underlying29 hi hz0 hz1 hz2 rfl (by decide) _ _ _ rfl HO_w2.out ⟨w1.heap.size, 0, none⟩ 1 1 [.int .u8 k] rfl rfl HN_w2.out (by simp [Value.oneCell']) ?c3 ?c4 ?c5 ?_)
  case c3 => unfold maxLen; omega
  case c4 => omega
  case c5 => omega
  intro v2 w2 hown_w2 hgrow_w2 _
  have B2 := hide (HB_w2.out.grown hgrow_w2 (by omega) (fun k hk => (HO_w2.out.lt k hk).1))
  have O2 := hide hown_w2
  clear hown_w2 hgrow_w2 HN_w2 HO_w2 HB_w2 sz_w2
  have m1 := HX.out w2 1 _ B2.out rfl
  have z2 := B2.out.size
  have HN_w3 : Hid (∀ j u, [Value.int .u8 fl][j]? = some u → (w2.alloc (.cells #[.int .u8 fl] 5)).cell? ((⟨w2.heap.size, 0, none⟩ : Addr).add j) = some u) :=
    World.news_of_block (w := w2.alloc (.cells #[.int .u8 fl] 5)) (B := w2.heap.size) (cs := #[.int .u8 fl]) (t := 5) (fr := (0, 0)) Array.getElem?_push_size
  have HO_w3 := hide ((O2.out).alloc (.cells #[.int .u8 fl] 5))
  have HB_w3 : Hid (Below w0.heap.size w0 (w2.alloc (.cells #[.int .u8 fl] 5))) := B2.out.alloc B2.out.size _
  have sz_w3 := HB_w3.out.size
  go_wp2_with (at_builtin; refine wpList_append_own _ rfl _ _ 29 rfl w0.heap.size 5 i0 _ 1 1 Tryd.underlying29 hi hz0 hz1 hz2 rfl (by decide) _ _ _ rfl HO_w3.out ⟨w2.heap.size, 0, none⟩ 1 1 [.int .u8 fl] rfl rfl HN_w3.out (by simp [Value.oneCell']) ?c3 ?c4 ?c5 ?_)
  case c3 => unfold maxLen; omega
  case c4 => omega
  case c5 => omega
  intro v3 w3 hown_w3 hgrow_w3 _
  have B3 := hide (HB_w3.out.grown hgrow_w3 (by omega) (fun k hk => (HO_w3.out.lt k hk).1))
  have O3 := hide hown_w3
  clear hown_w3 hgrow_w3 HN_w3 HO_w3 HB_w3 sz_w3
  have m2 := HX.out w3 2 _ B3.out rfl
  have z3 := B3.out.size
  have hbg4 := rbig_row st 4 w3 ⟨by decide, by decide, s0, by unfold most; simp; omega⟩
  simp only [show (4 : Int).toNat = 4 from rfl] at hbg4
  have hb4 : 4 ≤ (bigL 4 st).length ∧ (bigL 4 st).length ≤ 4 := by rw [bigL_len]; omega
  have hq4 := bigL_byte 4 st
  generalize bigL 4 st = Q at *
  go_wp2_with fail
  refine hbg4.mono ?_
  rintro e w4 ⟨g4, c4, rfl, ho4, hbe4⟩
  have R4 := hide (row_of rfl ho4 hq4)
  have O4 := hide (own_below O3.out hbe4)
  have B4 := hide (B3.out.trans (hbe4.mono z3))
  have z4 := B4.out.size
  clear hbg4 ho4 hbe4 hq4
  go_wp2_with (at_builtin; refine wpList_append_own _ rfl _ _ 29 rfl w0.heap.size 5 i0 _ 1 1 Tryd.underlying29 hi hz0 hz1 hz2 rfl (by decide) _ _ _ rfl O4.out ⟨g4, 0, none⟩ Q.length c4 (Q.map (Value.int .u8)) rfl (by simp) (fr_news R4.out) (fr_one Q) ?c3 ?c4 ?c5 ?_)
  case c3 => unfold maxLen; omega
  case c4 => omega
  case c5 => omega
  intro v5 w5 hown5 hgrow5 _
  have B5 := hide (B4.out.grown hgrow5 (by omega) (fun k hk => (O4.out.lt k hk).1))
  have O5 := hide hown5
  have z5 := B5.out.size
  have m3 := HX.out w5 3 _ B5.out rfl
  have HB5 := hide (hb0.trans (B5.out.mono (by omega)))
  clear hown5 hgrow5
  rcases HA.out w5 HB5.out with ⟨rfl, rfl⟩ | ⟨g, off, rfl, hrow⟩
  · cases a with
    | none =>
      obtain ⟨g5, c5, rfl, hc5⟩ := fr_shape2 O5.out (by omega)
      have hc5i : (P.length : Int) + 1 + 1 + (Q.length : Int) ≤ (c5 : Int) := by omega
      go_wp2
      go_ret2
      refine ⟨⟨_, 0, rfl, Or.inl ⟨HOK.out, rfl, ?_⟩⟩, hb0.trans (B5.out.mono (by omega))⟩
      have h := fr_mono (base' := w.heap.size) O5.out (by omega)
      rw [HF.out]
      have e1 : (P ++ ([k, fl] ++ (Q ++ []))).length = P.length + 1 + 1 + Q.length := by simp; omega
      have e2 : (P ++ ([k, fl] ++ (Q ++ []))).map (Value.int .u8) = P.map (Value.int .u8) ++ [.int .u8 k] ++ [.int .u8 fl] ++ Q.map (Value.int .u8) := by simp
      rw [e1, e2]
      simpa using h
    | some ad =>
      go_wp2_with (at_builtin; refine wpList_append_own _ rfl _ _ 29 rfl w0.heap.size 5 i0 _ 1 1 Tryd.underlying29 hi hz0 hz1 hz2 rfl (by decide) _ _ _ rfl O5.out ad 0 cap [] rfl rfl (fun j u h => by simp at h) (fun u h => by simp at h) ?c3 ?c4 ?c5 ?_)
      case c3 => unfold maxLen; omega
      case c4 => omega
      case c5 => omega
      intro v6 w6 hown6 hgrow6 _
      have B6 := hide (B5.out.grown hgrow6 (by omega) (fun k hk => (O5.out.lt k hk).1))
      have O6 := hide hown6
      clear hown6 hgrow6
      go_wp2
      go_ret2
      refine ⟨⟨_, 0, rfl, Or.inl ⟨HOK.out, rfl, ?_⟩⟩, hb0.trans (B6.out.mono (by omega))⟩
      have h := fr_mono (base' := w.heap.size) O6.out (by omega)
      rw [HF.out]
      have e1 : (P ++ ([k, fl] ++ (Q ++ []))).length = P.length + 1 + 1 + Q.length := by simp; omega
      have e2 : (P ++ ([k, fl] ++ (Q ++ []))).map (Value.int .u8) = P.map (Value.int .u8) ++ [.int .u8 k] ++ [.int .u8 fl] ++ Q.map (Value.int .u8) := by simp
      rw [e1, e2]
      simpa using h
  · have hcp := hrow.hcap
    have hmx := hrow.hmax
    unfold maxLen at hmx
    have RW := hide hrow
    clear hrow
    go_wp2_with (at_builtin; refine wpList_append_own _ rfl _ _ 29 rfl w0.heap.size 5 i0 _ 1 1 Tryd.underlying29 hi hz0 hz1 hz2 rfl (by decide) _ _ _ rfl O5.out ⟨g, off, none⟩ len cap (Z.map (Value.int .u8)) rfl (by simp [hZ]) (fr_news RW.out) (fr_one Z) ?c3 ?c4 ?c5 ?_)
    case c3 => unfold maxLen; omega
    case c4 => omega
    case c5 => omega
    intro v6 w6 hown6 hgrow6 _
    have B6 := hide (B5.out.grown hgrow6 (by omega) (fun k hk => (O5.out.lt k hk).1))
    have O6 := hide hown6
    clear hown6 hgrow6
    go_wp2
    go_ret2
    refine ⟨⟨_, 0, rfl, Or.inl ⟨HOK.out, rfl, ?_⟩⟩, hb0.trans (B6.out.mono (by omega))⟩
    have h := fr_mono (base' := w.heap.size) O6.out (by omega)
    rw [HF.out]
    have e1 : (P ++ ([k, fl] ++ (Q ++ Z))).length = P.length + 1 + 1 + Q.length + len := by simp [hZ]; omega
    have e2 : (P ++ ([k, fl] ++ (Q ++ Z))).map (Value.int .u8) = P.map (Value.int .u8) ++ [.int .u8 k] ++ [.int .u8 fl] ++ Q.map (Value.int .u8) ++ Z.map (Value.int .u8) := by simp
    rw [e1, e2]
    simpa using h
end Go.Proofs.YtdlaaollamgplacDoor
