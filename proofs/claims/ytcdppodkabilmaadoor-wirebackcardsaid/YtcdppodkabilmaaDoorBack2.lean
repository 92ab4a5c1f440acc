/-
  THE WALK of the Go function tolllaw1.WireBack where the number may be written. No claim by itself.
-/
import Derived.Test.YtcdppodkabilmaaDoorBack
namespace Go.Proofs.YtcdppodkabilmaaDoor
open Go.RowKit
theorem shape_n {w : World} {base n : Nat} {v : Value} {xs : List Value} (h : w.ownsRow base 5 1 v n xs) (hn : 1 ≤ n) : ∃ g cap, v = .slice (some ⟨g, 0, none⟩) n cap := by
  obtain ⟨_, ⟨_, h0⟩ | ⟨g, cap, cur, hv, _⟩⟩ := h
  · omega
  · exact ⟨g, cap, hv⟩
theorem arg_cells {w : World} {ad : Addr} {len cap : Nat} {Z : List Int} (h : Arg w (some ad) len cap Z) :
    Z.length = len ∧ (∀ j u, (Z.map (Value.int .u8))[j]? = some u → w.cell? (ad.add j) = some u) ∧ ∀ x ∈ Z, 0 ≤ x ∧ x < 256 := by
  rcases h with ⟨rfl, rfl⟩ | ⟨g, off, ha, hr⟩
  · exact ⟨rfl, fun j u hu => by simp at hu, fun x hx => by simp at hx⟩
  · obtain rfl := Option.some.inj ha
    refine ⟨hr.hlen, fun j u hu => ?_, fun x hx => ?_⟩
    · have hj : j < Z.length := by
        rcases Nat.lt_or_ge j Z.length with h | h
        · exact h
        · simp [List.getElem?_eq_none (show (Z.map (Value.int .u8)).length ≤ j by simpa using h)] at hu
      have hplain : (⟨g, off, none⟩ : Addr).add j = ⟨g, off + j, none⟩ := by unfold Addr.add; split <;> simp_all
      rw [hplain, hr.hcell j (by rw [← hr.hlen]; exact hj)]
      simp [List.getElem?_eq_getElem hj] at hu
      subst hu
      simp [List.getD, List.getElem?_eq_getElem hj]
    · obtain ⟨t, ht, rfl⟩ := List.getElem_of_mem hx
      have := hr.hbyte t
      simpa [List.getD, List.getElem?_eq_getElem ht] using this
set_option maxRecDepth 100000 in
set_option maxHeartbeats 4000000 in
theorem back_some_err (n b : Int) (ad : Addr) (len cap : Nat) (Z : List Int) (w : World) (hA : Arg w (some ad) len cap Z) (hg : Laid w) (hlen : len ≤ 140737488351232) (hok : putOk n b 0) (x u k0 : Int) (hf : getF Z b = (x, u, k0)) (hk0 : k0 ≠ 0) :
    Calls Tryd.prog 5 #[.int .i64 n, .int .i64 b, .slice (some ad) len cap] w fun e w' => e = .returned (.bool true) ∧ Below w.heap.size w w' := by
  obtain ⟨_, _, b1, b2, _⟩ := id hok
  have HG : Hid (getF (putL n b 0 ++ Z) b = (n, ((putL n b 0).length : Int), 0)) := get_put n b Z hok
  have HC : Hid (∀ j, j < (putL n b 0).length → getF ((putL n b 0).take j) b = (0, 0, 8)) := fun j hj => get_cut n b j hok hj
  have HLB : Hid (∀ x ∈ putL n b 0, 0 ≤ x ∧ x < 256) := putL_byte n b 0 hok
  have hLl := putL_len n b 0
  have HF : Hid (getF Z b = (x, u, k0)) := hf
  clear hf
  go_enter Tryd.func5, Tryd.ntmps5
  go_wp2_with fail
  refine (put_1337 _).mono ?_
  rintro e w1 ⟨g1, cp1, rfl, q0, q1, q2, q3, q4, hb1⟩
  unfold maxLen at q4
  go_wp2_with fail
  refine (put_yes n b 0 _ hok).mono ?_
  rintro e w2 ⟨g2, c2, rfl, ho2, hb2⟩
  clear q0 q1 q2 q3 q4
  generalize putL n b 0 = L at *
  have hs1 := hb1.size
  have hs2 := hb2.size
  have hr2 := row_of rfl ho2 HLB.out
  have hB2 : Below w.heap.size w w2 := hb1.trans (hb2.mono hs1)
  have hg2 := hg.below hB2
  have hcp := hr2.hcap
  have hmx := hr2.hmax
  unfold maxLen at hmx
  go_wp2_with fail
  go_loopw [11] (fun i wr => ∃ k : Nat, i = .int .i64 k ∧ k ≤ L.length ∧ Below w2.heap.size w2 wr) (fun i _ => L.length - (intOf i).toNat)
  case atStart => exact ⟨0, rfl, by omega, Below.refl _ _⟩
  case round =>
    obtain ⟨k, rfl, hk, hbr⟩ := hrel
    have hrr := hr2.below hbr
    have hsr := hbr.size
    by_cases hlt : k < L.length
    · have hrt := hrr.take k (by omega)
      go_wp2_with fail
      refine (get_err _ k c2 (L.take k) b 0 0 8 _ (Or.inr ⟨g2, 0, rfl, hrt⟩) (HC.out k hlt) (by decide)).mono ?_
      rintro e w3 ⟨rfl, rfl⟩
      clear hrt
      go_wp2_with fail
      refine (error_hit 8 8 _ (hg2.below hbr)).mono ?_
      rintro e w3 ⟨rfl, hb3⟩
      go_wp2
      go_roundw
      case rel => exact ⟨k + 1, by go_num, by omega, hbr.trans (hb3.mono hsr)⟩
      case measure => simp [intOf]; omega
    · have hownr := own_below ho2 hbr
      have hBr : Below w.heap.size w wr := hB2.trans (hbr.mono (by omega))
      clear hrr
      obtain ⟨hZl, hZc, hZb⟩ := arg_cells (hA.below hBr)
      have HZL : Hid (Z.length = len) := hZl
      have HZC : Hid (∀ j u, (Z.map (Value.int .u8))[j]? = some u → wr.cell? (ad.add j) = some u) := hZc
      have HZB : Hid (∀ x ∈ Z, 0 ≤ x ∧ x < 256) := hZb
      clear hZl hZc hZb
      obtain ⟨i0, hi, hz0, hz1, hz2⟩ := info_parts info5
      have hLl2 := hLl.2
      go_wp2_with (at_builtin; refine wpList_append_own _ rfl _ _ 22 rfl w1.heap.size 5 i0 (.int .u8 0) 1 1 Tryd.underlying22 hi hz0 hz1 hz2 rfl (by decide) _ _ _ rfl hownr ad len cap (Z.map (Value.int .u8)) rfl ?c0 HZC.out (ints_oneCell _ _) ?c3 ?c4 ?c5 ?_)
      case c0 => rw [List.length_map, HZL.out, Nat.mul_one]
      case c3 => unfold maxLen; omega
      case c4 => omega
      case c5 => omega
      intro v6 w6 hown6 hgrow _
      have hB6 : Below w.heap.size w w6 := hBr.grown hgrow (by omega) (fun k hk => by have := (hownr.lt k hk).1; omega)
      have hfin : w6.ownsRow w1.heap.size 5 1 v6 (L.length + len) ((L ++ Z).map (Value.int .u8)) := by rw [List.map_append]; exact hown6
      obtain ⟨g6, c6, rfl⟩ := shape_n hfin (by omega)
      have hr6 := row_of (by rw [List.length_append, HZL.out]) hfin (fun x hx => (List.mem_append.1 hx).elim (HLB.out x) (HZB.out x))
      have hA6 := hA.below hB6
      clear hown6 hgrow hfin hownr
      go_wp2_with fail
      refine (get_ok _ _ c6 (L ++ Z) b n (L.length : Int) _ (Or.inr ⟨g6, 0, rfl, hr6⟩) HG.out).mono ?_
      rintro e w7 ⟨rfl, rfl⟩
      clear hr6
      go_wp2_with fail
      refine (get_err _ len cap Z b x u k0 _ hA6 HF.out hk0).mono ?_
      rintro e w7 ⟨rfl, rfl⟩
      go_wp2
      go_ret
      exact ⟨rfl, hB6⟩
end Go.Proofs.YtcdppodkabilmaaDoor
