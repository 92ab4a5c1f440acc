/-
  CONTRACT of the Go function tollref1.Text. No claim by itself.
-/
import Derived.Lib.ConvBytes
import Derived.Laws.AppendOwn
import Derived.Test.YtkjfhgoddhigmacGreatDoorM11
import Derived.Test.YtkjfhgoddhigmacGreatDoorM12
import Derived.Test.YtkjfhgoddhigmacGreatDoorM06
import Derived.Test.YtkjfhgoddhigmacGreatDoorM01
import Derived.Test.YtkjfhgoddhigmacGreatDoorM09
namespace Go.Proofs.YtkjfhgoddhigmacGreatDoor
open Go.RowKit
set_option maxRecDepth 100000
/-- A text as bytes of its own. -/
theorem conv_bytes (s : ByteArray) (w : World) (hs : s.size ≤ 1048576) : ∃ cap w', (convert 9 35 (.string s)).run Tryz.prog w = .ok (.slice (some ⟨w.heap.size, 0, none⟩) s.size cap) w' ∧ Below w.heap.size w w' ∧ w.heap.size < w'.heap.size ∧ Row w' w.heap.size 0 s.size cap (nums s) := by
  refine ⟨_, _, Lib.run_convert_string_bytes w 9 35 5 s Tryz.underlying9 Tryz.underlying35 Tryz.underlying5, ⟨rfl, rfl, rfl, by rw [Lib.bytesWorld_size]; omega, fun k hk => Lib.bytesWorld_at_old w 5 s k hk⟩, by rw [Lib.bytesWorld_size]; omega, nums_len s, grownCap_ge w _ _ _, grownCap_le_maxLen w _ _ _ (by unfold maxLen; omega), fun t ht => ?_, nums_byte s⟩
  rw [Nat.zero_add, Lib.bytesWorld_cell w 5 s t ht]
  have hk : t < s.data.toList.length := by simpa using ht
  simp only [nums, List.getD, List.getElem?_map, List.getElem?_eq_getElem hk, Option.map_some, Option.getD_some]
theorem row_news {w : World} {g off len cap : Nat} {Z : List Int} (h : Row w g off len cap Z) : ∀ j u, (Z.map (Value.int .u8))[j]? = some u → w.cell? ((⟨g, off, none⟩ : Addr).add j) = some u := by
  intro j u hu
  have hj : j < Z.length := by
    have := (List.getElem?_eq_some_iff.1 hu).1
    simpa using this
  have e : (⟨g, off, none⟩ : Addr).add j = ⟨g, off + j, none⟩ := by unfold Addr.add; split <;> simp_all
  rw [e, h.hcell j (by rw [← h.hlen]; exact hj), ← hu, List.getElem?_map, List.getElem?_eq_getElem hj]
  simp [List.getD, List.getElem?_eq_getElem hj]
theorem one_bytes (Z : List Int) : ∀ u ∈ Z.map (Value.int .u8), u.oneCell' = true := by
  intro u hu
  obtain ⟨c, _, rfl⟩ := List.mem_map.1 hu
  rfl
/-- What writing a text gives: its bytes, or none and a fault. -/
def TextMade (w w' : World) (s : ByteArray) (v : Value) (k : Int) : Prop :=
  (s.size ≤ 400 ∧ k = 0 ∧ w'.ownsRow w.heap.size 5 1 v (txtL (nums s)).length ((txtL (nums s)).map (Value.int .u8))) ∨ (400 < s.size ∧ k = 4 ∧ v = .slice none 0 0)
set_option maxHeartbeats 4000000 in
theorem rtext_any (s : ByteArray) (w : World) :
    Calls Tryz.prog 22 #[.string s] w fun e w' => (∃ v k, e = .returned (.tuple #[v, .int .i64 k]) ∧ TextMade w w' s v k) ∧ Below w.heap.size w w' := by
  obtain ⟨i0, hi, hz0, hz1, hz2⟩ := info_parts info5
  by_cases hbig : 400 < s.size
  · have hb : decide ((400 : Int) < (s.size : Int)) = true := by simp; omega
    go_enter Tryz.func22, Tryz.ntmps22
    go_wp2
    go_ret2
    exact ⟨⟨_, _, rfl, Or.inr ⟨hbig, rfl, rfl⟩⟩, Below.refl _ _⟩
  · have hb : decide ((400 : Int) < (s.size : Int)) = false := by simp; omega
    have hle : s.size ≤ 400 := by omega
    have hn := nums_len s
    go_enter Tryz.func22, Tryz.ntmps22
    go_wp2_with fail
    refine (rcode_any s w (by omega)).mono ?_
    rintro e w1 ⟨v, rfl, hown, hb1⟩
    by_cases hlt : (codeL (nums s)).length < s.size
    · have hT : Hid (txtL (nums s) = putL (codeL (nums s)).length 7 128 ++ codeL (nums s)) := by
        show txtL (nums s) = _
        unfold txtL; rw [if_pos (by omega)]
      have hc1 : 1 ≤ (codeL (nums s)).length := by
        have h1 := code_len (nums s)
        have h2 := (bitsL_len (nums s)).1
        omega
      obtain ⟨g, cap, rfl⟩ := shape_n hown hc1
      have hcb := code_byte (nums s)
      have hpl := putL_len ((codeL (nums s)).length : Int) 7 128
      generalize codeL (nums s) = C at *
      have hd : decide ((s.size : Int) ≤ (C.length : Int)) = false := by simp; omega
      have hrow := row_of rfl hown hcb
      have hok : putOk (C.length : Int) 7 128 := ⟨by omega, by omega, by decide, by decide, by decide, by decide, by decide⟩
      have HR := hide hrow
      have s1 := hb1.size
      clear hrow hown hcb
      go_wp2_with fail
      refine (rput_yes (C.length : Int) 7 128 w1 hok).mono ?_
      rintro e w2 ⟨g2, cap2, rfl, hown2, hb2⟩
      have HR2 := hide (HR.out.below hb2)
      have s2 := hb2.size
      have hB := hb1.trans (hb2.mono s1)
      have HO2 := hide (own_mono hown2 s1)
      clear hown2
      generalize putL (C.length : Int) 7 128 = P at *
      go_wp2_with (at_builtin; refine wpList_append_own _ rfl _ _ 35 rfl w.heap.size 5 i0 _ 1 1 Tryz.underlying35 hi hz0 hz1 hz2 rfl (by decide) _ _ _ rfl HO2.out ⟨g, 0, none⟩ C.length cap (C.map (Value.int .u8)) rfl (by simp) (row_news HR2.out) (one_bytes C) ?c3 ?c4 ?c5 ?_)
      case c3 => unfold maxLen; omega
      case c4 => omega
      case c5 => omega
      intro v' w3 hown' hgrow _
      have hb3 : Below w.heap.size w w3 := hB.grown hgrow (by omega) (fun k hk => (HO2.out.lt k hk).1)
      have H3 := hide hown'
      clear hown' hgrow
      go_wp2
      go_ret2
      refine ⟨⟨v', 0, rfl, Or.inl ⟨hle, rfl, ?_⟩⟩, hb3⟩
      rw [hT.out, List.length_append, List.map_append]
      exact H3.out
    · have hT : Hid (txtL (nums s) = putL s.size 7 0 ++ nums s) := by
        show txtL (nums s) = _
        unfold txtL; rw [if_neg (by omega), hn]
      obtain ⟨_, a, cap, rfl, _⟩ := slen_own hown
      have hd : decide ((s.size : Int) ≤ ((codeL (nums s)).length : Int)) = true := by simp; omega
      have hpl := putL_len (s.size : Int) 7 0
      generalize (codeL (nums s)).length = c at *
      obtain ⟨cap2, w2, hcv, hb2, hl2, hrow2⟩ := conv_bytes s w1 (by omega)
      have hok : putOk (s.size : Int) 7 0 := ⟨by omega, by omega, by decide, by decide, by decide, by decide, by decide⟩
      have s1 := hb1.size
      have s2 := hb2.size
      have HR2 := hide hrow2
      clear hown hrow2
      go_wp2_with fail
      refine (rput_yes (s.size : Int) 7 0 w2 hok).mono ?_
      rintro e w3 ⟨g3, cap3, rfl, hown3, hb3⟩
      have HR3 := hide (HR2.out.below hb3)
      have s3 := hb3.size
      have hB := (hb1.trans (hb2.mono s1)).trans (hb3.mono (by omega))
      have HO3 := hide (own_mono (base' := w.heap.size) hown3 (by omega))
      clear hown3
      generalize putL (s.size : Int) 7 0 = P at *
      go_wp2_with (at_builtin; refine wpList_append_own _ rfl _ _ 35 rfl w.heap.size 5 i0 _ 1 1 Tryz.underlying35 hi hz0 hz1 hz2 rfl (by decide) _ _ _ rfl HO3.out ⟨w1.heap.size, 0, none⟩ s.size cap2 ((nums s).map (Value.int .u8)) rfl (by simp [nums_len]) (row_news HR3.out) (one_bytes (nums s)) ?c3 ?c4 ?c5 ?_)
      case c3 => unfold maxLen; omega
      case c4 => omega
      case c5 => omega
      intro v' w4 hown' hgrow _
      have hb4 : Below w.heap.size w w4 := hB.grown hgrow (by omega) (fun k hk => (HO3.out.lt k hk).1)
      have H4 := hide hown'
      clear hown' hgrow
      go_wp2
      go_ret2
      refine ⟨⟨v', 0, rfl, Or.inl ⟨hle, rfl, ?_⟩⟩, hb4⟩
      rw [hT.out, List.length_append, List.map_append, hn]
      exact H4.out
end Go.Proofs.YtkjfhgoddhigmacGreatDoor
/-
  CONTRACTS of the Go function wire.Get. No claim by itself.
-/
namespace Go.Proofs.YtkjfhgoddhigmacGreatDoor
open Go.RowKit
set_option maxRecDepth 100000
/-- A number, how many bytes it takes, and an error, as a reading gives them. -/
def Told3 (t : Int × Int × Int) (n u : Int) (x : Value) : Prop :=
  (t = (n, u, 0) ∧ x = .nilIface) ∨ ∃ k, k ≠ 0 ∧ t = (n, u, k) ∧ x = .iface 53 (.int .i64 k)
theorem get_bits (v : Value) (Z : List Int) (b : Int) (w : World) (h : b < 1 ∨ 8 < b) :
    Calls Tryz.prog 63 #[v, .int .i64 b] w fun e w' => (∃ n u x, e = .returned (.tuple #[.int .i64 n, .int .i64 u, x]) ∧ Told3 (getF Z b) n u x) ∧ w = w' := by
  have E : Hid (getF Z b = (0, 0, 1)) := by show getF Z b = (0, 0, 1); unfold getF; rw [if_pos h]
  go_enter Tryz.func63, Tryz.ntmps63
  go_wp2_with (go_at_call 70; refine (mayBits_no _ _ h).mono ?_; rintro e w' ⟨rfl, rfl⟩)
  go_ret3
  exact ⟨⟨_, _, _, rfl, Or.inr ⟨1, by decide, E.out, rfl⟩⟩, rfl⟩
theorem get_nil (a : Option Addr) (cap : Nat) (b : Int) (w : World) (h1 : 1 ≤ b) (h2 : b ≤ 8) :
    Calls Tryz.prog 63 #[.slice a 0 cap, .int .i64 b] w fun e w' => (∃ n u x, e = .returned (.tuple #[.int .i64 n, .int .i64 u, x]) ∧ Told3 (getF [] b) n u x) ∧ w = w' := by
  have E : Hid (getF [] b = (0, 0, 8)) := by show getF [] b = (0, 0, 8); unfold getF; rw [if_neg (by omega)]
  go_enter Tryz.func63, Tryz.ntmps63
  go_wp2_with (go_at_call 70; refine (mayBits_yes _ _ h1 h2).mono ?_; rintro e w' ⟨rfl, rfl⟩)
  go_ret3
  exact ⟨⟨_, _, _, rfl, Or.inr ⟨8, by decide, E.out, rfl⟩⟩, rfl⟩
theorem get_one (g off len cap : Nat) (z : Int) (Z : List Int) (b : Int) (w : World) (hr : Row w g off len cap (z :: Z)) (h1 : 1 ≤ b) (h2 : b ≤ 8) (hm : z % (gr b + 1) < gr b) :
    Calls Tryz.prog 63 #[.slice (some ⟨g, off, none⟩) len cap, .int .i64 b] w fun e w' => (∃ n u x, e = .returned (.tuple #[.int .i64 n, .int .i64 u, x]) ∧ Told3 (getF (z :: Z) b) n u x) ∧ w = w' := by
  obtain ⟨z1, z2, z3, z4, z5⟩ := hr
  have hl : 1 ≤ len := by simp at z1; omega
  have hc0 : w.cell? ⟨g, off, none⟩ = some (.int .u8 z) := by simpa using z4 0 (by omega)
  have gb := gr_bd b h1 h2
  have hz : 0 ≤ z ∧ z < 256 := by simpa using z5 0
  obtain ⟨hz0, hz1⟩ := hz
  have E : Hid (getF (z :: Z) b = (z % (gr b + 1), 1, 0)) := by
    show getF (z :: Z) b = (z % (gr b + 1), 1, 0)
    unfold getF; rw [if_neg (by omega)]; simp only [if_pos hm]
  have ha : bits .and .i64 z (gr b) = z % (gr b + 1) := free_and b _ h1 h2 hz0 (by omega)
  have hl0 : ((len : Int) == 0) = false := by simp; omega
  unfold maxLen at z3
  clear z1 z4 z5
  go_enter Tryz.func63, Tryz.ntmps63
  go_wp2_with (first | (go_at_call 70; refine (mayBits_yes _ _ h1 h2).mono ?_; rintro e w' ⟨rfl, rfl⟩) | (go_at_call 72; refine (great _ _ h1 (by omega)).mono ?_; rintro e w' ⟨rfl, rfl⟩))
  go_ret3
  exact ⟨⟨_, _, _, rfl, Or.inl ⟨E.out, rfl⟩⟩, rfl⟩
theorem get_edge (g off : Nat) (z : Int) (b : Int) (w : World) (hr : Row w g off 1 1 [z]) (h1 : 1 ≤ b) (h2 : b ≤ 8) (hm : z % (gr b + 1) = gr b) :
    Calls Tryz.prog 63 #[.slice (some ⟨g, off, none⟩) 1 1, .int .i64 b] w fun e w' => (∃ n u x, e = .returned (.tuple #[.int .i64 n, .int .i64 u, x]) ∧ Told3 (getF [z] b) n u x) ∧ w = w' := by
  obtain ⟨z1, z2, z3, z4, z5⟩ := hr
  have hc0 : w.cell? ⟨g, off, none⟩ = some (.int .u8 z) := by simpa using z4 0 (by omega)
  have gb := gr_bd b h1 h2
  have hz : 0 ≤ z ∧ z < 256 := by simpa using z5 0
  obtain ⟨hz0, hz1⟩ := hz
  have E : Hid (getF [z] b = (0, 0, 8)) := by
    show getF [z] b = (0, 0, 8)
    unfold getF; rw [if_neg (by omega)]; simp only [if_neg (show ¬ z % (gr b + 1) < gr b by omega)]; rfl
  have ha : bits .and .i64 z (gr b) = gr b := by rw [free_and b _ h1 h2 hz0 (by omega)]; exact hm
  clear z1 z2 z3 z4 z5 hm
  go_enter Tryz.func63, Tryz.ntmps63
  go_wp2_with (first | (go_at_call 70; refine (mayBits_yes _ _ h1 h2).mono ?_; rintro e w' ⟨rfl, rfl⟩) | (go_at_call 72; refine (great _ _ h1 (by omega)).mono ?_; rintro e w' ⟨rfl, rfl⟩))
  refine wp_loop_rounds 1 ?_
  rw [rounds_succ]
  go_wp2
  go_ret3
  exact ⟨⟨_, _, _, rfl, Or.inr ⟨8, by decide, E.out, rfl⟩⟩, rfl⟩
set_option maxHeartbeats 2000000 in
theorem get_more (g off len cap : Nat) (z : Int) (Z : List Int) (b : Int) (w : World) (hr : Row w g off len cap (z :: Z)) (h1 : 1 ≤ b) (h2 : b ≤ 8) (hm : z % (gr b + 1) = gr b) (hcap : 2 ≤ cap) :
    Calls Tryz.prog 63 #[.slice (some ⟨g, off, none⟩) len cap, .int .i64 b] w fun e w' => (∃ n u x, e = .returned (.tuple #[.int .i64 n, .int .i64 u, x]) ∧ Told3 (getF (z :: Z) b) n u x) ∧ w = w' := by
  obtain ⟨z1, z2, z3, z4, z5⟩ := hr
  have hl : 1 ≤ len := by simp at z1; omega
  have hc0 : w.cell? ⟨g, off, none⟩ = some (.int .u8 z) := by simpa using z4 0 (by omega)
  have gb := gr_bd b h1 h2
  have hz : 0 ≤ z ∧ z < 256 := by simpa using z5 0
  obtain ⟨hz0, hz1⟩ := hz
  have E : Hid (getF (z :: Z) b = getR Z 0 (gr b)) := by
    show getF (z :: Z) b = getR Z 0 (gr b)
    unfold getF; rw [if_neg (by omega)]; simp only [if_neg (show ¬ z % (gr b + 1) < gr b by omega)]
  have ha : bits .and .i64 z (gr b) = gr b := by rw [free_and b _ h1 h2 hz0 (by omega)]; exact hm
  have H4 : Hid (∀ t, t < Z.length → w.cell? ⟨g, off + 1 + t, none⟩ = some (.int .u8 (Z.getD t 0))) := by
    intro t ht
    have := z4 (t + 1) (by simp at z1; omega)
    rw [show off + (t + 1) = off + 1 + t from by omega] at this
    simpa using this
  have H5 : Hid (∀ t, 0 ≤ Z.getD t 0 ∧ Z.getD t 0 < 256) := by
    intro t; simpa using z5 (t + 1)
  obtain ⟨len, rfl⟩ : ∃ l, len = l + 1 := ⟨len - 1, by omega⟩
  have HL : Hid (Z.length = len) := by show Z.length = len; simp at z1; exact z1
  have hl0 : (((len + 1 : Nat) : Int) == 0) = false := by simp; omega
  unfold maxLen at z3
  generalize getF (z :: Z) b = F at *
  clear hm z1 z4 z5
  go_enter Tryz.func63, Tryz.ntmps63
  go_wp2_with (first | (go_at_call 70; refine (mayBits_yes _ _ h1 h2).mono ?_; rintro e w' ⟨rfl, rfl⟩) | (go_at_call 72; refine (great _ _ h1 (by omega)).mono ?_; rintro e w' ⟨rfl, rfl⟩))
  go_loop [4, 33] (fun n i => ∃ (k : Nat) (r : Int), i = .int .i64 k ∧ n = .int .i64 r ∧ k ≤ 4 ∧ k ≤ len ∧ 0 ≤ r ∧ r ≤ 2147483647 ∧ Hid (F = getR (Z.drop k) k r)) (fun _ i => 5 - (intOf i).toNat)
  case atStart => exact ⟨0, gr b, rfl, rfl, by omega, by omega, by omega, by omega, E⟩
  case round =>
    obtain ⟨k, r, rfl, rfl, k4, kl, r0, r1, HR⟩ := hrel
    by_cases hlt : k < len
    · have hc := H4.out k (by rw [HL.out]; exact hlt)
      have hb := H5.out k
      have hq := part_bd (Z.getD k 0) k k4
      have HS := getR_at Z k r _ (by rw [HL.out]; exact hlt) rfl
      rw [← HR.out] at HS
      have hand : wrap64 (wrap64 (bits .and .u8 (Z.getD k 0) 127) * 2 ^ (7 * k)) = Z.getD k 0 % 128 * 128 ^ k := by
        have e1 : wrap64 (Z.getD k 0 % 128) = Z.getD k 0 % 128 := by unfold wrap64; omega
        rw [low_and _ hb.1 hb.2, pow7, e1]; unfold wrap64; omega
      generalize Z.getD k 0 = c at *
      generalize c % 128 * 128 ^ k = q at *
      have HSS : Hid _ := HS
      clear HS HR
      obtain ⟨c0, c1⟩ := hb
      obtain ⟨q0, q1⟩ := hq
      have hk : ((k : Int) == 4) = true ∧ 4 ≤ k ∨ ((k : Int) == 4) = false ∧ k < 4 := by
        by_cases h : k = 4
        · left; subst h; exact ⟨rfl, Nat.le_refl _⟩
        · right; refine ⟨?_, by omega⟩; rw [beq_eq_false_iff_ne]; omega
      have hz : (c == 0) = true ∧ c ≤ 0 ∨ (c == 0) = false ∧ 1 ≤ c := by
        by_cases h : c = 0
        · left; subst h; exact ⟨rfl, by decide⟩
        · right; refine ⟨?_, by omega⟩; rw [beq_eq_false_iff_ne]; omega
      rcases hk with ⟨hk1, hk2⟩ | ⟨hk1, hk2⟩ <;> rcases hz with ⟨hz1, hz2⟩ | ⟨hz1, hz2⟩
      all_goals
        go_wp2
        all_goals first
          | (have hx : 2147483647 < r + q ∨ k = 4 ∧ 128 ≤ c := by omega
             have e := HSS.out
             rw [if_pos hx] at e
             go_ret3
             exact ⟨⟨_, _, _, rfl, Or.inr ⟨10, by decide, e, rfl⟩⟩, rfl⟩)
          | (have hx : ¬ (2147483647 < r + q ∨ k = 4 ∧ 128 ≤ c) := by omega
             have hy : 0 < k ∧ c = 0 := by omega
             have e := HSS.out
             rw [if_neg hx, if_pos hy] at e
             go_ret3
             exact ⟨⟨_, _, _, rfl, Or.inr ⟨2, by decide, e, rfl⟩⟩, rfl⟩)
          | (have hx : ¬ (2147483647 < r + q ∨ k = 4 ∧ 128 ≤ c) := by omega
             have hy : ¬ (0 < k ∧ c = 0) := by omega
             have hv : c < 128 := by omega
             have e := HSS.out
             rw [if_neg hx, if_neg hy, if_pos hv] at e
             go_ret3
             exact ⟨⟨_, _, _, rfl, Or.inl ⟨e, rfl⟩⟩, rfl⟩)
          | (have hx : ¬ (2147483647 < r + q ∨ k = 4 ∧ 128 ≤ c) := by omega
             have hy : ¬ (0 < k ∧ c = 0) := by omega
             have hv : ¬ c < 128 := by omega
             have e := HSS.out
             rw [if_neg hx, if_neg hy, if_neg hv] at e
             go_round
             case rel => exact ⟨k + 1, r + q, by go_num, rfl, by omega, by omega, by omega, by omega, e⟩
             case measure => simp [intOf]; omega)
    · have HE : Hid (F = (0, 0, 8)) := by
        show F = (0, 0, 8)
        rw [HR.out]; exact getR_end Z k r (by rw [HL.out]; omega)
      go_wp2
      go_ret3
      exact ⟨⟨_, _, _, rfl, Or.inr ⟨8, by decide, HE.out, rfl⟩⟩, rfl⟩
theorem get_row (g off len cap : Nat) (Z : List Int) (b : Int) (w : World) (hr : Row w g off len cap Z) :
    Calls Tryz.prog 63 #[.slice (some ⟨g, off, none⟩) len cap, .int .i64 b] w fun e w' => (∃ n u x, e = .returned (.tuple #[.int .i64 n, .int .i64 u, x]) ∧ Told3 (getF Z b) n u x) ∧ w = w' := by
  by_cases h : b < 1 ∨ 8 < b
  · exact get_bits _ Z b w h
  · have h1 : 1 ≤ b := by omega
    have h2 : b ≤ 8 := by omega
    match Z, hr with
    | [], hr =>
      have hl := hr.hlen
      simp at hl
      subst hl
      exact get_nil _ cap b w h1 h2
    | z :: Z, hr =>
      have gb := gr_bd b h1 h2
      by_cases hm : z % (gr b + 1) < gr b
      · exact get_one g off len cap z Z b w hr h1 h2 hm
      · have hm' : z % (gr b + 1) = gr b := by
          have := Int.emod_lt_of_pos z (show 0 < gr b + 1 by omega)
          omega
        by_cases hc : 2 ≤ cap
        · exact get_more g off len cap z Z b w hr h1 h2 hm' hc
        · have hl := hr.hlen
          have hcl := hr.hcap
          simp at hl
          have e1 : cap = 1 := by omega
          have e2 : len = 1 := by omega
          have e3 : Z = [] := List.eq_nil_of_length_eq_zero (by omega)
          subst e1 e2 e3
          exact get_edge g off z b w hr h1 h2 hm'
end Go.Proofs.YtkjfhgoddhigmacGreatDoor
/-
  CONTRACTS of the Go function tollref1.Get. No claim by itself.
-/
namespace Go.Proofs.YtkjfhgoddhigmacGreatDoor
open Go.RowKit
set_option maxRecDepth 100000
theorem rget_bits (v : Value) (Z : List Int) (b : Int) (w : World) (h : b < 1 ∨ 8 < b) :
    Calls Tryz.prog 46 #[v, .int .i64 b] w fun e w' => (∃ n u k, e = .returned (.tuple #[.int .i64 n, .int .i64 u, .int .i64 k]) ∧ getF Z b = (n, u, k)) ∧ w = w' := by
  have E : Hid (getF Z b = (0, 0, 1)) := by show getF Z b = (0, 0, 1); unfold getF; rw [if_pos h]
  rcases h with h | h
  · go_enter Tryz.func46, Tryz.ntmps46
    go_wp2
    go_ret3
    exact ⟨⟨_, _, _, rfl, E.out⟩, rfl⟩
  · have h1 : 1 ≤ b := by omega
    go_enter Tryz.func46, Tryz.ntmps46
    go_wp2
    go_ret3
    exact ⟨⟨_, _, _, rfl, E.out⟩, rfl⟩
theorem rget_nil (a : Option Addr) (cap : Nat) (b : Int) (w : World) (h1 : 1 ≤ b) (h2 : b ≤ 8) :
    Calls Tryz.prog 46 #[.slice a 0 cap, .int .i64 b] w fun e w' => (∃ n u k, e = .returned (.tuple #[.int .i64 n, .int .i64 u, .int .i64 k]) ∧ getF [] b = (n, u, k)) ∧ w = w' := by
  have E : Hid (getF [] b = (0, 0, 8)) := by show getF [] b = (0, 0, 8); unfold getF; rw [if_neg (by omega)]
  go_enter Tryz.func46, Tryz.ntmps46
  go_wp2
  go_ret3
  exact ⟨⟨_, _, _, rfl, E.out⟩, rfl⟩
set_option maxHeartbeats 2000000 in
theorem rget_cons (g off len cap : Nat) (z : Int) (Z : List Int) (b : Int) (w : World) (hr : Row w g off len cap (z :: Z)) (h1 : 1 ≤ b) (h2 : b ≤ 8) :
    Calls Tryz.prog 46 #[.slice (some ⟨g, off, none⟩) len cap, .int .i64 b] w fun e w' => (∃ n u k, e = .returned (.tuple #[.int .i64 n, .int .i64 u, .int .i64 k]) ∧ getF (z :: Z) b = (n, u, k)) ∧ w = w' := by
  obtain ⟨z1, z2, z3, z4, z5⟩ := hr
  have hl : 1 ≤ len := by simp at z1; omega
  have hc0 : w.cell? ⟨g, off, none⟩ = some (.int .u8 z) := by simpa using z4 0 (by omega)
  have gb := gr_bd b h1 h2
  have hz : 0 ≤ z ∧ z < 256 := by simpa using z5 0
  obtain ⟨hz0, hz1⟩ := hz
  have E : Hid (getF (z :: Z) b = if z % (gr b + 1) < gr b then (z % (gr b + 1), 1, 0) else getR Z 0 (gr b)) := by
    show getF (z :: Z) b = if z % (gr b + 1) < gr b then (z % (gr b + 1), 1, 0) else getR Z 0 (gr b)
    unfold getF; rw [if_neg (by omega)]
  have H4 : Hid (∀ t, t < Z.length → w.cell? ⟨g, off + (t + 1), none⟩ = some (.int .u8 (Z.getD t 0))) := by
    intro t ht
    have := z4 (t + 1) (by simp at z1; omega)
    simpa using this
  have H5 : Hid (∀ t, 0 ≤ Z.getD t 0 ∧ Z.getD t 0 < 256) := by
    intro t; simpa using z5 (t + 1)
  obtain ⟨len, rfl⟩ : ∃ l, len = l + 1 := ⟨len - 1, by omega⟩
  have HL : Hid (Z.length = len) := by show Z.length = len; simp at z1; exact z1
  have hl0 : (((len + 1 : Nat) : Int) == 0) = false := by simp; omega
  have hmod : z % (gr b + 1) ≤ gr b ∧ 0 ≤ z % (gr b + 1) := by
    have e1 := Int.emod_lt_of_pos z (show 0 < gr b + 1 by omega)
    have e2 := Int.emod_nonneg z (show gr b + 1 ≠ 0 by omega)
    omega
  unfold maxLen at z3
  generalize getF (z :: Z) b = F at *
  clear z1 z4 z5
  by_cases hm : z % (gr b + 1) < gr b
  · have E2 : Hid (F = (z % (gr b + 1), 1, 0)) := by show F = _; rw [E.out, if_pos hm]
    go_enter Tryz.func46, Tryz.ntmps46
    go_wp2_with (go_at_call 36; refine (pow_any _ _ (by omega) (by omega)).mono ?_; rintro e w' ⟨rfl, rfl⟩)
    go_ret3
    exact ⟨⟨_, _, _, rfl, E2.out⟩, rfl⟩
  · have E2 : Hid (F = getR Z 0 (z % (gr b + 1))) := by
      show F = _
      have hmm : z % (gr b + 1) = gr b := by omega
      rw [hmm, E.out, if_neg hm]
    have d1 : decide (b < 1) = false := by simp; omega
    have d2 : decide (8 < b) = false := by simp; omega
    have hd : decide (z % (gr b + 1) < gr b) = false := by simpa using hm
    go_enter Tryz.func46, Tryz.ntmps46
    go_wp2_with (go_at_call 36; refine (pow_any _ _ (by omega) (by omega)).mono ?_; rintro e w' ⟨rfl, rfl⟩)
    go_loop [8, 9, 10] (fun n y i => ∃ (k : Nat) (r B : Int), i = .int .i64 ((k : Int) + 1) ∧ n = .int .i64 r ∧ y = .int .i64 B ∧ Hid (B = 128 ^ k) ∧ k ≤ 4 ∧ k ≤ len ∧ 0 ≤ r ∧ r ≤ 2147483647 ∧ Hid (F = getR (Z.drop k) k r)) (fun _ _ i => 6 - (intOf i).toNat)
    case atStart => exact ⟨0, z % (gr b + 1), 1, rfl, rfl, rfl, rfl, by omega, by omega, by omega, by omega, E2⟩
    case round =>
      obtain ⟨k, r, B, rfl, rfl, rfl, HB, k4, kl, r0, r1, HR⟩ := hrel
      by_cases hlt : k < len
      · have hc := H4.out k (by rw [HL.out]; exact hlt)
        have hb := H5.out k
        have hq := part_bd (Z.getD k 0) k k4
        have hB := pow128_bd k k4
        have HS := getR_at Z k r _ (by rw [HL.out]; exact hlt) rfl
        rw [← HR.out] at HS
        rw [← HB.out] at HS hB hq
        have hand : wrap64 (Z.getD k 0 % 128 * B) = Z.getD k 0 % 128 * B := by unfold wrap64; omega
        generalize Z.getD k 0 = c at *
        obtain ⟨q, hq3⟩ : ∃ q, q = c % 128 * B := ⟨_, rfl⟩
        have hand2 : wrap64 (c % 128 * B) = q := hand.trans hq3.symm
        rw [← hq3] at hq HS
        have HSS : Hid _ := HS
        have HB2 : Hid (B * 128 = 128 ^ (k + 1)) := by show B * 128 = 128 ^ (k + 1); rw [HB.out, Int.pow_succ]
        clear HS HR hq3 hand
        obtain ⟨c0, c1⟩ := hb
        obtain ⟨q0, q1⟩ := hq
        obtain ⟨B0, B1⟩ := hB
        have hk : (((k : Int) + 1 == 5) = true ∧ decide (1 < (k : Int) + 1) = true ∧ 4 ≤ k) ∨ (((k : Int) + 1 == 5) = false ∧ decide (1 < (k : Int) + 1) = true ∧ k < 4 ∧ 0 < k) ∨ (((k : Int) + 1 == 5) = false ∧ decide (1 < (k : Int) + 1) = false ∧ k < 1) := by
          by_cases h : k = 4
          · left; subst h; exact ⟨rfl, rfl, Nat.le_refl _⟩
          · right
            by_cases h0 : 0 < k
            · left; refine ⟨?_, by simp; omega, by omega, h0⟩; rw [beq_eq_false_iff_ne]; omega
            · right; refine ⟨?_, by simp; omega, by omega⟩; rw [beq_eq_false_iff_ne]; omega
        have hz : ((c == 0) = true ∧ c ≤ 0) ∨ ((c == 0) = false ∧ 1 ≤ c ∧ c < 128) ∨ ((c == 0) = false ∧ 128 ≤ c) := by
          by_cases h : c = 0
          · left; subst h; exact ⟨rfl, by decide⟩
          · right
            have hn : (c == 0) = false := by rw [beq_eq_false_iff_ne]; exact h
            by_cases h1 : c < 128
            · left; exact ⟨hn, by omega, h1⟩
            · right; exact ⟨hn, by omega⟩
        have ho : 2147483647 < r + q ∨ r + q ≤ 2147483647 := by omega
        rcases hk with ⟨hk1, hk2, hk3⟩ | ⟨hk1, hk2, hk3, hk4⟩ | ⟨hk1, hk2, hk3⟩ <;> rcases hz with ⟨hz1, hz2⟩ | ⟨hz1, hz2, hz3⟩ | ⟨hz1, hz2⟩ <;> rcases ho with ho | ho
        all_goals
          go_wp2
          first
          | (have hx : 2147483647 < r + q ∨ k = 4 ∧ 128 ≤ c := by omega
             have e := HSS.out
             rw [if_pos hx] at e
             go_ret3
             exact ⟨⟨_, _, _, rfl, e⟩, rfl⟩)
          | (have hx : ¬ (2147483647 < r + q ∨ k = 4 ∧ 128 ≤ c) := by omega
             have hy : 0 < k ∧ c = 0 := by omega
             have e := HSS.out
             rw [if_neg hx, if_pos hy] at e
             go_ret3
             exact ⟨⟨_, _, _, rfl, e⟩, rfl⟩)
          | (have hx : ¬ (2147483647 < r + q ∨ k = 4 ∧ 128 ≤ c) := by omega
             have hy : ¬ (0 < k ∧ c = 0) := by omega
             have hv : c < 128 := by omega
             have e := HSS.out
             rw [if_neg hx, if_neg hy, if_pos hv] at e
             rw [show (k : Int) + 2 = (k : Int) + 1 + 1 from by omega] at e
             go_ret3
             exact ⟨⟨_, _, _, rfl, e⟩, rfl⟩)
          | (have hx : ¬ (2147483647 < r + q ∨ k = 4 ∧ 128 ≤ c) := by omega
             have hy : ¬ (0 < k ∧ c = 0) := by omega
             have hv : ¬ c < 128 := by omega
             have e := HSS.out
             rw [if_neg hx, if_neg hy, if_neg hv] at e
             go_round
             case rel => exact ⟨k + 1, r + q, B * 128, by go_num, rfl, rfl, HB2, by omega, by omega, by omega, by omega, e⟩
             case measure => simp [intOf]; omega)
      · have HE : Hid (F = (0, 0, 8)) := by
          show F = (0, 0, 8)
          rw [HR.out]; exact getR_end Z k r (by rw [HL.out]; omega)
        go_wp2
        go_ret3
        exact ⟨⟨_, _, _, rfl, HE.out⟩, rfl⟩
theorem rget_row (g off len cap : Nat) (Z : List Int) (b : Int) (w : World) (hr : Row w g off len cap Z) :
    Calls Tryz.prog 46 #[.slice (some ⟨g, off, none⟩) len cap, .int .i64 b] w fun e w' => (∃ n u k, e = .returned (.tuple #[.int .i64 n, .int .i64 u, .int .i64 k]) ∧ getF Z b = (n, u, k)) ∧ w = w' := by
  by_cases h : b < 1 ∨ 8 < b
  · exact rget_bits _ Z b w h
  · have h1 : 1 ≤ b := by omega
    have h2 : b ≤ 8 := by omega
    match Z, hr with
    | [], hr =>
      have hl := hr.hlen
      simp at hl
      subst hl
      exact rget_nil _ cap b w h1 h2
    | z :: Z, hr => exact rget_cons g off len cap z Z b w hr h1 h2
end Go.Proofs.YtkjfhgoddhigmacGreatDoor
