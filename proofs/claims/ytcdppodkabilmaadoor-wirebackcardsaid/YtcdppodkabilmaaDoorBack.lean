/-
  THE WALK of the Go function tolllaw1.WireBack, its callees by their contracts: whatever n, bits and the bytes b are, it returns true; nothing that was in memory turns. No claim by itself.
-/
import Derived.Test.YtcdppodkabilmaaDoorMath3
import Derived.Test.YtcdppodkabilmaaDoorBigs
import Derived.Test.YtcdppodkabilmaaDoorPuts
import Derived.Laws.AppendOwnNone
import Derived.Deep.QuietTactic
import Derived.BigQuiet
namespace Go.Proofs.YtcdppodkabilmaaDoor
open Go.RowKit
theorem drewN_below {B : Nat} {w w' : World} (h : Below B w w') : ∀ n, Below B w (w'.drewN n)
  | 0 => h
  | n + 1 => by
    have := drewN_below h n
    exact ⟨this.os, this.tape, this.output, this.size, this.block⟩
theorem own_below {w w' : World} {base n : Nat} {v : Value} {xs : List Value} (h : w.ownsRow base 5 1 v n xs) (hb : Below w.heap.size w w') : w'.ownsRow base 5 1 v n xs := by
  obtain ⟨h1, h2 | ⟨g, cap, cur, hv, hg, hc, r⟩⟩ := h
  · exact ⟨h1, Or.inl h2⟩
  · have hlt : g < w.heap.size := by
      rcases Nat.lt_or_ge g w.heap.size with h3 | h3
      · exact h3
      · rw [Array.getElem?_eq_none h3] at hc; simp at hc
    exact ⟨h1, Or.inr ⟨g, cap, cur, hv, hg, by rw [hb.block g hlt]; exact hc, r⟩⟩
theorem row_of {w : World} {base l cap g : Nat} {L : List Int} (hl : L.length = l) (h : w.ownsRow base 5 1 (.slice (some ⟨g, 0, none⟩) l cap) l (L.map (Value.int .u8))) (hb : ∀ x ∈ L, 0 ≤ x ∧ x < 256) : Row w g 0 l cap L := by
  have hcap : l ≤ cap ∧ cap ≤ maxLen := by
    obtain ⟨_, ⟨hv, _⟩ | ⟨g', cap', cur, hv, _, _, hc, hm, _⟩⟩ := h
    · cases hv
    · cases hv; exact ⟨hc, hm⟩
  refine ⟨hl, hcap.1, hcap.2, fun t ht => ?_, fun t => ?_⟩
  · have hc := h.cellAt t (by omega)
    rw [Nat.zero_add, hc]
    simp [List.getElem?_eq_getElem (show t < L.length by omega)]
  · by_cases ht : t < L.length
    · have hmem : L.getD t 0 ∈ L := by
        rw [List.getD, List.getElem?_eq_getElem ht]
        exact List.getElem_mem _
      exact hb _ hmem
    · have e : L.getD t 0 = 0 := by simp [List.getD, List.getElem?_eq_none (show L.length ≤ t by omega)]
      rw [e]; decide
theorem putL_byte (n b f : Int) (hok : putOk n b f) : ∀ x ∈ putL n b f, 0 ≤ x ∧ x < 256 := by
  obtain ⟨n0, n1, b1, b2, f0, f1, f2⟩ := hok
  have gb := gr_bd b b1 b2
  have jb := join_bd b f b1 b2 f0 f1 f2
  intro x hx
  by_cases h : n < gr b
  · rw [putL_small n b f h] at hx
    simp at hx; omega
  · rw [putL_big n b f (by omega)] at hx
    simp at hx
    rcases hx with rfl | hx
    · omega
    · exact rest_byte 5 _ (by omega) x hx
theorem put_1337 (w : World) :
    Calls Tryd.prog 7 #[.int .i64 1337, .int .i64 5, .int .i64 0] w fun e w' => ∃ g cap, e = .returned (.tuple #[.slice (some ⟨g, 0, none⟩) 3 cap, .nilIface]) ∧ w'.cell? ⟨g, 0, none⟩ = some (.int .u8 31) ∧ w'.cell? ⟨g, 1, none⟩ = some (.int .u8 154) ∧ w'.cell? ⟨g, 2, none⟩ = some (.int .u8 10) ∧ 3 ≤ cap ∧ cap ≤ maxLen ∧ Below w.heap.size w w' := by
  refine (put_yes 1337 5 0 w ⟨by decide, by decide, by decide, by decide, by decide, by decide, by decide⟩).mono ?_
  rintro e w' ⟨g, cap, rfl, ho, hb⟩
  have e : putL 1337 5 0 = [31, 154, 10] := by decide
  rw [e] at ho
  have hr := row_of rfl ho (by decide)
  refine ⟨g, cap, by rw [e]; rfl, ?_, ?_, ?_, hr.hcap, hr.hmax, hb⟩
  · simpa using hr.hcell 0 (by decide)
  · simpa using hr.hcell 1 (by decide)
  · simpa using hr.hcell 2 (by decide)
theorem Row.append {w : World} {base l cap g : Nat} {L Z : List Int} (h : w.ownsRow base 5 1 (.slice (some ⟨g, 0, none⟩) l cap) l ((L ++ Z).map (Value.int .u8))) (hl : (L ++ Z).length = l) (hb : ∀ x ∈ L, 0 ≤ x ∧ x < 256) (hz : ∀ x ∈ Z, 0 ≤ x ∧ x < 256) : Row w g 0 l cap (L ++ Z) :=
  row_of hl h (by intro x hx; rcases List.mem_append.1 hx with h | h; exact hb x h; exact hz x h)
/-- What is known where Get reads a number of b: b begins with z, at a row; what is written of it is what was read. -/
structure Reads (Z : List Int) (b x u : Int) (z : Int) (zs : List Int) (l : Nat) : Prop where
  cons : Z = z :: zs
  bit1 : 1 ≤ b
  bit2 : b ≤ 8
  used : u = l
  more : l ≤ Z.length
  ok : putOk x b (z / (gr b + 1) * (gr b + 1))
  same : putL x b (z / (gr b + 1) * (gr b + 1)) = Z.take l
theorem reads_of {w : World} {a : Option Addr} {len cap : Nat} {Z : List Int} {b x u : Int} (hA : Arg w a len cap Z) (hf : getF Z b = (x, u, 0)) :
    ∃ g off z zs l, a = some ⟨g, off, none⟩ ∧ Row w g off len cap Z ∧ Reads Z b x u z zs l := by
  have hbits : ¬ (b < 1 ∨ 8 < b) := by
    intro h
    unfold getF at hf; rw [if_pos h] at hf; simp at hf
  match Z, hA, hf with
  | [], _, hf => unfold getF at hf; rw [if_neg hbits] at hf; simp at hf
  | z :: zs, hA, hf =>
    rcases hA with ⟨_, h⟩ | ⟨g, off, ha, hr⟩
    · cases h
    · obtain ⟨hok, l, hu, hl, hs⟩ := put_get z zs b x u hr.hbyte hf
      exact ⟨g, off, z, zs, l, ha, hr, rfl, by omega, by omega, hu, hl, hok, hs⟩
set_option maxRecDepth 100000 in
set_option maxHeartbeats 2000000 in
theorem back_no_err (n b : Int) (a : Option Addr) (len cap : Nat) (Z : List Int) (w : World) (hA : Arg w a len cap Z) (hok : ¬ putOk n b 0) (x u k : Int) (hf : getF Z b = (x, u, k)) (hk : k ≠ 0) :
    Calls Tryd.prog 5 #[.int .i64 n, .int .i64 b, .slice a len cap] w fun e w' => e = .returned (.bool true) ∧ Below w.heap.size w w' := by
  go_enter Tryd.func5, Tryd.ntmps5
  go_wp2_with fail
  refine (put_1337 _).mono ?_
  rintro e w1 ⟨g1, cp1, rfl, q0, q1, q2, q3, q4, hb1⟩
  unfold maxLen at q4
  go_wp2_with fail
  refine (put_no n b 0 _ hok).mono ?_
  rintro e w2 ⟨rfl, rfl⟩
  go_wp2_with fail
  refine (get_err a len cap Z b x u k _ (hA.below hb1) hf hk).mono ?_
  rintro e w3 ⟨rfl, rfl⟩
  go_wp2
  go_ret
  exact ⟨rfl, hb1⟩
theorem big4row (x : Int) (w : World) (h : bigOk x 4) :
    Calls Tryd.prog 12 #[.int .i64 x, .int .i64 4] w fun e w' => ∃ g, e = .returned (.tuple #[.slice (some ⟨g, 0, none⟩) 4 4, .nilIface]) ∧ Row w' g 0 4 4 (bigL 4 x) ∧ Below w.heap.size w w' := by
  refine (big_yes x 4 w h).mono ?_
  rintro e w' ⟨g, rfl, ho, hb⟩
  have el : (bigL ((4 : Int).toNat) x).length = 4 := bigL_len _ _
  rw [el] at ho
  refine ⟨g, by rw [el], row_of (bigL_len 4 x) ho (bigL_byte 4 x), hb⟩
theorem high_bd (z b : Int) (h : 0 ≤ z) (h1 : z < 256) (b1 : 1 ≤ b) (b2 : b ≤ 8) : 0 ≤ z / (gr b + 1) * (gr b + 1) ∧ z / (gr b + 1) * (gr b + 1) ≤ 255 := by
  have gb := gr_bd b b1 b2
  have hdiv : z / (gr b + 1) * (gr b + 1) + z % (gr b + 1) = z := by rw [Int.mul_comm]; exact Int.mul_ediv_add_emod z _
  have hm0 := Int.emod_nonneg z (show gr b + 1 ≠ 0 by omega)
  have hf0 : 0 ≤ z / (gr b + 1) * (gr b + 1) := Int.mul_nonneg (Int.ediv_nonneg h (by omega)) (by omega)
  omega
set_option maxRecDepth 100000 in
set_option maxHeartbeats 4000000 in
theorem back_no_ok (n b : Int) (a : Option Addr) (len cap : Nat) (Z : List Int) (w : World) (hA : Arg w a len cap Z) (hok : ¬ putOk n b 0) (x u : Int) (hf : getF Z b = (x, u, 0)) :
    Calls Tryd.prog 5 #[.int .i64 n, .int .i64 b, .slice a len cap] w fun e w' => e = .returned (.bool true) ∧ Below w.heap.size w w' := by
  obtain ⟨gz, oz, z, zs, l, rfl, hr, hR⟩ := reads_of hA hf
  obtain ⟨rfl, b1, b2, rfl, hl, hok2, hsame⟩ := hR
  have hz : 0 ≤ z ∧ z < 256 := by simpa using hr.hbyte 0
  have hfb := high_bd z b hz.1 hz.2 b1 b2
  obtain ⟨f, ef⟩ : ∃ f, f = z / (gr b + 1) * (gr b + 1) := ⟨_, rfl⟩
  have hfz : wrap64 (z / (gr b + 1) * (gr b + 1)) = f := by rw [ef]; unfold wrap64; omega
  rw [← ef] at hok2 hsame
  have HX : Hid (bigOk x 4) := ⟨by decide, by decide, hok2.1, hok2.2.1⟩
  have HOK : Hid (putOk x b f) := hok2
  have HS : Hid (putL x b f = (z :: zs).take l) := hsame
  have HF : Hid (getF (z :: zs) b = (x, (l : Int), 0)) := hf
  clear hok2 hsame hf ef hfb
  go_enter Tryd.func5, Tryd.ntmps5
  go_wp2_with fail
  refine (put_1337 _).mono ?_
  rintro e w1 ⟨g1, cp1, rfl, q0, q1, q2, q3, q4, hb1⟩
  unfold maxLen at q4
  go_wp2_with fail
  refine (put_no n b 0 _ hok).mono ?_
  rintro e w2 ⟨rfl, rfl⟩
  clear q0 q1 q2 q3 q4
  go_wp2_with fail
  refine (get_ok _ len cap _ b x l _ (hA.below hb1) HF.out).mono ?_
  rintro e w3 ⟨rfl, rfl⟩
  have hrw := hr.below hb1
  have hcz : w1.cell? ⟨gz, oz, none⟩ = some (.int .u8 z) := by
    have h := hrw.hcell 0 (by have := hr.hlen; simp at this; omega)
    simpa using h
  have hlp : 1 ≤ len := by have := hr.hlen; simp at this; omega
  go_wp2
  go_loop [22, 23] (fun p i => ∃ k : Nat, (k : Int) ≤ b ∧ i = .int .i64 k ∧ p = .int .i64 (p2 k)) (fun _ i => (b - intOf i).toNat)
  case atStart => exact ⟨0, by omega, rfl, rfl⟩
  case round =>
    obtain ⟨k, hk, rfl, rfl⟩ := hrel
    have hpb := p2_bd k (by omega)
    by_cases hlt : (k : Int) < b
    · have hs : Hid (p2 (k + 1) = p2 k * 2) := p2_succ k
      go_wp2
      go_round
      case rel => exact ⟨k + 1, by omega, by go_num, by rw [hs.out]⟩
      case measure => simp [intOf]; omega
    · have ep : p2 k = gr b + 1 := by
        have ek : b.toNat = k := by omega
        rw [← ek]; exact gr_p2 b
      rw [ep]
      have gb := gr_bd b b1 b2
      have zz := hz
      clear hpb ep
      go_wp2_with fail
      refine (put_yes x b f _ HOK.out).mono ?_
      rintro e w4 ⟨g4, c4, rfl, ho4, hb4⟩
      have hs4 := hb4.size
      have l4 := row_lt ho4 rfl
      have e4 : (putL x b f).length = l := by rw [HS.out]; simp; simp at hl; omega
      rw [e4] at ho4 ⊢
      clear e4
      go_wp2_with fail
      refine (big4row x _ HX.out).mono ?_
      rintro e w5 ⟨g5, rfl, hr5, hb5⟩
      have hs5 := hb5.size
      go_wp2_with fail
      refine (read_ok _ 4 4 (bigL 4 x) 4 x _ (Or.inr ⟨g5, 0, rfl, hr5⟩) (read_big x HX.out.2.2.1 HX.out.2.2.2)).mono ?_
      rintro e w6 ⟨rfl, rfl⟩
      have hBs := hb1.size
      have hB5 : Below w.heap.size w w5 := (hb1.trans (hb4.mono (by omega))).trans (hb5.mono (by omega))
      have cv1 := fun nq => string_of_row (by rw [HS.out]; simp; simp at hl; omega) ho4 (drewN_below (hb5.mono (show g4 + 1 ≤ w4.heap.size by omega)) nq)
      rw [HS.out] at cv1
      have hrt := ((hrw).below ((hb4.trans (hb5.mono hs4)))).take l (by have := hr.hlen; omega)
      have cv2 := fun nq => run_convert_bytes_arg (w5.drewN nq) 22 5 Tryd.underlying22 Tryd.underlying5 gz oz l cap _ hrt.hlen hrt.hcell 9 Tryd.underlying9
      generalize strOfNums (List.take l (z :: zs)) = S at *
      have hll : l ≤ len := by have := hr.hlen; omega
      have hlc := hr.hcap
      clear hrt hr5 ho4
      go_wp2_with fail
      go_quiet (fail)
      go_wp2
      go_ret
      exact ⟨by simp, drewN_below hB5 _⟩
end Go.Proofs.YtcdppodkabilmaaDoor
