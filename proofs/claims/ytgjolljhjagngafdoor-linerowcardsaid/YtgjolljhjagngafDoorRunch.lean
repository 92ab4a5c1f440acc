/-
  BODIES IN PIECES: the document's Unchunk. No claim by itself.
-/
import Derived.Test.YtgjolljhjagngafDoorRmt
import Derived.Test.YtgjolljhjagngafDoorRchk2
import Derived.Deep.DeepCutAuto
import Derived.Deep.CutBlock
namespace Go.Proofs.YtgjolljhjagngafDoor
open Go.RowKit
set_option maxRecDepth 100000
section
variable {m : Int} {k : Nat} {n : Int} {Z : List Int} {q : Nat}
theorem rd_end (h : Z.length ≤ q) : (rdN m k n (Z.drop q)).1 = 8 := by rw [List.drop_eq_nil_of_le h]; simp [rdN]
theorem rd_stop0 (h : q < Z.length) (hd : dig (Z.getD q 0) < 0) (hk : k = 0) : (rdN m k n (Z.drop q)).1 = 2 := by rw [drop_at h, rdN, if_pos hd, if_pos hk]
theorem rd_stop (h : q < Z.length) (hd : dig (Z.getD q 0) < 0) (hk : k ≠ 0) : rdN m k n (Z.drop q) = (0, n, Z.drop q) := by rw [drop_at h, rdN, if_pos hd, if_neg hk]
theorem rd_zero (h : q < Z.length) (hd : ¬ dig (Z.getD q 0) < 0) (hk : k = 1 ∧ n = 0) : (rdN m k n (Z.drop q)).1 = 2 := by rw [drop_at h, rdN, if_neg hd, if_pos hk]
theorem rd_over (h : q < Z.length) (hd : ¬ dig (Z.getD q 0) < 0) (hk : ¬ (k = 1 ∧ n = 0)) (ho : 8000 < m + (n * 16 + dig (Z.getD q 0))) : (rdN m k n (Z.drop q)).1 = 4 := by rw [drop_at h, rdN, if_neg hd, if_neg hk, if_pos ho]
theorem rd_on (h : q < Z.length) (hd : ¬ dig (Z.getD q 0) < 0) (hk : ¬ (k = 1 ∧ n = 0)) (ho : ¬ 8000 < m + (n * 16 + dig (Z.getD q 0))) : rdN m k n (Z.drop q) = rdN m (k + 1) (n * 16 + dig (Z.getD q 0)) (Z.drop (q + 1)) := by rw [drop_at h, rdN, if_neg hd, if_neg hk, if_neg ho]
end
/-- How far it was read. -/
structure UnS (Z acc : List Int) (p : Nat) : Prop where
  un : unF (Z.length + 1) [] Z = unF (Z.length + 1) acc (Z.drop p)
  le : p ≤ Z.length
  room : acc.length ≤ 8000
theorem UnS.start (Z : List Int) : UnS Z [] 0 := ⟨by rw [List.drop_zero], by omega, by simp⟩
theorem UnS.fault {Z acc : List Int} {p : Nat} (h : UnS Z acc p) {e : Int} (he : e ≠ 0) (hu : unF (Z.length + 1) acc (Z.drop p) = (e, [], [])) : unchF Z = (e, [], 0) := by
  unfold unchF
  rw [h.un, hu]
  simp [he]
theorem UnS.done {Z acc : List Int} {p q : Nat} (h : UnS Z acc p) (hq : q ≤ Z.length) (hu : unF (Z.length + 1) acc (Z.drop p) = (0, acc, Z.drop q)) : unchF Z = (0, acc, (q : Int)) := by
  unfold unchF
  rw [h.un, hu]
  simp
  omega
theorem UnS.next {Z acc : List Int} {p q : Nat} (h : UnS Z acc p) {n : Int} {r r2 : List Int} (hp : Pc acc (Z.drop p) n r r2 (Z.drop q)) (hn : n ≠ 0) (hq : q ≤ Z.length) (hr : (acc ++ r2.take n.toNat).length ≤ 8000) : UnS Z (acc ++ r2.take n.toNat) q := by
  refine ⟨?_, hq, hr⟩
  rw [h.un, unF_go hp hn]
  have l := (pc_len hp).1
  have l1 : (Z.drop q).length ≤ Z.length := by simp
  simp only [List.length_drop] at l
  exact unF_fuel _ _ _ _ (by simp; omega) (by simp; omega)
/-- What a digit is, by a byte's place. -/
theorem dig_A {c : Int} (h : c < 48) : dig c = -1 := by unfold dig; rw [if_neg (by omega), if_neg (by omega)]
theorem dig_B {c : Int} (h : 48 ≤ c) (h2 : c ≤ 57) : dig c = c - 48 := by unfold dig; rw [if_neg (by omega), if_pos (by omega)]
theorem dig_C {c : Int} (h : 57 < c) (h2 : c < 97) : dig c = -1 := by unfold dig; rw [if_neg (by omega), if_neg (by omega)]
theorem dig_D {c : Int} (h : 97 ≤ c) (h2 : c ≤ 102) : dig c = c - 87 := by unfold dig; rw [if_pos (by omega)]
theorem dig_E {c : Int} (h : 102 < c) : dig c = -1 := by unfold dig; rw [if_neg (by omega), if_neg (by omega)]
def UnV (Z : List Int) (w : World) (e : Ending) (w' : World) : Prop := ∃ v, e = .returned (.tuple #[v, .int .i64 (unchF Z).2.2, .int .i64 (unchF Z).1]) ∧ UOwn w' w.heap.size v (unchF Z).2.1 ∧ Below w.heap.size w w'
theorem unV_fault {Z : List Int} {w w' : World} {e : Int} (h : unchF Z = (e, [], 0)) (hb : Below w.heap.size w w') : UnV Z w (.returned (.tuple #[.slice none 0 0, .int .i64 0, .int .i64 e])) w' := by
  unfold UnV
  rw [h]
  exact ⟨_, rfl, Or.inl ⟨rfl, rfl⟩, hb⟩
theorem unV_done {Z acc : List Int} {w w' : World} {v : Value} {q : Int} (h : unchF Z = (0, acc, q)) (ho : UOwn w' w.heap.size v acc) (hb : Below w.heap.size w w') : UnV Z w (.returned (.tuple #[v, .int .i64 q, .int .i64 0])) w' := by
  unfold UnV
  rw [h]
  exact ⟨_, rfl, ho, hb⟩
set_option maxHeartbeats 4000000 in
theorem runch_any (a : Option Addr) (len cap : Nat) (Z : List Int) (w : World) (hA : Arg w a len cap Z) (hl : len ≤ 281474976710656) :
    Calls Tryd.prog 63 #[.slice a len cap] w (UnV Z w) := by
  have hlen := hA.len
  have HA := vl hA
  have HNL : Vl (UOwn w w.heap.size (.slice none 0 0) []) := Or.inl ⟨rfl, rfl⟩
  clear hA
  go_enter Tryd.func63, Tryd.ntmps63
  go_wp2_with fail
  go_loopw [5, 6] (fun x y wr => ∃ (p : Nat) (acc : List Int), y = .int .i64 p ∧ Vl (UOwn wr w.heap.size x acc) ∧ Vl (Below w.heap.size w wr) ∧ Vl (UnS Z acc p)) (fun _ y _ => len + 1 - (intOf y).toNat)
  case atStart => exact ⟨0, [], rfl, HNL.out, Below.refl _ _, UnS.start Z⟩
  case round =>
    obtain ⟨p, acc, rfl, HO, HB, HU⟩ := hrel
    clear HNL
    have hp := HU.out.le
    have har := HU.out.room
    obtain ⟨a5, c5, rfl, hc5, hm5⟩ := HO.out.slice
    unfold maxLen at hm5
    obtain ⟨wB, hwB⟩ : ∃ wB, wB = wr := ⟨_, rfl⟩
    subst hwB
    go_upto_block 2 with fail
    go_cut [7, 8] (fun nv iv wx => ∃ n q : Nat, nv = .int .i64 n ∧ iv = .int .i64 q ∧ q ≤ len ∧ p ≤ q ∧ acc.length + n ≤ 8000 ∧ Vl (rdN acc.length 0 0 (Z.drop p) = (0, (n : Int), Z.drop q)) ∧ wB = wx)
    case first =>
      as_aux_lemma =>
        go_wp2_with fail
        go_loopw [7, 8] (fun nv iv wq => ∃ n k : Nat, nv = .int .i64 n ∧ iv = .int .i64 ((p + k : Nat) : Int) ∧ p + k ≤ len ∧ acc.length + n ≤ 8000 ∧ Vl (rdN acc.length 0 0 (Z.drop p) = rdN acc.length k (n : Int) (Z.drop (p + k))) ∧ wB = wq) (fun _ iv _ => len + 1 - (intOf iv).toNat)
        case atStart => exact ⟨0, 0, rfl, rfl, by omega, by omega, rfl, rfl⟩
        case round =>
          obtain ⟨n, k, rfl, rfl, hpk, hnb, HR, rfl⟩ := hrel
          by_cases hz : p + k < len
          case neg =>
            have hz' : (len : Int) ≤ (p : Int) + (k : Int) := by omega
            have HF := vl (unV_fault (w := w) (HU.out.fault (e := 8) (by omega) (unF_f1 (by rw [HR.out]; exact rd_end (by omega)) (by omega))) HB.out)
            go_wp2
            go_ret3
            exact HF.out
          obtain ⟨g, off, rfl, hr⟩ : ∃ g off, a = some ⟨g, off, none⟩ ∧ Row wB g off len cap Z := by
            rcases (HA.out.below HB.out) with ⟨h0, _⟩ | h0
            · omega
            · exact h0
          have hc := hr.hcell (p + k) hz
          have hby := hr.hbyte (p + k)
          obtain ⟨c, hce⟩ : ∃ c, Z.getD (p + k) 0 = c := ⟨_, rfl⟩
          rw [hce] at hc hby
          have HC := vl hce
          have hz' : (p : Int) + (k : Int) < (len : Int) := by omega
          have hz2 : p + k < len := hz
          have wc : IntKind.i64.wrap c = c := by rw [IntKind.wrap_i64]; omega
          clear hce hr
          by_cases hA : c < 48
          · have hA2 : ¬ (48 ≤ c) := by omega
            have hA3 : ¬ (97 ≤ c) := by omega
            have hdg : dig c = -1 := dig_A hA
            have hd0 : dig (Z.getD (p + k) 0) < 0 := by rw [HC.out, hdg]; omega
            by_cases hk0 : k = 0
            · subst hk0
              have HF := vl (unV_fault (w := w) (HU.out.fault (e := 2) (by omega) (unF_f1 (by rw [HR.out]; exact rd_stop0 (by omega) hd0 rfl) (by omega))) HB.out)
              have hc0 : wB.cell? ⟨g, off + p, none⟩ = some (.int .u8 c) := hc
              clear hdg hd0
              go_wp2
              go_ret3
              exact HF.out
            · have HN := vl (rd_stop (m := acc.length) (k := k) (n := (n : Int)) (Z := Z) (q := p + k) (by omega) hd0 hk0)
              rw [← HR.out] at HN
              have hkk' : ((p : Int) + (k : Int) == (p : Int)) = false := by simp; omega
              clear hdg hd0
              go_wp2
              go_meet
              exact ⟨n, p + k, rfl, by go_num, by omega, by omega, hnb, HN.out, by first | rfl | trivial⟩
          by_cases hB : c ≤ 57
          · have h1 : 48 ≤ c := by omega
            have h2 : c ≤ 57 := hB
            have hA3 : ¬ (97 ≤ c) := by omega
            have hdg : dig c = c - 48 := dig_B h1 h2
            have hd0 : ¬ dig (Z.getD (p + k) 0) < 0 := by rw [HC.out, hdg]; omega
            by_cases hk1 : k = 1 ∧ n = 0
            · obtain ⟨rfl, rfl⟩ := hk1
              have HF := vl (unV_fault (w := w) (HU.out.fault (e := 2) (by omega) (unF_f1 (by rw [HR.out]; exact rd_zero (by omega) hd0 ⟨rfl, rfl⟩) (by omega))) HB.out)
              clear hdg hd0
              go_wp2
              go_ret3
              exact HF.out
            have hk2 : ¬ (k = 1 ∧ (n : Int) = 0) := by omega
            by_cases ho : 8000 < (acc.length : Int) + ((n : Int) * 16 + (c - 48))
            · have HF := vl (unV_fault (w := w) (HU.out.fault (e := 4) (by omega) (unF_f1 (by rw [HR.out]; exact rd_over (by omega) hd0 hk2 (by rw [HC.out, hdg]; exact ho)) (by omega))) HB.out)
              clear hdg hd0
              by_cases hkk : k = 1
              · subst hkk
                have hn0 : ((n : Int) == 0) = false := by simp; omega
                go_wp2
                go_ret3
                exact HF.out
              · have hkk' : ((p : Int) + (k : Int) == (p : Int) + 1) = false := by simp; omega
                go_wp2
                go_ret3
                exact HF.out
            · have HN := vl (rd_on (m := acc.length) (k := k) (n := (n : Int)) (Z := Z) (q := p + k) (by omega) hd0 hk2 (by rw [HC.out, hdg]; exact ho))
              rw [← HR.out, HC.out, hdg] at HN
              obtain ⟨d, hd⟩ : ∃ d : Nat, (d : Int) = c - 48 := ⟨(c - 48).toNat, by omega⟩
              have HD := vl hd
              have HN2 : Vl (rdN acc.length 0 0 (Z.drop p) = rdN acc.length (k + 1) ((n * 16 + d : Nat) : Int) (Z.drop (p + (k + 1)))) := by
                have h9 := HN.out
                rw [← hd] at h9
                rw [h9]
                congr 1
              clear hdg hd0 HN hd
              by_cases hkk : k = 1
              · subst hkk
                have hn0 : ((n : Int) == 0) = false := by simp; omega
                go_wp2
                go_roundw
                case rel => exact ⟨n * 16 + d, 1 + 1, by have := HD.out; go_num, by go_num, by omega, by have := HD.out; omega, HN2.out, by first | rfl | trivial⟩
                case measure => simp [intOf]; omega
              · have hkk' : ((p : Int) + (k : Int) == (p : Int) + 1) = false := by simp; omega
                go_wp2
                go_roundw
                case rel => exact ⟨n * 16 + d, k + 1, by have := HD.out; go_num, by go_num, by omega, by have := HD.out; omega, HN2.out, by first | rfl | trivial⟩
                case measure => simp [intOf]; omega
          by_cases hC : c < 97
          · have h1 : 48 ≤ c := by omega
            have h2 : ¬ (c ≤ 57) := hB
            have hA3 : ¬ (97 ≤ c) := by omega
            have hdg : dig c = -1 := dig_C (by omega) hC
            have hd0 : dig (Z.getD (p + k) 0) < 0 := by rw [HC.out, hdg]; omega
            by_cases hk0 : k = 0
            · subst hk0
              have HF := vl (unV_fault (w := w) (HU.out.fault (e := 2) (by omega) (unF_f1 (by rw [HR.out]; exact rd_stop0 (by omega) hd0 rfl) (by omega))) HB.out)
              have hc0 : wB.cell? ⟨g, off + p, none⟩ = some (.int .u8 c) := hc
              clear hdg hd0
              go_wp2
              go_ret3
              exact HF.out
            · have HN := vl (rd_stop (m := acc.length) (k := k) (n := (n : Int)) (Z := Z) (q := p + k) (by omega) hd0 hk0)
              rw [← HR.out] at HN
              have hkk' : ((p : Int) + (k : Int) == (p : Int)) = false := by simp; omega
              clear hdg hd0
              go_wp2
              go_meet
              exact ⟨n, p + k, rfl, by go_num, by omega, by omega, hnb, HN.out, by first | rfl | trivial⟩
          by_cases hD : c ≤ 102
          · have h0 : 48 ≤ c := by omega
            have h00 : ¬ (c ≤ 57) := hB
            have h1 : 97 ≤ c := by omega
            have h2 : c ≤ 102 := hD
            have hdg : dig c = c - 87 := dig_D h1 h2
            have hd0 : ¬ dig (Z.getD (p + k) 0) < 0 := by rw [HC.out, hdg]; omega
            by_cases hk1 : k = 1 ∧ n = 0
            · obtain ⟨rfl, rfl⟩ := hk1
              have HF := vl (unV_fault (w := w) (HU.out.fault (e := 2) (by omega) (unF_f1 (by rw [HR.out]; exact rd_zero (by omega) hd0 ⟨rfl, rfl⟩) (by omega))) HB.out)
              clear hdg hd0
              go_wp2
              go_ret3
              exact HF.out
            have hk2 : ¬ (k = 1 ∧ (n : Int) = 0) := by omega
            by_cases ho : 8000 < (acc.length : Int) + ((n : Int) * 16 + (c - 87))
            · have HF := vl (unV_fault (w := w) (HU.out.fault (e := 4) (by omega) (unF_f1 (by rw [HR.out]; exact rd_over (by omega) hd0 hk2 (by rw [HC.out, hdg]; exact ho)) (by omega))) HB.out)
              clear hdg hd0
              by_cases hkk : k = 1
              · subst hkk
                have hn0 : ((n : Int) == 0) = false := by simp; omega
                go_wp2
                go_ret3
                exact HF.out
              · have hkk' : ((p : Int) + (k : Int) == (p : Int) + 1) = false := by simp; omega
                go_wp2
                go_ret3
                exact HF.out
            · have HN := vl (rd_on (m := acc.length) (k := k) (n := (n : Int)) (Z := Z) (q := p + k) (by omega) hd0 hk2 (by rw [HC.out, hdg]; exact ho))
              rw [← HR.out, HC.out, hdg] at HN
              obtain ⟨d, hd⟩ : ∃ d : Nat, (d : Int) = c - 87 := ⟨(c - 87).toNat, by omega⟩
              have HD := vl hd
              have HN2 : Vl (rdN acc.length 0 0 (Z.drop p) = rdN acc.length (k + 1) ((n * 16 + d : Nat) : Int) (Z.drop (p + (k + 1)))) := by
                have h9 := HN.out
                rw [← hd] at h9
                rw [h9]
                congr 1
              clear hdg hd0 HN hd
              by_cases hkk : k = 1
              · subst hkk
                have hn0 : ((n : Int) == 0) = false := by simp; omega
                go_wp2
                go_roundw
                case rel => exact ⟨n * 16 + d, 1 + 1, by have := HD.out; go_num, by go_num, by omega, by have := HD.out; omega, HN2.out, by first | rfl | trivial⟩
                case measure => simp [intOf]; omega
              · have hkk' : ((p : Int) + (k : Int) == (p : Int) + 1) = false := by simp; omega
                go_wp2
                go_roundw
                case rel => exact ⟨n * 16 + d, k + 1, by have := HD.out; go_num, by go_num, by omega, by have := HD.out; omega, HN2.out, by first | rfl | trivial⟩
                case measure => simp [intOf]; omega
          · have h0 : 48 ≤ c := by omega
            have h00 : ¬ (c ≤ 57) := hB
            have h1 : 97 ≤ c := by omega
            have h2 : ¬ (c ≤ 102) := hD
            have hdg : dig c = -1 := dig_E (by omega)
            have hd0 : dig (Z.getD (p + k) 0) < 0 := by rw [HC.out, hdg]; omega
            by_cases hk0 : k = 0
            · subst hk0
              have HF := vl (unV_fault (w := w) (HU.out.fault (e := 2) (by omega) (unF_f1 (by rw [HR.out]; exact rd_stop0 (by omega) hd0 rfl) (by omega))) HB.out)
              have hc0 : wB.cell? ⟨g, off + p, none⟩ = some (.int .u8 c) := hc
              clear hdg hd0
              go_wp2
              go_ret3
              exact HF.out
            · have HN := vl (rd_stop (m := acc.length) (k := k) (n := (n : Int)) (Z := Z) (q := p + k) (by omega) hd0 hk0)
              rw [← HR.out] at HN
              have hkk' : ((p : Int) + (k : Int) == (p : Int)) = false := by simp; omega
              clear hdg hd0
              go_wp2
              go_meet
              exact ⟨n, p + k, rfl, by go_num, by omega, by omega, hnb, HN.out, by first | rfl | trivial⟩
    case rest =>
      obtain ⟨n, q, rfl, rfl, hq, hpq, hnb, HR, hwc⟩ := hcut
      subst hwc
      have HM1 := vl (rmatch_any a len cap Z q _ (HA.out.below HB.out) hq hl)
      unfold mtV at HM1
      match hm : mt (Z.drop q) with
      | (e1, r2) =>
      rw [hm] at HM1
      have HMT := vl hm
      clear hm
      by_cases he1 : e1 = 0
      case neg =>
        have he1' : (e1 != 0) = true := by simpa using he1
        have HF := fun (w' : World) (hb : Below w.heap.size w w') => unV_fault (w := w) (HU.out.fault he1 (unF_f2 HR.out (by rw [HMT.out]) he1)) hb
        have HFF := vl HF
        simp only [if_neg he1] at HM1
        clear HF
        go_wp2_with fail
        refine HM1.out.mono ?_
        rintro e w1 ⟨rfl, hb1⟩
        have HB1 := vl (HB.out.trans (hb1.mono HB.out.size))
        clear hb1 HM1
        go_wp2
        go_ret3
        exact HFF.out _ HB1.out
      subst he1
      simp only [if_true] at HM1
      have hmk := mt_ok HMT.out
      have hq2 : q + 2 ≤ len := by
        have := congrArg List.length hmk
        simp at this
        omega
      have hr2 : r2 = Z.drop (q + 2) := by
        have := congrArg (List.drop 2) hmk
        rw [List.drop_drop] at this
        simpa using this.symm
      subst hr2
      clear hmk
      obtain ⟨lo, hlo⟩ : ∃ lo, q + 2 = lo := ⟨_, rfl⟩
      rw [hlo] at HM1 HMT hq2
      have HLO := vl hlo
      clear hlo
      go_wp2_with fail
      refine HM1.out.mono ?_
      rintro e w1 ⟨rfl, hb1⟩
      have HB1 := vl (HB.out.trans (hb1.mono HB.out.size))
      have HO1 := vl (HO.out.below hb1)
      clear hb1 HM1
      by_cases hn : (len : Int) - (lo : Int) < (n : Int)
      · have HF := vl (unV_fault (w := w) (HU.out.fault (e := 8) (by omega) (unF_f3 HR.out HMT.out (by simp; omega))) HB1.out)
        go_wp2
        go_ret3
        exact HF.out
      obtain ⟨g, off, rfl, hr⟩ : ∃ g off, a = some ⟨g, off, none⟩ ∧ Row w1 g off len cap Z := by
        rcases (HA.out.below HB1.out) with ⟨h0, _⟩ | h0
        · have := HLO.out; omega
        · exact h0
      have hcap := hr.hcap
      have hmax := hr.hmax
      unfold maxLen at hmax
      obtain ⟨o, ho, hcut⟩ := u_cut hr lo n (by omega)
      have HCU : Vl (Arg w1 (some ⟨g, o, none⟩) n (cap - lo) ((Z.drop lo).take n)) := Or.inr ⟨g, o, rfl, hcut⟩
      have hln : lo + n ≤ len := by omega
      have hln' : (lo : Int) + (n : Int) ≤ (len : Int) := by omega
      clear hr hcut
      go_wp2_with (at_builtin; refine wpList_uapp _ rfl _ _ rfl w.heap.size _ acc rfl HO1.out (some ⟨g, o, none⟩) n (cap - lo) _ (by show Value.slice _ _ _ = _; congr 1; omega) HCU.out (fun h => by cases h) (by omega) HB1.out.size ?_)
      intro v2 w2 ho2 hg2
      have HO2 := vl ho2
      have HB2 := vl (u_below_grown HB1.out hg2 HB1.out.size (fun k hk => (HO1.out.base k hk).1))
      obtain ⟨a6, c6, rfl, hc6, hm6⟩ := HO2.out.slice
      clear ho2 hg2 HO1 HB1 HCU hc6 hm6
      have HM2 := vl (rmatch_any (some ⟨g, off, none⟩) len cap Z (lo + n) _ (HA.out.below HB2.out) hln hl)
      unfold mtV at HM2
      match hm : mt (Z.drop (lo + n)) with
      | (e3, r3) =>
      rw [hm] at HM2
      have HMT2 : Vl (mt ((Z.drop lo).drop ((n : Int)).toNat) = (e3, r3)) := by
        show mt _ = _
        rw [List.drop_drop]
        exact hm
      clear hm
      have h3n : (n : Int) ≤ ((Z.drop lo).length : Int) := by simp; omega
      by_cases he3 : e3 = 0
      case neg =>
        have he3' : (e3 != 0) = true := by simpa using he3
        have HFF := vl (fun (w' : World) (hb : Below w.heap.size w w') => unV_fault (w := w) (HU.out.fault he3 (unF_f4 HR.out HMT.out h3n (by rw [HMT2.out]) he3)) hb)
        simp only [if_neg he3] at HM2
        clear h3n
        go_wp2_with fail
        refine HM2.out.mono ?_
        rintro e w3 ⟨rfl, hb3⟩
        have HB3 := vl (HB2.out.trans (hb3.mono HB2.out.size))
        clear hb3 HM2
        go_wp2
        go_ret3
        exact HFF.out _ HB3.out
      subst he3
      simp only [if_true] at HM2
      have hmk := mt_ok HMT2.out
      have hq4 : lo + n + 2 ≤ len := by
        have := congrArg List.length hmk
        simp at this
        omega
      have hr3 : r3 = Z.drop (lo + n + 2) := by
        have := congrArg (List.drop 2) hmk
        rw [List.drop_drop, List.drop_drop] at this
        simpa [Nat.add_assoc] using this.symm
      subst hr3
      have HP : Vl (Pc acc (Z.drop p) (n : Int) (Z.drop q) (Z.drop lo) (Z.drop (lo + n + 2))) := ⟨HR.out, HMT.out, h3n, HMT2.out⟩
      clear hmk h3n
      obtain ⟨en, hen⟩ : ∃ en, lo + n + 2 = en := ⟨_, rfl⟩
      rw [hen] at HM2 HP hq4
      have HEN := vl hen
      clear hen
      go_wp2_with fail
      refine HM2.out.mono ?_
      rintro e w3 ⟨rfl, hb3⟩
      have HB3 := vl (HB2.out.trans (hb3.mono HB2.out.size))
      have HO3 := vl (HO2.out.below hb3)
      clear hb3 HM2 HO2 HB2
      by_cases hn0 : n = 0
      · subst hn0
        have HF := vl (unV_done (w := w) (HU.out.done (q := en) (by omega) (unF_end HP.out)) (by have := HO3.out; simpa using this) HB3.out)
        go_wp2
        go_ret3
        exact HF.out
      · have hn0' : ((n : Int) == 0) = false := by simp; omega
        have HUN := vl (HU.out.next HP.out (by omega) (by omega) (by simp; omega))
        go_wp2
        go_roundw
        case rel =>
          have h9 := HO3.out
          have e9 : (acc ++ (Z.drop lo).take n).length = acc.length + min n (len - lo) := by simp [hlen]
          rw [e9] at h9
          exact ⟨en, _, rfl, h9, HB3.out, HUN.out⟩
        case measure => have := HEN.out; have := HLO.out; simp [intOf]; omega
end Go.Proofs.YtgjolljhjagngafDoor
