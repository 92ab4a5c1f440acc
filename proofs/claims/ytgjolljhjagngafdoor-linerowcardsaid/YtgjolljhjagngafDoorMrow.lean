/-
  BODIES IN PIECES: the document's Unchunk. No claim by itself.
-/
import Derived.Deep.DeepCutAuto
import Derived.Deep.CutBlock
import Derived.Laws.Externs
import Derived.Laws.StandIn
import Derived.Handy
import Derived.BigQuiet
import Derived.Deep.QuietTactic
import Derived.BigRegion
import Derived.Lib.AppendZerosOnto
import Derived.Lib.SliceRun
import Derived.Lib.Walk
import Derived.WalkKit
import Derived.LaidEql
import Derived.Stop.Asserts
import Derived.RowKitTokens
import Derived.LoopN
import Derived.Laws.AppendOwnNone
import Derived.Deep.RegionHeld3
import Derived.Test.YtgjolljhjagngafDoorRmt
import Derived.Test.YtgjolljhjagngafDoorRchk2
import Derived.Test.YtgjolljhjagngafDoorUenc
import Derived.Test.YtgjolljhjagngafDoorNmath2
import Derived.Test.YtgjolljhjagngafDoorNdv7
import Derived.Test.YtgjolljhjagngafDoorNdv9
import Derived.Test.YtgjolljhjagngafDoorNdw1
import Derived.Test.YtgjolljhjagngafDoorNopn
import Derived.Test.YtgjolljhjagngafDoorNitoa
import Derived.Test.YtgjolljhjagngafDoorNlike
namespace Go.Proofs.YtgjolljhjagngafDoor
open Go.RowKit
set_option maxRecDepth 100000
section
variable {m : Int} {k : Nat} {n : Int} {Z : List Int} {q : Nat}
theorem rd_end (h : Z.length ≤ q) : (rdN m k n (Z.drop q)).1 = 8 := by rw [List.drop_eq_nil_of_le h]; simp [rdN]
theorem rd_stop0 (h : q < Z.length) (hd : dig (Z.getD q 0) < 0) (hk : k = 0) : (rdN m k n (Z.drop q)).1 = 2 := by rw [drop_at h, rdN, if_pos hd, if_pos hk]
theorem rd_stop (h : q < Z.length) (hd : dig (Z.getD q 0) < 0) (hk : k ≠ 0) : rdN m k n (Z.drop q) = (0, n, Z.drop q) := by rw [drop_at h, rdN, if_pos hd, if_neg hk]
theorem rd_zero (h : q < Z.length) (hd : ¬ dig (Z.getD q 0) < 0) (hk : k = 1 ∧ n = 0) : (rdN m k n (Z.drop q)).1 = 2 := by rw [drop_at h, rdN, if_neg hd, if_pos hk]
theorem rd_over (h : q < Z.length) (hd : ¬ dig (Z.getD q 0) < 0) (hk : ¬ (k = 1 ∧ n = 0)) (ho : 8000 < m + (n * 16 + dig (Z.getD q 0))) : (rdN m k n (Z.drop q)).1 = 4 := by rw [drop_at h, rdN, if_neg hd, if_neg hk, if_pos ho]
theorem rd_on (h : q < Z.length) (hd : ¬ dig (Z.getD q 0) < 0) (hk : ¬ (k = 1 ∧ n = 0)) (ho : ¬ 8000 < m + (n * 16 + dig (Z.getD q 0))) : rdN m k n (Z.drop q) = rdN m (k + 1) (n * 16 + dig (Z.getD q 0)) (Z.drop (q + 1)) := by rw [drop_at h, rdN, if_neg hd, if_neg hk, if_neg ho]
end
/-- How far it was read. -/
structure UnS (Z acc : List Int) (p : Nat) : Prop where
  un : unF (Z.length + 1) [] Z = unF (Z.length + 1) acc (Z.drop p)
  le : p ≤ Z.length
  room : acc.length ≤ 8000
theorem UnS.start (Z : List Int) : UnS Z [] 0 := ⟨by rw [List.drop_zero], by omega, by simp⟩
theorem UnS.fault {Z acc : List Int} {p : Nat} (h : UnS Z acc p) {e : Int} (he : e ≠ 0) (hu : unF (Z.length + 1) acc (Z.drop p) = (e, [], [])) : unchF Z = (e, [], 0) := by
  unfold unchF
  rw [h.un, hu]
  simp [he]
theorem UnS.done {Z acc : List Int} {p q : Nat} (h : UnS Z acc p) (hq : q ≤ Z.length) (hu : unF (Z.length + 1) acc (Z.drop p) = (0, acc, Z.drop q)) : unchF Z = (0, acc, (q : Int)) := by
  unfold unchF
  rw [h.un, hu]
  simp
  omega
theorem UnS.next {Z acc : List Int} {p q : Nat} (h : UnS Z acc p) {n : Int} {r r2 : List Int} (hp : Pc acc (Z.drop p) n r r2 (Z.drop q)) (hn : n ≠ 0) (hq : q ≤ Z.length) (hr : (acc ++ r2.take n.toNat).length ≤ 8000) : UnS Z (acc ++ r2.take n.toNat) q := by
  refine ⟨?_, hq, hr⟩
  rw [h.un, unF_go hp hn]
  have l := (pc_len hp).1
  have l1 : (Z.drop q).length ≤ Z.length := by simp
  simp only [List.length_drop] at l
  exact unF_fuel _ _ _ _ (by simp; omega) (by simp; omega)
/-- What a digit is, by a byte's place. -/
theorem dig_A {c : Int} (h : c < 48) : dig c = -1 := by unfold dig; rw [if_neg (by omega), if_neg (by omega)]
theorem dig_B {c : Int} (h : 48 ≤ c) (h2 : c ≤ 57) : dig c = c - 48 := by unfold dig; rw [if_neg (by omega), if_pos (by omega)]
theorem dig_C {c : Int} (h : 57 < c) (h2 : c < 97) : dig c = -1 := by unfold dig; rw [if_neg (by omega), if_neg (by omega)]
theorem dig_D {c : Int} (h : 97 ≤ c) (h2 : c ≤ 102) : dig c = c - 87 := by unfold dig; rw [if_pos (by omega)]
theorem dig_E {c : Int} (h : 102 < c) : dig c = -1 := by unfold dig; rw [if_neg (by omega), if_neg (by omega)]
def UnV (Z : List Int) (w : World) (e : Ending) (w' : World) : Prop := ∃ v, e = .returned (.tuple #[v, .int .i64 (unchF Z).2.2, .int .i64 (unchF Z).1]) ∧ UOwn w' w.heap.size v (unchF Z).2.1 ∧ Below w.heap.size w w'
theorem unV_fault {Z : List Int} {w w' : World} {e : Int} (h : unchF Z = (e, [], 0)) (hb : Below w.heap.size w w') : UnV Z w (.returned (.tuple #[.slice none 0 0, .int .i64 0, .int .i64 e])) w' := by
  unfold UnV
  rw [h]
  exact ⟨_, rfl, Or.inl ⟨rfl, rfl⟩, hb⟩
theorem unV_done {Z acc : List Int} {w w' : World} {v : Value} {q : Int} (h : unchF Z = (0, acc, q)) (ho : UOwn w' w.heap.size v acc) (hb : Below w.heap.size w w') : UnV Z w (.returned (.tuple #[v, .int .i64 q, .int .i64 0])) w' := by
  unfold UnV
  rw [h]
  exact ⟨_, rfl, ho, hb⟩
set_option maxHeartbeats 4000000 in
theorem runch_any (a : Option Addr) (len cap : Nat) (Z : List Int) (w : World) (hA : Arg w a len cap Z) (hl : len ≤ 281474976710656) :
    Calls Tryd.prog 63 #[.slice a len cap] w (UnV Z w) := by
  have hlen := hA.len
  have HA := vl hA
  have HNL : Vl (UOwn w w.heap.size (.slice none 0 0) []) := Or.inl ⟨rfl, rfl⟩
  clear hA
  go_enter Tryd.func63, Tryd.ntmps63
  go_wp2_with fail
  go_loopw [5, 6] (fun x y wr => ∃ (p : Nat) (acc : List Int), y = .int .i64 p ∧ Vl (UOwn wr w.heap.size x acc) ∧ Vl (Below w.heap.size w wr) ∧ Vl (UnS Z acc p)) (fun _ y _ => len + 1 - (intOf y).toNat)
  case atStart => exact ⟨0, [], rfl, HNL.out, Below.refl _ _, UnS.start Z⟩
  case round =>
    obtain ⟨p, acc, rfl, HO, HB, HU⟩ := hrel
    clear HNL
    have hp := HU.out.le
    have har := HU.out.room
    obtain ⟨a5, c5, rfl, hc5, hm5⟩ := HO.out.slice
    unfold maxLen at hm5
    obtain ⟨wB, hwB⟩ : ∃ wB, wB = wr := ⟨_, rfl⟩
    subst hwB
    go_upto_block 2 with fail
    go_cut [7, 8] (fun nv iv wx => ∃ n q : Nat, nv = .int .i64 n ∧ iv = .int .i64 q ∧ q ≤ len ∧ p ≤ q ∧ acc.length + n ≤ 8000 ∧ Vl (rdN acc.length 0 0 (Z.drop p) = (0, (n : Int), Z.drop q)) ∧ wB = wx)
    case first =>
      as_aux_lemma =>
        go_wp2_with fail
        go_loopw [7, 8] (fun nv iv wq => ∃ n k : Nat, nv = .int .i64 n ∧ iv = .int .i64 ((p + k : Nat) : Int) ∧ p + k ≤ len ∧ acc.length + n ≤ 8000 ∧ Vl (rdN acc.length 0 0 (Z.drop p) = rdN acc.length k (n : Int) (Z.drop (p + k))) ∧ wB = wq) (fun _ iv _ => len + 1 - (intOf iv).toNat)
        case atStart => exact ⟨0, 0, rfl, rfl, by omega, by omega, rfl, rfl⟩
        case round =>
          obtain ⟨n, k, rfl, rfl, hpk, hnb, HR, rfl⟩ := hrel
          by_cases hz : p + k < len
          case neg =>
            have hz' : (len : Int) ≤ (p : Int) + (k : Int) := by omega
            have HF := vl (unV_fault (w := w) (HU.out.fault (e := 8) (by omega) (unF_f1 (by rw [HR.out]; exact rd_end (by omega)) (by omega))) HB.out)
            go_wp2
            go_ret3
            exact HF.out
          obtain ⟨g, off, rfl, hr⟩ : ∃ g off, a = some ⟨g, off, none⟩ ∧ Row wB g off len cap Z := by
            rcases (HA.out.below HB.out) with ⟨h0, _⟩ | h0
            · omega
            · exact h0
          have hc := hr.hcell (p + k) hz
          have hby := hr.hbyte (p + k)
          obtain ⟨c, hce⟩ : ∃ c, Z.getD (p + k) 0 = c := ⟨_, rfl⟩
          rw [hce] at hc hby
          have HC := vl hce
          have hz' : (p : Int) + (k : Int) < (len : Int) := by omega
          have hz2 : p + k < len := hz
          have wc : IntKind.i64.wrap c = c := by rw [IntKind.wrap_i64]; omega
          clear hce hr
          by_cases hA : c < 48
          · have hA2 : ¬ (48 ≤ c) := by omega
            have hA3 : ¬ (97 ≤ c) := by omega
            have hdg : dig c = -1 := dig_A hA
            have hd0 : dig (Z.getD (p + k) 0) < 0 := by rw [HC.out, hdg]; omega
            by_cases hk0 : k = 0
            · subst hk0
              have HF := vl (unV_fault (w := w) (HU.out.fault (e := 2) (by omega) (unF_f1 (by rw [HR.out]; exact rd_stop0 (by omega) hd0 rfl) (by omega))) HB.out)
              have hc0 : wB.cell? ⟨g, off + p, none⟩ = some (.int .u8 c) := hc
              clear hdg hd0
              go_wp2
              go_ret3
              exact HF.out
            · have HN := vl (rd_stop (m := acc.length) (k := k) (n := (n : Int)) (Z := Z) (q := p + k) (by omega) hd0 hk0)
              rw [← HR.out] at HN
              have hkk' : ((p : Int) + (k : Int) == (p : Int)) = false := by simp; omega
              clear hdg hd0
              go_wp2
              go_meet
              exact ⟨n, p + k, rfl, by go_num, by omega, by omega, hnb, HN.out, by first | rfl | trivial⟩
          by_cases hB : c ≤ 57
          · have h1 : 48 ≤ c := by omega
            have h2 : c ≤ 57 := hB
            have hA3 : ¬ (97 ≤ c) := by omega
            have hdg : dig c = c - 48 := dig_B h1 h2
            have hd0 : ¬ dig (Z.getD (p + k) 0) < 0 := by rw [HC.out, hdg]; omega
            by_cases hk1 : k = 1 ∧ n = 0
            · obtain ⟨rfl, rfl⟩ := hk1
              have HF := vl (unV_fault (w := w) (HU.out.fault (e := 2) (by omega) (unF_f1 (by rw [HR.out]; exact rd_zero (by omega) hd0 ⟨rfl, rfl⟩) (by omega))) HB.out)
              clear hdg hd0
              go_wp2
              go_ret3
              exact HF.out
            have hk2 : ¬ (k = 1 ∧ (n : Int) = 0) := by omega
            by_cases ho : 8000 < (acc.length : Int) + ((n : Int) * 16 + (c - 48))
            · have HF := vl (unV_fault (w := w) (HU.out.fault (e := 4) (by omega) (unF_f1 (by rw [HR.out]; exact rd_over (by omega) hd0 hk2 (by rw [HC.out, hdg]; exact ho)) (by omega))) HB.out)
              clear hdg hd0
              by_cases hkk : k = 1
              · subst hkk
                have hn0 : ((n : Int) == 0) = false := by simp; omega
                go_wp2
                go_ret3
                exact HF.out
              · have hkk' : ((p : Int) + (k : Int) == (p : Int) + 1) = false := by simp; omega
                go_wp2
                go_ret3
                exact HF.out
            · have HN := vl (rd_on (m := acc.length) (k := k) (n := (n : Int)) (Z := Z) (q := p + k) (by omega) hd0 hk2 (by rw [HC.out, hdg]; exact ho))
              rw [← HR.out, HC.out, hdg] at HN
              obtain ⟨d, hd⟩ : ∃ d : Nat, (d : Int) = c - 48 := ⟨(c - 48).toNat, by omega⟩
              have HD := vl hd
              have HN2 : Vl (rdN acc.length 0 0 (Z.drop p) = rdN acc.length (k + 1) ((n * 16 + d : Nat) : Int) (Z.drop (p + (k + 1)))) := by
                have h9 := HN.out
                rw [← hd] at h9
                rw [h9]
                congr 1
              clear hdg hd0 HN hd
              by_cases hkk : k = 1
              · subst hkk
                have hn0 : ((n : Int) == 0) = false := by simp; omega
                go_wp2
                go_roundw
                case rel => exact ⟨n * 16 + d, 1 + 1, by have := HD.out; go_num, by go_num, by omega, by have := HD.out; omega, HN2.out, by first | rfl | trivial⟩
                case measure => simp [intOf]; omega
              · have hkk' : ((p : Int) + (k : Int) == (p : Int) + 1) = false := by simp; omega
                go_wp2
                go_roundw
                case rel => exact ⟨n * 16 + d, k + 1, by have := HD.out; go_num, by go_num, by omega, by have := HD.out; omega, HN2.out, by first | rfl | trivial⟩
                case measure => simp [intOf]; omega
          by_cases hC : c < 97
          · have h1 : 48 ≤ c := by omega
            have h2 : ¬ (c ≤ 57) := hB
            have hA3 : ¬ (97 ≤ c) := by omega
            have hdg : dig c = -1 := dig_C (by omega) hC
            have hd0 : dig (Z.getD (p + k) 0) < 0 := by rw [HC.out, hdg]; omega
            by_cases hk0 : k = 0
            · subst hk0
              have HF := vl (unV_fault (w := w) (HU.out.fault (e := 2) (by omega) (unF_f1 (by rw [HR.out]; exact rd_stop0 (by omega) hd0 rfl) (by omega))) HB.out)
              have hc0 : wB.cell? ⟨g, off + p, none⟩ = some (.int .u8 c) := hc
              clear hdg hd0
              go_wp2
              go_ret3
              exact HF.out
            · have HN := vl (rd_stop (m := acc.length) (k := k) (n := (n : Int)) (Z := Z) (q := p + k) (by omega) hd0 hk0)
              rw [← HR.out] at HN
              have hkk' : ((p : Int) + (k : Int) == (p : Int)) = false := by simp; omega
              clear hdg hd0
              go_wp2
              go_meet
              exact ⟨n, p + k, rfl, by go_num, by omega, by omega, hnb, HN.out, by first | rfl | trivial⟩
          by_cases hD : c ≤ 102
          · have h0 : 48 ≤ c := by omega
            have h00 : ¬ (c ≤ 57) := hB
            have h1 : 97 ≤ c := by omega
            have h2 : c ≤ 102 := hD
            have hdg : dig c = c - 87 := dig_D h1 h2
            have hd0 : ¬ dig (Z.getD (p + k) 0) < 0 := by rw [HC.out, hdg]; omega
            by_cases hk1 : k = 1 ∧ n = 0
            · obtain ⟨rfl, rfl⟩ := hk1
              have HF := vl (unV_fault (w := w) (HU.out.fault (e := 2) (by omega) (unF_f1 (by rw [HR.out]; exact rd_zero (by omega) hd0 ⟨rfl, rfl⟩) (by omega))) HB.out)
              clear hdg hd0
              go_wp2
              go_ret3
              exact HF.out
            have hk2 : ¬ (k = 1 ∧ (n : Int) = 0) := by omega
            by_cases ho : 8000 < (acc.length : Int) + ((n : Int) * 16 + (c - 87))
            · have HF := vl (unV_fault (w := w) (HU.out.fault (e := 4) (by omega) (unF_f1 (by rw [HR.out]; exact rd_over (by omega) hd0 hk2 (by rw [HC.out, hdg]; exact ho)) (by omega))) HB.out)
              clear hdg hd0
              by_cases hkk : k = 1
              · subst hkk
                have hn0 : ((n : Int) == 0) = false := by simp; omega
                go_wp2
                go_ret3
                exact HF.out
              · have hkk' : ((p : Int) + (k : Int) == (p : Int) + 1) = false := by simp; omega
                go_wp2
                go_ret3
                exact HF.out
            · have HN := vl (rd_on (m := acc.length) (k := k) (n := (n : Int)) (Z := Z) (q := p + k) (by omega) hd0 hk2 (by rw [HC.out, hdg]; exact ho))
              rw [← HR.out, HC.out, hdg] at HN
              obtain ⟨d, hd⟩ : ∃ d : Nat, (d : Int) = c - 87 := ⟨(c - 87).toNat, by omega⟩
              have HD := vl hd
              have HN2 : Vl (rdN acc.length 0 0 (Z.drop p) = rdN acc.length (k + 1) ((n * 16 + d : Nat) : Int) (Z.drop (p + (k + 1)))) := by
                have h9 := HN.out
                rw [← hd] at h9
                rw [h9]
                congr 1
              clear hdg hd0 HN hd
              by_cases hkk : k = 1
              · subst hkk
                have hn0 : ((n : Int) == 0) = false := by simp; omega
                go_wp2
                go_roundw
                case rel => exact ⟨n * 16 + d, 1 + 1, by have := HD.out; go_num, by go_num, by omega, by have := HD.out; omega, HN2.out, by first | rfl | trivial⟩
                case measure => simp [intOf]; omega
              · have hkk' : ((p : Int) + (k : Int) == (p : Int) + 1) = false := by simp; omega
                go_wp2
                go_roundw
                case rel => exact ⟨n * 16 + d, k + 1, by have := HD.out; go_num, by go_num, by omega, by have := HD.out; omega, HN2.out, by first | rfl | trivial⟩
                case measure => simp [intOf]; omega
          · have h0 : 48 ≤ c := by omega
            have h00 : ¬ (c ≤ 57) := hB
            have h1 : 97 ≤ c := by omega
            have h2 : ¬ (c ≤ 102) := hD
            have hdg : dig c = -1 := dig_E (by omega)
            have hd0 : dig (Z.getD (p + k) 0) < 0 := by rw [HC.out, hdg]; omega
            by_cases hk0 : k = 0
            · subst hk0
              have HF := vl (unV_fault (w := w) (HU.out.fault (e := 2) (by omega) (unF_f1 (by rw [HR.out]; exact rd_stop0 (by omega) hd0 rfl) (by omega))) HB.out)
              have hc0 : wB.cell? ⟨g, off + p, none⟩ = some (.int .u8 c) := hc
              clear hdg hd0
              go_wp2
              go_ret3
              exact HF.out
            · have HN := vl (rd_stop (m := acc.length) (k := k) (n := (n : Int)) (Z := Z) (q := p + k) (by omega) hd0 hk0)
              rw [← HR.out] at HN
              have hkk' : ((p : Int) + (k : Int) == (p : Int)) = false := by simp; omega
              clear hdg hd0
              go_wp2
              go_meet
              exact ⟨n, p + k, rfl, by go_num, by omega, by omega, hnb, HN.out, by first | rfl | trivial⟩
    case rest =>
      obtain ⟨n, q, rfl, rfl, hq, hpq, hnb, HR, hwc⟩ := hcut
      subst hwc
      have HM1 := vl (rmatch_any a len cap Z q _ (HA.out.below HB.out) hq hl)
      unfold mtV at HM1
      match hm : mt (Z.drop q) with
      | (e1, r2) =>
      rw [hm] at HM1
      have HMT := vl hm
      clear hm
      by_cases he1 : e1 = 0
      case neg =>
        have he1' : (e1 != 0) = true := by simpa using he1
        have HF := fun (w' : World) (hb : Below w.heap.size w w') => unV_fault (w := w) (HU.out.fault he1 (unF_f2 HR.out (by rw [HMT.out]) he1)) hb
        have HFF := vl HF
        simp only [if_neg he1] at HM1
        clear HF
        go_wp2_with fail
        refine HM1.out.mono ?_
        rintro e w1 ⟨rfl, hb1⟩
        have HB1 := vl (HB.out.trans (hb1.mono HB.out.size))
        clear hb1 HM1
        go_wp2
        go_ret3
        exact HFF.out _ HB1.out
      subst he1
      simp only [if_true] at HM1
      have hmk := mt_ok HMT.out
      have hq2 : q + 2 ≤ len := by
        have := congrArg List.length hmk
        simp at this
        omega
      have hr2 : r2 = Z.drop (q + 2) := by
        have := congrArg (List.drop 2) hmk
        rw [List.drop_drop] at this
        simpa using this.symm
      subst hr2
      clear hmk
      obtain ⟨lo, hlo⟩ : ∃ lo, q + 2 = lo := ⟨_, rfl⟩
      rw [hlo] at HM1 HMT hq2
      have HLO := vl hlo
      clear hlo
      go_wp2_with fail
      refine HM1.out.mono ?_
      rintro e w1 ⟨rfl, hb1⟩
      have HB1 := vl (HB.out.trans (hb1.mono HB.out.size))
      have HO1 := vl (HO.out.below hb1)
      clear hb1 HM1
      by_cases hn : (len : Int) - (lo : Int) < (n : Int)
      · have HF := vl (unV_fault (w := w) (HU.out.fault (e := 8) (by omega) (unF_f3 HR.out HMT.out (by simp; omega))) HB1.out)
        go_wp2
        go_ret3
        exact HF.out
      obtain ⟨g, off, rfl, hr⟩ : ∃ g off, a = some ⟨g, off, none⟩ ∧ Row w1 g off len cap Z := by
        rcases (HA.out.below HB1.out) with ⟨h0, _⟩ | h0
        · have := HLO.out; omega
        · exact h0
      have hcap := hr.hcap
      have hmax := hr.hmax
      unfold maxLen at hmax
      obtain ⟨o, ho, hcut⟩ := u_cut hr lo n (by omega)
      have HCU : Vl (Arg w1 (some ⟨g, o, none⟩) n (cap - lo) ((Z.drop lo).take n)) := Or.inr ⟨g, o, rfl, hcut⟩
      have hln : lo + n ≤ len := by omega
      have hln' : (lo : Int) + (n : Int) ≤ (len : Int) := by omega
      clear hr hcut
      go_wp2_with (at_builtin; refine wpList_uapp _ rfl _ _ rfl w.heap.size _ acc rfl HO1.out (some ⟨g, o, none⟩) n (cap - lo) _ (by show Value.slice _ _ _ = _; congr 1; omega) HCU.out (fun h => by cases h) (by omega) HB1.out.size ?_)
      intro v2 w2 ho2 hg2
      have HO2 := vl ho2
      have HB2 := vl (u_below_grown HB1.out hg2 HB1.out.size (fun k hk => (HO1.out.base k hk).1))
      obtain ⟨a6, c6, rfl, hc6, hm6⟩ := HO2.out.slice
      clear ho2 hg2 HO1 HB1 HCU hc6 hm6
      have HM2 := vl (rmatch_any (some ⟨g, off, none⟩) len cap Z (lo + n) _ (HA.out.below HB2.out) hln hl)
      unfold mtV at HM2
      match hm : mt (Z.drop (lo + n)) with
      | (e3, r3) =>
      rw [hm] at HM2
      have HMT2 : Vl (mt ((Z.drop lo).drop ((n : Int)).toNat) = (e3, r3)) := by
        show mt _ = _
        rw [List.drop_drop]
        exact hm
      clear hm
      have h3n : (n : Int) ≤ ((Z.drop lo).length : Int) := by simp; omega
      by_cases he3 : e3 = 0
      case neg =>
        have he3' : (e3 != 0) = true := by simpa using he3
        have HFF := vl (fun (w' : World) (hb : Below w.heap.size w w') => unV_fault (w := w) (HU.out.fault he3 (unF_f4 HR.out HMT.out h3n (by rw [HMT2.out]) he3)) hb)
        simp only [if_neg he3] at HM2
        clear h3n
        go_wp2_with fail
        refine HM2.out.mono ?_
        rintro e w3 ⟨rfl, hb3⟩
        have HB3 := vl (HB2.out.trans (hb3.mono HB2.out.size))
        clear hb3 HM2
        go_wp2
        go_ret3
        exact HFF.out _ HB3.out
      subst he3
      simp only [if_true] at HM2
      have hmk := mt_ok HMT2.out
      have hq4 : lo + n + 2 ≤ len := by
        have := congrArg List.length hmk
        simp at this
        omega
      have hr3 : r3 = Z.drop (lo + n + 2) := by
        have := congrArg (List.drop 2) hmk
        rw [List.drop_drop, List.drop_drop] at this
        simpa [Nat.add_assoc] using this.symm
      subst hr3
      have HP : Vl (Pc acc (Z.drop p) (n : Int) (Z.drop q) (Z.drop lo) (Z.drop (lo + n + 2))) := ⟨HR.out, HMT.out, h3n, HMT2.out⟩
      clear hmk h3n
      obtain ⟨en, hen⟩ : ∃ en, lo + n + 2 = en := ⟨_, rfl⟩
      rw [hen] at HM2 HP hq4
      have HEN := vl hen
      clear hen
      go_wp2_with fail
      refine HM2.out.mono ?_
      rintro e w3 ⟨rfl, hb3⟩
      have HB3 := vl (HB2.out.trans (hb3.mono HB2.out.size))
      have HO3 := vl (HO2.out.below hb3)
      clear hb3 HM2 HO2 HB2
      by_cases hn0 : n = 0
      · subst hn0
        have HF := vl (unV_done (w := w) (HU.out.done (q := en) (by omega) (unF_end HP.out)) (by have := HO3.out; simpa using this) HB3.out)
        go_wp2
        go_ret3
        exact HF.out
      · have hn0' : ((n : Int) == 0) = false := by simp; omega
        have HUN := vl (HU.out.next HP.out (by omega) (by omega) (by simp; omega))
        go_wp2
        go_roundw
        case rel =>
          have h9 := HO3.out
          have e9 : (acc ++ (Z.drop lo).take n).length = acc.length + min n (len - lo) := by simp [hlen]
          rw [e9] at h9
          exact ⟨en, _, rfl, h9, HB3.out, HUN.out⟩
        case measure => have := HEN.out; have := HLO.out; simp [intOf]; omega
end Go.Proofs.YtgjolljhjagngafDoor
/-
  CONTRACTS of the Go functions chunk.checkLineEnd and chunk.readSize. No claim by itself.
-/
namespace Go.Proofs.YtgjolljhjagngafDoor
open Go.RowKit
set_option maxRecDepth 100000
set_option maxHeartbeats 4000000 in
theorem ucle_any (a : Option Addr) (len cap : Nat) (Z : List Int) (w : World) (hA : Arg w a len cap Z) (hl : len ≤ 281474976710656) :
    Calls Tryd.prog 103 #[.slice a len cap] w fun e w' => e = .returned (errW (mt Z).1) ∧ Below w.heap.size w w' := by
  have hlen := hA.len
  have HA := vl hA
  have HD : Vl (Z.drop 0 = Z) := rfl
  clear hA
  go_enter Tryd.func103, Tryd.ntmps103
  go_wp2_with fail
  go_loopw [4] (fun i wr => ∃ k : Nat, i = .int .i64 k ∧ k ≤ 2 ∧ Vl (MtAt Z 0 k) ∧ Vl (Below w.heap.size w wr)) (fun i _ => 2 - (intOf i).toNat)
  case atStart => exact ⟨0, rfl, by omega, ⟨by omega, fun h => by omega, fun h => by omega⟩, Below.refl _ _⟩
  case round =>
    obtain ⟨k, rfl, hk, HK, HB⟩ := hrel
    by_cases hk2 : k = 2
    · subst hk2
      have HV : Vl (errW (mt Z).1 = .nilIface) := by
        have := mt_right HK.out
        rw [HD.out] at this
        show errW _ = _
        rw [this]
        rfl
      go_wp2
      go_ret
      exact ⟨by rw [HV.out]; rfl, HB.out⟩
    have hk1 : (k : Int) < 2 := by omega
    by_cases hz : k < len
    case neg =>
      have hz' : (len : Int) ≤ (k : Int) := by omega
      have HV : Vl (errW (mt Z).1 = .iface 58 (.int .i64 8)) := by
        have := mt_short HK.out (by omega) (by omega)
        rw [HD.out] at this
        show errW _ = _
        rw [this]
        rfl
      go_wp2
      go_ret
      exact ⟨by rw [HV.out]; rfl, HB.out⟩
    obtain ⟨g, off, rfl, hr⟩ : ∃ g off, a = some ⟨g, off, none⟩ ∧ Row wr g off len cap Z := by
      rcases (HA.out.below HB.out) with ⟨h0, _⟩ | h0
      · omega
      · exact h0
    have hc := hr.hcell k hz
    obtain ⟨y, hy⟩ : ∃ y, Z.getD k 0 = y := ⟨_, rfl⟩
    rw [hy] at hc
    have HY := vl hy
    have hz' : ¬ ((len : Int) ≤ (k : Int)) := by omega
    have hz2 : (k : Int) < (len : Int) := by omega
    clear hy hr
    obtain rfl | rfl : k = 0 ∨ k = 1 := by omega
    · have hc0 : wr.cell? ⟨g, off, none⟩ = some (.int .u8 y) := hc
      have hz1 : 0 < len := by omega
      have hz3 : ¬ (len = 0) := by omega
      clear hc hk1 hk2
      by_cases hy : y = 13
      · subst hy
        have HM : Vl (MtAt Z 0 1) := ⟨by omega, fun _ => HY.out, fun h => by omega⟩
        go_wp2_with fail
        go_quiet (fail)
        go_wp2
        exact ⟨⟨1, rfl, by omega, HM.out, dN_below HB.out _⟩, by simp [intOf]⟩
      · have hyb : (y != ((({ data := #[13, 10] } : ByteArray)[0]'(by decide)).toNat : Int)) = true := by
          show (y != 13) = true
          simpa using hy
        have HV : Vl (errW (mt Z).1 = .iface 58 (.int .i64 2)) := by
          have := mt_wrong HK.out (by omega) (by omega) (by rw [Nat.zero_add, HY.out]; exact hy)
          rw [HD.out] at this
          show errW _ = _
          rw [this]
          rfl
        go_wp2_with fail
        go_quiet (fail)
        go_wp2
        go_ret
        exact ⟨by rw [HV.out]; rfl, dN_below HB.out _⟩
    · have hc0 : wr.cell? ⟨g, off + 1, none⟩ = some (.int .u8 y) := hc
      have hz1 : 1 < len := by omega
      clear hc hk1 hk2
      by_cases hy : y = 10
      · subst hy
        have HM : Vl (MtAt Z 0 2) := ⟨by omega, fun _ => HK.out.2.1 (by omega), fun _ => HY.out⟩
        go_wp2_with fail
        go_quiet (fail)
        go_wp2
        exact ⟨⟨2, rfl, by omega, HM.out, dN_below HB.out _⟩, by simp [intOf]⟩
      · have hyb : (y != ((({ data := #[13, 10] } : ByteArray)[1]'(by decide)).toNat : Int)) = true := by
          show (y != 10) = true
          simpa using hy
        have HV : Vl (errW (mt Z).1 = .iface 58 (.int .i64 2)) := by
          have := mt_wrong HK.out (by omega) (by omega) (by rw [Nat.zero_add, HY.out]; exact hy)
          rw [HD.out] at this
          show errW _ = _
          rw [this]
          rfl
        go_wp2_with fail
        go_quiet (fail)
        go_wp2
        go_ret
        exact ⟨by rw [HV.out]; rfl, dN_below HB.out _⟩
theorem dig_fin : ∀ c : Fin 256, firstIdx digitsS ((c.val : Int)).toNat.toUInt8 = dig (c.val : Int) := by decide +kernel
theorem first_dig (c : Int) (h0 : 0 ≤ c) (h1 : c < 256) : firstIdx digitsS c.toNat.toUInt8 = dig c := by
  have h := dig_fin ⟨c.toNat, by omega⟩
  have e : ((c.toNat : Nat) : Int) = c := by omega
  simp only [e] at h
  exact h
theorem isl_dig (c : Int) (h0 : 0 ≤ c) (h1 : c < 256) (w : World) :
    Calls Tryd.prog 123 #[.string digitsS, .int .u8 c] w fun e w' => e = .returned (.int .i64 (dig c)) ∧ w = w' := by
  go_enter Tryd.func123, Tryd.ntmps123
  have hx := @run_callFunc_indexByte Tryd.prog 129 _ Tryd.func129 (by kernel_rfl) (by kernel_rfl) (by kernel_rfl) (by kernel_rfl)
  have hr : ∀ W : World, (Extern.BytealgIndexByte.indexByte #[.string digitsS, .int .u8 c]).run Tryd.prog W = .ok (.int .i64 (dig c)) W := fun W => by rw [run_indexByte_string, first_dig c h0 h1]
  go_wp2_with fail
  go_ret
  exact ⟨rfl, rfl⟩
theorem idx_dig (c : Int) (h0 : 0 ≤ c) (h1 : c < 256) (w : World) :
    Calls Tryd.prog 115 #[.string digitsS, .int .u8 c] w fun e w' => e = .returned (.int .i64 (dig c)) ∧ w = w' := by
  go_enter Tryd.func115, Tryd.ntmps115
  go_wp2_with fail
  refine (isl_dig c h0 h1 _).mono ?_
  rintro _ _ ⟨rfl, rfl⟩
  go_wp2
  go_ret
  exact ⟨rfl, rfl⟩
theorem dig_bd (c : Int) : -1 ≤ dig c ∧ dig c ≤ 15 := by
  unfold dig
  split
  · omega
  · split <;> omega
/-- What is read of a size: the number, how many bytes, the error. -/
def rsV (m : Int) (Z : List Int) : Value := .tuple #[.int .i64 (if (rdN m 0 0 Z).1 = 0 then (rdN m 0 0 Z).2.1 else 0), .int .i64 (if (rdN m 0 0 Z).1 = 0 then (Z.length : Int) - ((rdN m 0 0 Z).2.2.length : Int) else 0), errW (rdN m 0 0 Z).1]
theorem rsV_bad {m : Int} {Z : List Int} {x : Int} (h : (rdN m 0 0 Z).1 = x) (hx : x ≠ 0) : rsV m Z = .tuple #[.int .i64 0, .int .i64 0, .iface 58 (.int .i64 x)] := by
  unfold rsV errW
  rw [h, if_neg hx, if_neg hx, if_neg hx]
set_option maxHeartbeats 4000000 in
theorem urds_any (a : Option Addr) (len cap : Nat) (Z : List Int) (M : Nat) (w : World) (hA : Arg w a len cap Z) (hl : len ≤ 281474976710656) (hM : M ≤ 8000) :
    Calls Tryd.prog 102 #[.slice a len cap, .int .i64 ((8000 - M : Nat) : Int)] w fun e w' => e = .returned (rsV M Z) ∧ Below w.heap.size w w' := by
  have hlen := hA.len
  have HA := vl hA
  obtain ⟨R, hR⟩ : ∃ R, R = 8000 - M := ⟨_, rfl⟩
  rw [← hR]
  have HR := vl hR
  have hRb : R ≤ 8000 := by omega
  clear hA hR
  go_enter Tryd.func102, Tryd.ntmps102
  go_wp2_with fail
  go_loopw [4, 13] (fun x y wr => ∃ n k : Nat, x = .int .i64 n ∧ y = .int .i64 k ∧ k ≤ len ∧ n ≤ 8000 ∧ (k = 0 → n = 0) ∧ (2 ≤ k → 1 ≤ n) ∧ Vl (rdN M 0 0 Z = rdN M k n (Z.drop k)) ∧ Vl (Below w.heap.size w wr)) (fun _ y _ => len - (intOf y).toNat)
  case atStart => exact ⟨0, 0, rfl, rfl, by omega, by omega, fun _ => rfl, fun h => by omega, rfl, Below.refl _ _⟩
  case round =>
    obtain ⟨n, k, rfl, rfl, hk, hn, hk0, hk2, HX, HB⟩ := hrel
    by_cases hz : k < len
    case neg =>
      have hz' : ¬ ((k : Int) < (len : Int)) := by omega
      have HV : Vl (rsV M Z = .tuple #[.int .i64 0, .int .i64 0, .iface 58 (.int .i64 8)]) := rsV_bad (by rw [HX.out]; exact rd_end (by omega)) (by decide)
      go_wp2
      go_ret3
      exact ⟨by rw [HV.out]; rfl, HB.out⟩
    obtain ⟨g, off, rfl, hr⟩ : ∃ g off, a = some ⟨g, off, none⟩ ∧ Row wr g off len cap Z := by
      rcases (HA.out.below HB.out) with ⟨h0, _⟩ | h0
      · omega
      · exact h0
    have hc := hr.hcell k hz
    have hby := hr.hbyte k
    have hzl : k < Z.length := by omega
    have L0 := vl (fun h => rd_stop0 (m := M) (k := k) (n := n) (Z := Z) (q := k) hzl h)
    have L1 := vl (fun h => rd_stop (m := M) (k := k) (n := n) (Z := Z) (q := k) hzl h)
    have L2 := vl (fun h => rd_zero (m := M) (k := k) (n := n) (Z := Z) (q := k) hzl h)
    have L3 := vl (fun h => rd_over (m := M) (k := k) (n := n) (Z := Z) (q := k) hzl h)
    have L4 := vl (fun h => rd_on (m := M) (k := k) (n := n) (Z := Z) (q := k) hzl h)
    obtain ⟨y, hy⟩ : ∃ y, Z.getD k 0 = y := ⟨_, rfl⟩
    simp only [hy] at hc hby L0 L1 L2 L3 L4
    have hz' : (k : Int) < (len : Int) := by omega
    have HI := vl (idx_dig y hby.1 hby.2 wr)
    have hdb := dig_bd y
    obtain ⟨d, hd⟩ : ∃ d, dig y = d := ⟨_, rfl⟩
    rw [hd] at HI hdb
    simp only [hd] at L0 L1 L2 L3 L4
    clear hy hr hd hzl
    unfold digitsS at HI
    by_cases hd0 : d < 0
    · by_cases hk00 : k = 0
      · subst hk00
        have HV : Vl (rsV M Z = .tuple #[.int .i64 0, .int .i64 0, .iface 58 (.int .i64 2)]) := rsV_bad (by rw [HX.out]; exact L0.out hd0 rfl) (by decide)
        have hc0 : wr.cell? ⟨g, off, none⟩ = some (.int .u8 y) := hc
        clear L0 L1 L2 L3 L4 hc
        go_wp2_with fail
        refine HI.out.mono ?_
        rintro e w2 ⟨rfl, rfl⟩
        go_wp2
        go_ret3
        exact ⟨by rw [HV.out]; rfl, HB.out⟩
      · have HV : Vl (rsV M Z = .tuple #[.int .i64 n, .int .i64 k, .nilIface]) := by
          have h := HX.out.trans (L1.out hd0 hk00)
          show rsV M Z = _
          unfold rsV errW
          rw [h]
          simp
          omega
        have hkp : (0 : Int) < (k : Int) := by omega
        clear L0 L1 L2 L3 L4
        go_wp2_with fail
        refine HI.out.mono ?_
        rintro e w2 ⟨rfl, rfl⟩
        go_wp2
        go_ret3
        exact ⟨by rw [HV.out]; rfl, HB.out⟩
    have hd1 : 0 ≤ d := by omega
    obtain ⟨D, rfl⟩ : ∃ D : Nat, d = D := ⟨d.toNat, by omega⟩
    by_cases hnl : k = 1 ∧ n = 0
    · have HV : Vl (rsV M Z = .tuple #[.int .i64 0, .int .i64 0, .iface 58 (.int .i64 2)]) := rsV_bad (by rw [HX.out]; exact L2.out hd0 ⟨hnl.1, by omega⟩) (by decide)
      obtain ⟨rfl, rfl⟩ := hnl
      clear L0 L1 L2 L3 L4
      go_wp2_with fail
      refine HI.out.mono ?_
      rintro e w2 ⟨rfl, rfl⟩
      go_wp2
      go_ret3
      exact ⟨by rw [HV.out]; rfl, HB.out⟩
    have hor : k = 0 ∨ (0 < k ∧ n ≠ 0) := by omega
    have hnl' : ¬ (k = 1 ∧ (n : Int) = 0) := by omega
    by_cases hov : R < n * 16 + D
    · have HV : Vl (rsV M Z = .tuple #[.int .i64 0, .int .i64 0, .iface 58 (.int .i64 4)]) := rsV_bad (by rw [HX.out]; exact L3.out hd0 hnl' (by have := HR.out; omega)) (by decide)
      have hov' : (R : Int) < (n : Int) * 16 + (D : Int) := by omega
      clear L0 L1 L2 L3 L4 hnl hnl' hk2
      rcases hor with rfl | ⟨hkp, hn0⟩
      · have hc0 : wr.cell? ⟨g, off, none⟩ = some (.int .u8 y) := hc
        obtain rfl := hk0 rfl
        have hov0 : (R : Int) < (D : Int) := by omega
        clear hc hk0 hov' hov
        go_wp2_with fail
        refine HI.out.mono ?_
        rintro e w2 ⟨rfl, rfl⟩
        go_wp2
        go_ret3
        exact ⟨by rw [HV.out]; rfl, HB.out⟩
      · have hkp' : (0 : Int) < (k : Int) := by omega
        have hn0' : ¬ ((n : Int) = 0) := by omega
        go_wp2_with fail
        refine HI.out.mono ?_
        rintro e w2 ⟨rfl, rfl⟩
        go_wp2
        go_ret3
        exact ⟨by rw [HV.out]; rfl, HB.out⟩
    · have HX2 : Vl (rdN M 0 0 Z = rdN M (k + 1) ((n * 16 + D : Nat) : Int) (Z.drop (k + 1))) := by
        show _ = _
        rw [HX.out, L4.out hd0 hnl' (by have := HR.out; omega)]
        simp
      have hov' : ¬ ((R : Int) < (n : Int) * 16 + (D : Int)) := by omega
      clear L0 L1 L2 L3 L4 hnl hnl' hk2
      rcases hor with rfl | ⟨hkp, hn0⟩
      · have hc0 : wr.cell? ⟨g, off, none⟩ = some (.int .u8 y) := hc
        obtain rfl := hk0 rfl
        have HX3 : Vl (rdN M 0 0 Z = rdN M 1 ((D : Nat) : Int) (Z.drop 1)) := by
          have h := HX2.out
          rw [show (0 * 16 + D : Nat) = D by omega] at h
          exact h
        have hov0 : ¬ ((R : Int) < (D : Int)) := by omega
        have hov1 : D ≤ R := by omega
        clear hc hk0 hov' hov
        go_wp2_with fail
        refine HI.out.mono ?_
        rintro e w2 ⟨rfl, rfl⟩
        go_wp2
        exact ⟨⟨D, 1, rfl, rfl, by omega, by omega, fun h => by omega, fun h => by omega, HX3.out, HB.out⟩, by simp [intOf]; omega⟩
      · have hkp' : (0 : Int) < (k : Int) := by omega
        have hn0' : ¬ ((n : Int) = 0) := by omega
        go_wp2_with fail
        refine HI.out.mono ?_
        rintro e w2 ⟨rfl, rfl⟩
        go_wp2
        go_roundw
        case rel => exact ⟨n * 16 + D, k + 1, by go_num, by go_num, by omega, by omega, fun h => by omega, (fun _ => by have : 1 ≤ n := by omega
                                                                                                                        omega), HX2.out, HB.out⟩
        case measure => simp [intOf]; omega
end Go.Proofs.YtgjolljhjagngafDoor
/-
  CONTRACT of the Go function chunk.readPiece. No claim by itself.
-/
namespace Go.Proofs.YtgjolljhjagngafDoor
open Go.RowKit
set_option maxRecDepth 100000
/-- A piece at the beginning of bytes: where its size ends, how many bytes it has. -/
structure PAt (M : Nat) (Z : List Int) (q n : Nat) : Prop where
  h1 : rdN M 0 0 Z = (0, (n : Int), Z.drop q)
  h2 : mt (Z.drop q) = (0, Z.drop (q + 2))
  h3 : q + 2 + n ≤ Z.length
  h4 : mt (Z.drop (q + 2 + n)) = (0, Z.drop (q + 2 + n + 2))
  h5 : q + 2 + n + 2 ≤ Z.length
  h6 : M + n ≤ 8000
theorem PAt.pc {bd Z : List Int} {M q n : Nat} (h : PAt M Z q n) (hM : bd.length = M) : Pc bd Z n (Z.drop q) (Z.drop (q + 2)) (Z.drop (q + 2 + n + 2)) := by
  have h3 := h.h3
  exact ⟨by rw [hM]; exact h.h1, h.h2, by rw [List.length_drop]; omega, by rw [Int.toNat_natCast, List.drop_drop]; exact h.h4⟩
/-- What is told of a piece. -/
def RpTold (M : Nat) (Z : List Int) (a : Option Addr) (cap : Nat) (r : Value) : Prop :=
  (∃ x, x ≠ 0 ∧ (∀ (bd : List Int) (g : Nat), bd.length = M → unF (g + 1) bd Z = (x, [], [])) ∧ r = .tuple #[.agg #[.slice none 0 0, .int .i64 0], .iface 58 (.int .i64 x)]) ∨
  (∃ q n g off, PAt M Z q n ∧ a = some ⟨g, off, none⟩ ∧ r = .tuple #[.agg #[.slice (some ⟨g, off + (q + 2), none⟩) n (cap - (q + 2)), .int .i64 ((q + 2 + n + 2 : Nat) : Int)], .nilIface])
theorem rd_room (m : Int) : ∀ (b : List Int) (k : Nat) (n : Int) {v : Int} {r : List Int}, rdN m k n b = (0, v, r) → m + n ≤ 8000 → m + v ≤ 8000 ∧ ∃ q, q ≤ b.length ∧ r = b.drop q ∧ (k = 0 → 1 ≤ q) := by
  intro b
  induction b with
  | nil => intro k n v r h; simp [rdN] at h
  | cons c t ih =>
    intro k n v r h hm
    unfold rdN at h
    split at h
    · split at h
      · simp at h
      · rename_i hk
        simp at h
        obtain ⟨rfl, rfl⟩ := h
        exact ⟨hm, 0, by omega, rfl, fun e => absurd e hk⟩
    · split at h
      · simp at h
      · split at h
        · simp at h
        · obtain ⟨i1, q, i2, i3, _⟩ := ih _ _ h (by omega)
          exact ⟨i1, q + 1, by simp; omega, by rw [i3]; rfl, fun _ => by omega⟩
theorem pb_cell {w : World} {B : Nat} {x y : Value} (h : w.heap[B]? = some (.cells #[x, y] 67 (0, 0))) : w.cell? ⟨B, 0, none⟩ = some x ∧ w.cell? ⟨B, 1, none⟩ = some y ∧ w.frozen? ⟨B, 0, none⟩ = false ∧ w.frozen? ⟨B, 1, none⟩ = false := by simp [World.cell?, World.frozen?, h]
theorem pb_set0 {w : World} {B : Nat} {x y : Value} (h : w.heap[B]? = some (.cells #[x, y] 67 (0, 0))) (a : Value) : (w.setCell ⟨B, 0, none⟩ a).heap[B]? = some (.cells #[a, y] 67 (0, 0)) := by
  simp [World.setCell, Array.getElem?_modify, h]
theorem pb_set1 {w : World} {B : Nat} {x y : Value} (h : w.heap[B]? = some (.cells #[x, y] 67 (0, 0))) (a : Value) : (w.setCell ⟨B, 1, none⟩ a).heap[B]? = some (.cells #[x, a] 67 (0, 0)) := by
  simp [World.setCell, Array.getElem?_modify, h]
theorem zero_piece (w : World) : (zeroValue 67).run Tryd.prog w = .ok (.agg #[.slice none 0 0, .int .i64 0]) w := by kernel_rfl
set_option maxHeartbeats 4000000 in
theorem urdp_any (a : Option Addr) (len cap : Nat) (Z : List Int) (M : Nat) (w : World) (hA : Arg w a len cap Z) (hl : len ≤ 281474976710656) (hM : M ≤ 8000) :
    Calls Tryd.prog 74 #[.slice a len cap, .int .i64 ((8000 - M : Nat) : Int)] w fun e w' => ∃ r, e = .returned r ∧ RpTold M Z a cap r ∧ Below w.heap.size w w' := by
  have hlen := hA.len
  have HA := vl hA
  obtain ⟨W1, hW1⟩ : ∃ W1, W1 = w.alloc (.cells #[.slice none 0 0, .int .i64 0] 67) := ⟨_, rfl⟩
  have hb1 : Below w.heap.size w W1 := by rw [hW1]; exact (Below.refl _ _).alloc (Nat.le_refl _) _
  have hh1 : W1.heap[w.heap.size]? = some (.cells #[.slice none 0 0, .int .i64 0] 67 (0, 0)) := by rw [hW1]; exact heap_alloc_new w _
  have hs1 : w.heap.size < W1.heap.size := by rw [hW1]; simp
  have H1 := vl (urds_any a len cap Z M W1 (hA.below hb1) hl hM)
  have HB1 := vl hb1
  have HH1 := vl hh1
  clear hA hb1 hh1
  obtain ⟨R, hR⟩ : ∃ R, R = 8000 - M := ⟨_, rfl⟩
  rw [← hR] at H1 ⊢
  clear hR
  obtain ⟨G, hG⟩ : ∃ G, G = w.heap.size := ⟨_, rfl⟩
  rw [← hG] at HH1 hs1
  have hGw : w.heap.size ≤ G := Nat.le_of_eq hG.symm
  go_enter Tryd.func74, Tryd.ntmps74
  go_wp2_with fail
  rw [← hW1, ← hG]
  clear hW1 hG
  refine H1.out.mono ?_
  rintro e w2 ⟨rfl, hb2⟩
  have HH2 : Vl (w2.heap[G]? = some (.cells #[.slice none 0 0, .int .i64 0] 67 (0, 0))) := (hb2.block _ hs1).trans HH1.out
  have HB2 : Vl (Below w.heap.size w w2) := HB1.out.trans (hb2.mono HB1.out.size)
  clear H1 hb2 HH1 HB1 hs1
  obtain ⟨c0, c1, f0, f1⟩ := pb_cell HH2.out
  by_cases e1 : (rdN M 0 0 Z).1 = 0
  case neg =>
    obtain ⟨x, hx⟩ : ∃ x, (rdN M 0 0 Z).1 = x := ⟨_, rfl⟩
    rw [hx] at e1
    rw [rsV_bad hx e1]
    have HT : Vl (RpTold M Z a cap (.tuple #[.agg #[.slice none 0 0, .int .i64 0], .iface 58 (.int .i64 x)])) := Or.inl ⟨x, e1, fun bd g hbd => unF_f1 (by rw [hbd]; exact hx) e1, rfl⟩
    clear hx
    have d0 := (pb_cell (pb_set1 (pb_set0 HH2.out (.slice none 0 0)) (.int .i64 0))).1
    have d1 := (pb_cell (pb_set1 (pb_set0 HH2.out (.slice none 0 0)) (.int .i64 0))).2.1
    go_wp2
    refine bodyPost_ret (v := .tuple #[.agg #[.slice none 0 0, .int .i64 0], .iface 58 (.int .i64 x)]) (by simp [results, Tryd.results74, go_sem, d0, d1]; try rfl) rfl ?_
    exact ⟨_, rfl, HT.out, (HB2.out.setCell (p := ⟨G, 0, none⟩) hGw _).setCell (p := ⟨G, 1, none⟩) hGw _⟩
  obtain ⟨x0, v, r, hx⟩ : ∃ x0 v r, rdN M 0 0 Z = (x0, v, r) := ⟨_, _, _, rfl⟩
  obtain rfl : x0 = 0 := by rw [hx] at e1; exact e1
  obtain ⟨hv1, q, hq, rfl, hq1⟩ := rd_room _ _ _ _ hx (by omega)
  have hq1 := hq1 rfl
  obtain ⟨n, rfl⟩ : ∃ n : Nat, v = n := ⟨v.toNat, by have := (rdN_len _ _ _ _ hx).2 (by omega); omega⟩
  have hrv : rsV M Z = .tuple #[.int .i64 n, .int .i64 q, .nilIface] := by
    unfold rsV errW
    rw [hx]
    simp
    omega
  rw [hrv]
  have HX := vl hx
  clear hrv hx e1
  obtain ⟨g, off, rfl, hr2⟩ : ∃ g off, a = some ⟨g, off, none⟩ ∧ Row w2 g off len cap Z := by
    rcases HA.out.below HB2.out with ⟨h0, _⟩ | h0
    · omega
    · exact h0
  have hcp := hr2.hcap
  have hmx := hr2.hmax
  unfold maxLen at hmx
  obtain ⟨o1, ho1, hr21⟩ := u_cut hr2 q (len - q) (by omega)
  rw [List.take_of_length_le (by rw [List.length_drop]; omega)] at hr21
  have HC1 := vl (ucle_any _ _ _ _ w2 (Or.inr ⟨g, o1, rfl, hr21⟩) (by omega))
  have HR2 := vl hr2
  have hq' : (q : Int) ≤ (len : Int) := by omega
  clear hr2 hr21
  go_wp2_with fail
  refine HC1.out.mono ?_
  rintro e w3 ⟨rfl, hb3⟩
  have HH3 : Vl (w3.heap[G]? = some (.cells #[.slice none 0 0, .int .i64 0] 67 (0, 0))) := (hb3.block _ (Array.getElem?_eq_some_iff.1 HH2.out).1).trans HH2.out
  have HB3 : Vl (Below w.heap.size w w3) := HB2.out.trans (hb3.mono HB2.out.size)
  have HR3 := vl (HR2.out.below hb3)
  clear HC1 hb3 HH2 HB2 HR2 c0 c1 f0 f1 ho1
  obtain ⟨c0, c1, f0, f1⟩ := pb_cell HH3.out
  obtain ⟨x2, r2, hx2⟩ : ∃ x2 r2, mt (Z.drop q) = (x2, r2) := ⟨_, _, rfl⟩
  have e2 : (mt (Z.drop q)).1 = x2 := by rw [hx2]
  by_cases h2 : x2 = 0
  case neg =>
    rw [e2, show errW x2 = .iface 58 (.int .i64 x2) by unfold errW; rw [if_neg h2]]
    have HT : Vl (RpTold M Z (some ⟨g, off, none⟩) cap (.tuple #[.agg #[.slice none 0 0, .int .i64 0], .iface 58 (.int .i64 x2)])) := Or.inl ⟨x2, h2, fun bd g hbd => unF_f2 (by rw [hbd]; exact HX.out) e2 h2, rfl⟩
    clear hx2 e2
    have d0 := (pb_cell (pb_set1 (pb_set0 HH3.out (.slice none 0 0)) (.int .i64 0))).1
    have d1 := (pb_cell (pb_set1 (pb_set0 HH3.out (.slice none 0 0)) (.int .i64 0))).2.1
    go_wp2
    refine bodyPost_ret (v := .tuple #[.agg #[.slice none 0 0, .int .i64 0], .iface 58 (.int .i64 x2)]) (by simp [results, Tryd.results74, go_sem, d0, d1]; try rfl) rfl ?_
    exact ⟨_, rfl, HT.out, (HB3.out.setCell (p := ⟨G, 0, none⟩) hGw _).setCell (p := ⟨G, 1, none⟩) hGw _⟩
  subst h2
  rw [e2]
  have hz := mt_ok hx2
  have hzl : q + 2 ≤ len := by
    have := congrArg List.length hz
    rw [List.length_drop] at this
    simp at this
    omega
  have hr2 : r2 = Z.drop (q + 2) := by
    have := congrArg (List.drop 2) hz
    rw [List.drop_drop] at this
    exact this.symm
  subst hr2
  have HX2 := vl hx2
  have hee : errW 0 = .nilIface := rfl
  rw [hee]
  clear hx2 e2 hz hee
  by_cases h3 : q + 2 + n ≤ len
  case neg =>
    have HT : Vl (RpTold M Z (some ⟨g, off, none⟩) cap (.tuple #[.agg #[.slice none 0 0, .int .i64 0], .iface 58 (.int .i64 8)])) := Or.inl ⟨8, by decide, fun bd g hbd => unF_f3 (by rw [hbd]; exact HX.out) HX2.out (by rw [List.length_drop]; omega), rfl⟩
    have h3' : (len : Int) < (q : Int) + 2 + (n : Int) := by omega
    have d0 := (pb_cell (pb_set1 (pb_set0 HH3.out (.slice none 0 0)) (.int .i64 0))).1
    have d1 := (pb_cell (pb_set1 (pb_set0 HH3.out (.slice none 0 0)) (.int .i64 0))).2.1
    go_wp2
    refine bodyPost_ret (v := .tuple #[.agg #[.slice none 0 0, .int .i64 0], .iface 58 (.int .i64 8)]) (by simp [results, Tryd.results74, go_sem, d0, d1]; try rfl) rfl ?_
    exact ⟨_, rfl, HT.out, (HB3.out.setCell (p := ⟨G, 0, none⟩) hGw _).setCell (p := ⟨G, 1, none⟩) hGw _⟩
  obtain ⟨p, hp⟩ : ∃ p, p = q + 2 := ⟨_, rfl⟩
  have hpi : (q : Int) + 2 = (p : Int) := by omega
  obtain ⟨t, ht⟩ : ∃ t, t = p + n := ⟨_, rfl⟩
  have hti : (p : Int) + (n : Int) = (t : Int) := by omega
  have HP0 := vl hp
  rw [← hp] at h3 hzl
  clear hp
  obtain ⟨o4, ho4, hr4⟩ := u_cut HR3.out t (len - t) (by omega)
  rw [List.take_of_length_le (by rw [List.length_drop]; omega)] at hr4
  have HC4 := vl (ucle_any _ _ _ _ w3 (Or.inr ⟨g, o4, rfl, hr4⟩) (by omega))
  have HT0 := vl ht
  have htl : (t : Int) ≤ (len : Int) := by omega
  have htl' : ¬ ((len : Int) < (t : Int)) := by omega
  clear hr4 ht
  go_wp2_with fail
  refine HC4.out.mono ?_
  rintro e w4 ⟨rfl, hb4⟩
  have HH4 : Vl (w4.heap[G]? = some (.cells #[.slice none 0 0, .int .i64 0] 67 (0, 0))) := (hb4.block _ (Array.getElem?_eq_some_iff.1 HH3.out).1).trans HH3.out
  have HB4 : Vl (Below w.heap.size w w4) := HB3.out.trans (hb4.mono HB3.out.size)
  have HR4 := vl (HR3.out.below hb4)
  clear HC4 hb4 HH3 HB3 HR3 c0 c1 f0 f1 ho4
  obtain ⟨c0, c1, f0, f1⟩ := pb_cell HH4.out
  obtain ⟨x4, r4, hx4⟩ : ∃ x4 r4, mt (Z.drop t) = (x4, r4) := ⟨_, _, rfl⟩
  have e4 : (mt (Z.drop t)).1 = x4 := by rw [hx4]
  by_cases h4 : x4 = 0
  case neg =>
    rw [e4, show errW x4 = .iface 58 (.int .i64 x4) by unfold errW; rw [if_neg h4]]
    have HT : Vl (RpTold M Z (some ⟨g, off, none⟩) cap (.tuple #[.agg #[.slice none 0 0, .int .i64 0], .iface 58 (.int .i64 x4)])) := Or.inl ⟨x4, h4, fun bd g hbd => unF_f4 (by rw [hbd]; exact HX.out) HX2.out (by rw [List.length_drop, ← HP0.out]; omega) (by rw [Int.toNat_natCast, List.drop_drop, ← HP0.out, ← HT0.out]; exact e4) h4, rfl⟩
    clear hx4 e4
    have d0 := (pb_cell (pb_set1 (pb_set0 HH4.out (.slice none 0 0)) (.int .i64 0))).1
    have d1 := (pb_cell (pb_set1 (pb_set0 HH4.out (.slice none 0 0)) (.int .i64 0))).2.1
    go_wp2
    refine bodyPost_ret (v := .tuple #[.agg #[.slice none 0 0, .int .i64 0], .iface 58 (.int .i64 x4)]) (by simp [results, Tryd.results74, go_sem, d0, d1]; try rfl) rfl ?_
    exact ⟨_, rfl, HT.out, (HB4.out.setCell (p := ⟨G, 0, none⟩) hGw _).setCell (p := ⟨G, 1, none⟩) hGw _⟩
  subst h4
  rw [e4]
  have hz4 := mt_ok hx4
  have hzl4 : t + 2 ≤ len := by
    have := congrArg List.length hz4
    rw [List.length_drop] at this
    simp at this
    omega
  have hr4 : r4 = Z.drop (t + 2) := by
    have := congrArg (List.drop 2) hz4
    rw [List.drop_drop] at this
    exact this.symm
  subst hr4
  have HPA : Vl (PAt M Z q n) := by
    refine ⟨HX.out, HX2.out, ?_, ?_, ?_, by have := hv1; omega⟩
    · rw [← HP0.out]; omega
    · rw [← HP0.out, ← HT0.out]; exact hx4
    · rw [← HP0.out, ← HT0.out]; omega
  have hee : errW 0 = .nilIface := rfl
  rw [hee]
  obtain ⟨o5, ho5, hr5⟩ := u_cut HR4.out p n (by omega)
  rw [if_neg (show ¬ (cap = p) by omega)] at ho5
  obtain rfl : o5 = off + p := by simp at ho5; exact ho5.symm
  clear ho5
  have HR5 := vl hr5
  have htp : t - p = n := by omega
  have htp2 : (p : Int) ≤ (t : Int) := by omega
  have htc : (t : Int) ≤ (cap : Int) := by omega
  clear hx4 e4 hz4 hee hr5
  have d0 := (pb_cell (pb_set1 (pb_set0 HH4.out (.slice (some ⟨g, off + p, none⟩) n (cap - p))) (.int .i64 ((t : Int) + 2)))).1
  have d1 := (pb_cell (pb_set1 (pb_set0 HH4.out (.slice (some ⟨g, off + p, none⟩) n (cap - p))) (.int .i64 ((t : Int) + 2)))).2.1
  go_wp2
  refine bodyPost_ret (v := .tuple #[.agg #[.slice (some ⟨g, off + p, none⟩) n (cap - p), .int .i64 ((t : Int) + 2)], .nilIface]) (by simp [results, Tryd.results74, go_sem, d0, d1]; try rfl) rfl ?_
  refine ⟨_, rfl, Or.inr ⟨q, n, g, off, HPA.out, rfl, ?_⟩, (HB4.out.setCell (p := ⟨G, 0, none⟩) hGw _).setCell (p := ⟨G, 1, none⟩) hGw _⟩
  rw [← HP0.out, ← HT0.out]
  simp
end Go.Proofs.YtgjolljhjagngafDoor
/-
  CONTRACTS of the Go function chunk.pieces, and of what it hands back. No claim by itself.
-/
namespace Go.Proofs.YtgjolljhjagngafDoor
open Go Go.RowKit Go.Shelf
set_option maxRecDepth 100000
attribute [local go_sem] Oper.semAt_some
/-- A piece that is handed over: where it lies, how many bytes it takes, its error, its bytes. -/
structure PE where
  sl : Value
  used : Nat
  er : Value
  P : List Int
structure PV (w : World) (x : PE) : Prop where
  small : x.P.length ≤ 8000
  used : x.used ≤ 281474976710656
  kind : (x.er = .nilIface ∧ ∃ o c, x.sl = .slice (some o) x.P.length c ∧ Arg w (some o) x.P.length c x.P) ∨ (∃ e : Int, e ≠ 0 ∧ x.er = .iface 58 (.int .i64 e) ∧ x.sl = .slice none 0 0 ∧ x.P = [] ∧ x.used = 0)
abbrev PX (w : World) := { x : PE // PV w x }
def pxV (w : World) (x : PX w) : Array Value := #[.agg #[x.1.sl, .int .i64 (x.1.used : Int)], x.1.er]
def allP {w : World} (l : List (PX w)) : List Int := (l.map fun x => x.1.P).flatten
def sumU {w : World} : List (PX w) → Nat
  | [] => 0
  | x :: r => x.1.used + sumU r
theorem allP_snoc {w : World} (l : List (PX w)) (x : PX w) : allP (l ++ [x]) = allP l ++ x.1.P := by simp [allP]
theorem sumU_snoc {w : World} (l : List (PX w)) (x : PX w) : sumU (l ++ [x]) = sumU l + x.1.used := by
  induction l with
  | nil => simp [sumU]
  | cons y r ih => simp only [List.cons_append, sumU, ih]; omega
/-- What a round keeps: what lay below n₀, and each piece's own two cells. -/
structure KpP (n₀ : Nat) (W W' : World) : Prop where
  below : Below n₀ W W'
  keep : ∀ (k : Nat) (a : Option Addr) (n c : Nat) (y : Value), W.heap[k]? = some (.cells #[.slice a n c, y] 67 (0, 0)) → W'.heap[k]? = some (.cells #[.slice a n c, y] 67 (0, 0))
theorem KpP.refl (n₀ : Nat) (W : World) : KpP n₀ W W := ⟨Below.refl _ _, fun _ _ _ _ _ h => h⟩
theorem KpP.trans {n₀ : Nat} {A B C : World} (h : KpP n₀ A B) (k : KpP n₀ B C) : KpP n₀ A C := ⟨h.below.trans k.below, fun i a n c y hi => k.keep i a n c y (h.keep i a n c y hi)⟩
theorem KpP.put {n₀ : Nat} {w : World} (hn : n₀ ≤ w.heap.size) (W : World) (l : Nat) (o o' : Obj) (hl : w.heap.size ≤ l) (h : W.heap[l]? = some o) (h1 : o.isCells = false) (h2 : o.isWalk = false) : KpP n₀ W (W.putObj l o') :=
  ⟨belowK_b hn W l o o' hl h h1 h2, fun k a n c y hk => (World.putObj_heap_other (fun e => by subst e; rw [hk] at h; cases h; cases h1)).trans hk⟩
/-- All pieces have come. -/
def PAll (w : World) (Z : List Int) (xs : List (PX w)) : Prop := ∃ q y, xs = q ++ [y] ∧ ((y.1.er = .nilIface ∧ unchF Z = (0, allP xs, (sumU xs : Int))) ∨ (∃ e : Int, e ≠ 0 ∧ y.1.er = .iface 58 (.int .i64 e) ∧ unchF Z = (e, [], 0)))
/-- Some have. -/
def PSome (w : World) (Z : List Int) (xs : List (PX w)) : Prop := ∃ q y, xs = q ++ [y] ∧ ∀ e : Int, e ≠ 0 → y.1.er = .iface 58 (.int .i64 e) → unchF Z = (e, [], 0)
theorem below_grown {W W' : World} (h : Below W.heap.size W W') : W.grownBy W' none := ⟨h.os, h.tape, h.output, h.size, fun k hk _ => h.block k hk⟩
theorem abides_below {β : Type} {B : Nat} {J : β → World → Prop} (hJ : AbidesFrom B J) {s : β} {W W' : World} (h : J s W) (hb : Below W.heap.size W W') : J s W' := hJ s W W' none h (below_grown hb) (fun r e => by cases e)
theorem Arg.cut {w : World} {g off len cap : Nat} {Z : List Int} (h : Arg w (some ⟨g, off, none⟩) len cap Z) (h1 : 1 ≤ len) : Row w g off len cap Z := by
  rcases h with ⟨h0, _⟩ | ⟨g', off', he, hr⟩
  · omega
  · cases he; exact hr
/-- The pieces, one by one. -/
theorem pieces_call (a : Option Addr) (len cap : Nat) (w : World) :
    Calls Tryd.prog 29 #[.slice a len cap] w fun e w' => e = .returned (.func (.func 73) #[] #[.pointer (some ⟨w.heap.size, 0, none⟩)]) ∧ w' = w.alloc (.cells #[.slice a len cap] 22) := by
  go_enter Tryd.func29, Tryd.ntmps29
  go_wp2
  go_ret
  exact ⟨rfl, rfl⟩
/-- A piece's cells, laid anew. -/
def laidP (w : World) (x y : Value) : World := w.alloc (.cells #[x, y] 67)
theorem laidP_at (w : World) (x y : Value) : (laidP w x y).heap[w.heap.size]? = some (.cells #[x, y] 67 (0, 0)) := heap_alloc_new w _
theorem laidP_below (w : World) (x y : Value) : Below w.heap.size w (laidP w x y) := (Below.refl _ _).alloc (Nat.le_refl _) _
set_option maxHeartbeats 4000000 in
theorem pieces_in (n : Nat) (hn : 1 ≤ n) (l Bb : Nat) (w : World) (a : Option Addr) (len cap : Nat) (Z : List Int) (hA : Arg w a len cap Z) (hl : len ≤ 281474976710656) (B : Nat) (J Jx : List (PX w) → World → Prop) (hJ : AbidesFrom B J)
    (hY : ∀ pre x W, J pre W → pre.length < 8002 → YieldAt Fence.wide (n - 1) Tryd.prog l (pxV w x) W fun e W' =>
      (e = .returned (.bool true) ∧ J (pre ++ [x]) W' ∧ KpP w.heap.size W W') ∨ (e = .returned (.bool false) ∧ Jx (pre ++ [x]) W'))
    (W : World) (hBW : Below w.heap.size w W) (hB : Boxed W Bb 22 (.slice a len cap)) (h0 : J [] W) :
    CallsIn Fence.wide n Tryd.prog 73 #[.func (.yield l) #[] #[], .pointer (some ⟨Bb, 0, none⟩)] W fun e W' => (∃ v, e = .returned v) ∧
      ((∃ ys, PAll w Z ys ∧ J ys W') ∨ (∃ pre, PSome w Z pre ∧ Jx pre W')) := by
  have hlen := hA.len
  have cB := hB.cell
  have HA := vl hA
  have HBW := vl hBW
  have HJ := vl hJ
  have HY := vl hY
  have H0 := vl h0
  clear hA hBW hB hJ hY h0
  refine callsIn_of_wp Tryd.func73 rfl trivial ?_ rfl
  simp only [Tryd.ntmps73, List.size_toArray, List.length_cons, List.length_nil, Nat.reduceAdd, Nat.reduceSub, Array.replicate_succ, Array.replicate_zero, List.push_toArray, List.append_toArray, List.nil_append, List.cons_append]
  gi_wp2
  gi_loopw [3, 4] (fun x y wr => ∃ (pre : List (PX w)) (av : Option Addr) (cv p M : Nat), x = .slice av (len - p) cv ∧ y = .int .i64 ((8000 - M : Nat) : Int) ∧ p ≤ len ∧ M ≤ 8000 ∧ pre.length ≤ M ∧
      Vl (Arg w av (len - p) cv (Z.drop p)) ∧ Vl (UnS Z (allP pre) p ∧ (allP pre).length = M ∧ sumU pre = p) ∧ Vl (J pre wr) ∧ Vl (Below w.heap.size w wr)) (fun x _ _ => match x with | .slice _ n _ => n | _ => 0)
  case atStart => exact ⟨[], a, cap, 0, 0, rfl, rfl, by omega, by omega, by simp, HA.out, ⟨UnS.start Z, rfl, rfl⟩, H0.out, HBW.out⟩
  case round =>
    obtain ⟨pre, av, cv, p, M, rfl, rfl, hp, hM, hpl, HAv, HU, HJ1, HB1⟩ := hrel
    have H1 := vl (urdp_any av (len - p) cv (Z.drop p) M wr (HAv.out.below HB1.out) (by omega) hM)
    clear cB
    gi_wp2_with fail
    refine ⟨trivial, ?_⟩
    refine (callsIn_wide.2 H1.out).mono ?_
    rintro e w2 ⟨r, rfl, ht, hb2⟩
    have HJ2 := vl (abides_below HJ.out HJ1.out hb2)
    have HB2 : Vl (Below w.heap.size w w2) := HB1.out.trans (hb2.mono HB1.out.size)
    clear H1 hb2 HJ1 HB1
    obtain ⟨c0, c1, f0, f1⟩ := pb_cell (show (w2.alloc (.cells #[.slice none 0 0, .int .i64 0] 67)).heap[w2.heap.size]? = _ from heap_alloc_new w2 _)
    rcases ht with ⟨x, hx0, hun, rfl⟩ | ⟨q, nn, g, off, hpa, rfl, rfl⟩
    · have HF : Vl (unchF Z = (x, [], 0)) := HU.out.1.fault hx0 (hun _ _ HU.out.2.1)
      obtain ⟨X, hX⟩ : ∃ X : PX w, X.1 = ⟨.slice none 0 0, 0, .iface 58 (.int .i64 x), []⟩ := ⟨⟨⟨.slice none 0 0, 0, .iface 58 (.int .i64 x), []⟩, by simp, by simp, Or.inr ⟨x, hx0, rfl, rfl, rfl, rfl⟩⟩, rfl⟩
      have HJ3 := vl (abides_below HJ.out HJ2.out (laidP_below w2 (.slice none 0 0) (.int .i64 0)))
      obtain ⟨fn, tmps, assign, body, hy, hR⟩ := HY.out pre X _ HJ3.out (by omega)
      have hpx : pxV w X = #[.agg #[.slice none 0 0, .int .i64 0], .iface 58 (.int .i64 x)] := by unfold pxV; rw [hX]; rfl
      rw [hpx] at hy
      have d0 := (pb_cell (laidP_at w2 (.slice none 0 0) (.int .i64 0))).1
      have d1 := (pb_cell (laidP_at w2 (.slice none 0 0) (.int .i64 0))).2.1
      have HR := vl hR
      have HX := vl hX
      clear hun hpx hR HJ3 HJ2 hX
      unfold laidP at d0 d1 hy HR
      gi_wp2
      refine HR.out.mono ?_
      rintro e W4 (⟨rfl, hJ4, hk4⟩ | ⟨rfl, hJ4⟩)
      · have HJ4 := vl hJ4
        clear hJ4 hk4
        gi_wp2
        refine bodyPost_ret (results_none rfl _ _ _) rfl ?_
        exact ⟨⟨_, rfl⟩, Or.inl ⟨_, ⟨pre, X, rfl, Or.inr ⟨x, hx0, by rw [HX.out], HF.out⟩⟩, HJ4.out⟩⟩
      · have HJ4 := vl hJ4
        clear hJ4
        gi_wp2
        refine bodyPost_ret (results_none rfl _ _ _) rfl ?_
        exact ⟨⟨_, rfl⟩, Or.inr ⟨_, ⟨pre, X, rfl, fun e he h => by rw [HX.out] at h; cases h; exact HF.out⟩, HJ4.out⟩⟩
    · have h5 := hpa.h5
      have h6 := hpa.h6
      rw [List.length_drop, hlen] at h5
      have HPA := vl hpa
      have HRW := vl (HAv.out.cut (by omega))
      have hcv := HRW.out.hcap
      obtain ⟨u, hu⟩ : ∃ u, u = q + 2 + nn + 2 := ⟨_, rfl⟩
      rw [← hu] at h5 ⊢
      have hprow : Row w g (off + (q + 2)) nn (cv - (q + 2)) (((Z.drop p).drop (q + 2)).take nn) := by
        obtain ⟨o6, ho6, hr6⟩ := u_cut HRW.out (q + 2) nn (by omega)
        rw [if_neg (show ¬ (cv = q + 2) by omega)] at ho6
        obtain rfl : o6 = off + (q + 2) := by simp at ho6; exact ho6.symm
        exact hr6
      have hPl := hprow.hlen
      obtain ⟨P, hP⟩ : ∃ P, P = ((Z.drop p).drop (q + 2)).take nn := ⟨_, rfl⟩
      rw [← hP] at hprow hPl
      obtain ⟨X, hX⟩ : ∃ X : PX w, X.1 = ⟨.slice (some ⟨g, off + (q + 2), none⟩) nn (cv - (q + 2)), u, .nilIface, P⟩ := ⟨⟨⟨.slice (some ⟨g, off + (q + 2), none⟩) nn (cv - (q + 2)), u, .nilIface, P⟩, by show P.length ≤ 8000; omega, by show u ≤ _; omega, Or.inl ⟨rfl, _, _, by show _ = Value.slice _ P.length _; rw [hPl], by show Arg w _ P.length _ P; rw [hPl]; exact Or.inr ⟨_, _, rfl, hprow⟩⟩⟩, rfl⟩
      obtain ⟨sl, hsl⟩ : ∃ sl, sl = some (⟨g, off + (q + 2), none⟩ : Addr) := ⟨_, rfl⟩
      obtain ⟨sc, hsc⟩ : ∃ sc, sc = cv - (q + 2) := ⟨_, rfl⟩
      rw [← hsl, ← hsc] at hX ⊢
      clear hsl hsc hprow
      have HJ3 := vl (abides_below HJ.out HJ2.out (laidP_below w2 (.slice sl nn sc) (.int .i64 u)))
      have HB3 : Vl (Below w.heap.size w (laidP w2 (.slice sl nn sc) (.int .i64 u))) := HB2.out.trans ((laidP_below _ _ _).mono HB2.out.size)
      obtain ⟨fn, tmps, assign, body, hy, hR⟩ := HY.out pre X _ HJ3.out (by omega)
      have hpx : pxV w X = #[.agg #[.slice sl nn sc, .int .i64 (u : Int)], .nilIface] := by unfold pxV; rw [hX]
      rw [hpx] at hy
      have d0 := (pb_cell (laidP_at w2 (.slice sl nn sc) (.int .i64 u))).1
      have d1 := (pb_cell (laidP_at w2 (.slice sl nn sc) (.int .i64 u))).2.1
      have HL := vl (laidP_at w2 (.slice sl nn sc) (.int .i64 u))
      have HR := vl hR
      have HX := vl hX
      have HUE := vl hu
      have HPE := vl hP
      obtain ⟨GB, hGB⟩ : ∃ GB, GB = w2.heap.size := ⟨_, rfl⟩
      clear hpx hR HJ3 HJ2 hX hu hP hpa
      unfold laidP at d0 d1 hy HR
      gi_wp2
      refine HR.out.mono ?_
      rintro e W4 (⟨rfl, hJ4, hk4⟩ | ⟨rfl, hJ4⟩)
      · have hk := hk4.keep _ _ _ _ _ HL.out
        obtain ⟨e0, e1, _, _⟩ := pb_cell hk
        have HJ4 := vl hJ4
        have HB4 : Vl (Below w.heap.size w W4) := HB3.out.trans hk4.below
        clear hJ4 hk4 hk hGB d0 d1 hy
        by_cases hn0 : nn = 0
        · subst hn0
          gi_wp2
          refine bodyPost_ret (results_none rfl _ _ _) rfl ?_
          refine ⟨⟨_, rfl⟩, Or.inl ⟨_, ⟨pre, X, rfl, Or.inl ⟨by rw [HX.out], ?_⟩⟩, HJ4.out⟩⟩
          have hpc := HPA.out.pc HU.out.2.1
          have he3 : (Z.drop p).drop (q + 2 + 0 + 2) = Z.drop (p + u) := by rw [List.drop_drop, HUE.out]
          rw [he3] at hpc
          have hd := HU.out.1.done (q := p + u) (by omega) (unF_end hpc)
          rw [allP_snoc, sumU_snoc, HX.out, HU.out.2.2, hd]
          show (_ : Int × List Int × Int) = _
          have hPn : P = [] := List.eq_nil_of_length_eq_zero hPl
          rw [hPn, List.append_nil]
        · have hn0' : ¬ ((nn : Int) = 0) := by omega
          obtain ⟨o7, ho7, hr7⟩ := u_cut HRW.out u (len - p - u) (by omega)
          have HR7 : Vl (Arg w (some ⟨g, o7, none⟩) (len - (p + u)) (cv - u) (Z.drop (p + u))) := by
            rw [List.take_of_length_le (by simp; omega), List.drop_drop, show len - p - u = len - (p + u) by omega] at hr7
            exact Or.inr ⟨_, _, rfl, hr7⟩
          have HU7 : Vl (UnS Z (allP (pre ++ [X])) (p + u) ∧ (allP (pre ++ [X])).length = M + nn ∧ sumU (pre ++ [X]) = p + u) := by
            have hpc := HPA.out.pc HU.out.2.1
            have he3 : (Z.drop p).drop (q + 2 + nn + 2) = Z.drop (p + u) := by rw [List.drop_drop, HUE.out]
            rw [he3] at hpc
            have hal : allP (pre ++ [X]) = allP pre ++ ((Z.drop p).drop (q + 2)).take nn := by rw [allP_snoc, HX.out, ← HPE.out]
            have hle : (allP (pre ++ [X])).length = M + nn := by rw [hal, List.length_append, HU.out.2.1, ← HPE.out, hPl]
            have hnx := HU.out.1.next hpc (by omega) (by omega) (by rw [Int.toNat_natCast, ← hal, hle]; omega)
            rw [Int.toNat_natCast, ← hal] at hnx
            exact ⟨hnx, hle, by rw [sumU_snoc, HX.out, HU.out.2.2]⟩
          have hu1 : (u : Int) ≤ ((len - p : Nat) : Int) := by omega
          have hu2 : (u : Int) ≤ (cv : Int) := by omega
          clear hr7
          gi_wp2_with fail
          refine wpIn_wide.2 ?_
          go_quiet (fail)
          go_wp2
          have hmi : ((8000 - M : Nat) : Int) - (nn : Int) = ((8000 - (M + nn) : Nat) : Int) := by omega
          refine ⟨⟨pre ++ [X], some ⟨g, o7, none⟩, cv - u, p + u, M + nn, by rw [show len - p - u = len - (p + u) by omega], by rw [hmi], by omega, by omega, by rw [List.length_append]; simp; omega, HR7.out, HU7.out, abides_below HJ.out HJ4.out (dN_below (Below.refl _ _) _), dN_below HB4.out _⟩, ?_⟩
          show len - p - u < len - p
          have := HUE.out
          omega
      · have HJ4 := vl hJ4
        clear hJ4
        gi_wp2
        refine bodyPost_ret (results_none rfl _ _ _) rfl ?_
        exact ⟨⟨_, rfl⟩, Or.inr ⟨_, ⟨pre, X, rfl, fun e he h => by rw [HX.out] at h; cases h⟩, HJ4.out⟩⟩
/-- What chunk.pieces hands back gives the pieces, in their order. -/
theorem pieces_stops (n : Nat) (hn : 1 ≤ n) (Bb : Nat) (w : World) (a : Option Addr) (len cap : Nat) (Z : List Int) (hA : Arg w a len cap Z) (hl : len ≤ 281474976710656) (W0 : World) (hb0 : Below w.heap.size w W0) (hB : Boxed W0 Bb 22 (.slice a len cap)) :
    SeqStopsK Fence.wide n Tryd.prog 73 #[.pointer (some ⟨Bb, 0, none⟩)] (pxV w) (KpP w.heap.size) (PAll w Z) (PSome w Z) 8002 W0 := fun l J Jx W hW hJ _ hY h0 =>
  pieces_in n hn l Bb w a len cap Z hA hl W.heap.size J Jx hJ hY W (hb0.trans (hW.mono hb0.size)) ((hW.block _ hB.lt).trans hB) h0
end Go.Proofs.YtgjolljhjagngafDoor
/-
  CONTRACT of the Go function chunk.Decode. No claim by itself.
-/
namespace Go.Proofs.YtgjolljhjagngafDoor
open Go Go.RowKit Go.Shelf
set_option maxRecDepth 100000
attribute [local go_sem] Oper.semAt_some
/-- What holds behind the pieces xs. -/
def UdI (w : World) (xs : List (PX w)) (W : World) : Prop :=
  (∃ v, Boxed W w.heap.size 22 v ∧ W.ownsRow (w.heap.size + 4) 5 1 v (allP xs).length ((allP xs).map (Value.int .u8))) ∧
  (Boxed W (w.heap.size + 1) 3 (.int .i64 (sumU xs : Int)) ∧ Boxed W (w.heap.size + 2) 24 .nilIface) ∧ (∀ y ∈ xs, y.1.er = .nilIface) ∧ w.heap.size + 4 ≤ W.heap.size ∧ Below w.heap.size w W
/-- What holds where an error came. -/
def UdX (w : World) (c : Code) (xs : List (PX w)) (W : World) : Prop :=
  c = .ret ∧ (∃ q y e, xs = q ++ [y] ∧ e ≠ 0 ∧ y.1.er = .iface 58 (.int .i64 e) ∧ Boxed W (w.heap.size + 2) 24 (.iface 58 (.int .i64 e))) ∧
  (Boxed W w.heap.size 22 (.slice none 0 0) ∧ Boxed W (w.heap.size + 1) 3 (.int .i64 0)) ∧ Below w.heap.size w W
theorem ubx_own {X Y : World} {row : Option Nat} {B b : Nat} {t : TypeId} {v : Value} (h : Boxed X B t v) (hg : X.grownBy Y row) (hr : ∀ r, row = some r → b ≤ r ∧ ∃ o : Obj, X.heap[r]? = some o ∧ o.isCells = false) : Boxed Y B t v :=
  boxed_own (β := Unit) B t (fun _ => v) () X Y row h hg (fun r e => (hr r e).2)
theorem uowns_turn {X Y : World} {row : Option Nat} {b s k : Nat} {e : TypeId} {v : Value} {xs : List Value} (hr : X.ownsRow b e s v k xs) (hg : X.grownBy Y row) (hrow : ∀ r, row = some r → ∃ o : Obj, X.heap[r]? = some o ∧ o.isCells = false) : Y.ownsRow b e s v k xs := by
  refine hr.kept hg ?_
  rcases hr.2 with ⟨rfl, _⟩ | ⟨g, cap, cur, rfl, _, hgb, _⟩
  · exact .inl rfl
  · refine .inr fun e' => ?_
    obtain ⟨o, ho, hc⟩ := hrow g (by simpa [Value.ownBlock] using e'.symm)
    rw [hgb] at ho; cases ho; cases hc
theorem allP_len {w : World} (l : List (PX w)) : (allP l).length ≤ 8000 * l.length := by
  induction l with
  | nil => simp [allP]
  | cons x r ih =>
    have e : allP (x :: r) = x.1.P ++ allP r := by simp [allP]
    have := x.2.small
    rw [e, List.length_append, List.length_cons]
    omega
theorem sumU_le {w : World} (l : List (PX w)) : sumU l ≤ 281474976710656 * l.length := by
  induction l with
  | nil => simp [sumU]
  | cons x r ih =>
    have := x.2.used
    rw [sumU, List.length_cons]
    omega
theorem arg_news {w : World} {o : Addr} {n c : Nat} {P : List Int} (h : Arg w (some o) n c P) : ∀ j u, (P.map (Value.int .u8))[j]? = some u → w.cell? (o.add j) = some u := by
  rcases h with ⟨_, rfl⟩ | ⟨g, off, he, hr⟩
  · intro j u hj; simp at hj
  · cases he; exact u_news hr
theorem not_row2 {W : World} {k base size n : Nat} {cs : Array Value} {t e : TypeId} {fr : Nat × Nat} {v : Value} {xs : List Value} (h : W.heap[k]? = some (.cells cs t fr)) (hte : t ≠ e) (hr : W.ownsRow base e size v n xs) : some k ≠ v.ownBlock := by
  intro he
  obtain ⟨_, ⟨rfl, _⟩ | ⟨g, cap, cur, rfl, _, hc, _⟩⟩ := hr
  · cases he
  · cases he
    rw [h] at hc
    cases hc
    exact hte rfl
theorem owns_shape {W : World} {base size n : Nat} {e : TypeId} {v : Value} {xs : List Value} (hr : W.ownsRow base e size v n xs) : ∃ a m c, v = .slice a m c := by
  obtain ⟨_, ⟨rfl, _⟩ | ⟨g, cap, cur, rfl, _, hc, _⟩⟩ := hr
  · exact ⟨_, _, _, rfl⟩
  · exact ⟨_, _, _, rfl⟩
theorem owns_others {W W' : World} {base size n : Nat} {e : TypeId} {v : Value} {xs : List Value} (hr : W.ownsRow base e size v n xs) (hg : W.grownBy W' v.ownBlock) : KeepsOthers W W' :=
  KeepsOthers.of_grownBy hg fun j o hj ho => by
    obtain ⟨_, ⟨rfl, _⟩ | ⟨g, cap, cur, rfl, _, hc, _⟩⟩ := hr
    · cases hj
    · cases hj
      rw [hc] at ho
      cases ho
      rfl
theorem owns_base {W : World} {base size n : Nat} {e : TypeId} {v : Value} {xs : List Value} (hr : W.ownsRow base e size v n xs) (k : Nat) (hk : v.ownBlock = some k) : base ≤ k := by
  obtain ⟨_, ⟨rfl, _⟩ | ⟨g, cap, cur, rfl, hb, _⟩⟩ := hr
  · cases hk
  · cases hk; exact hb
set_option maxHeartbeats 4000000 in
theorem udec_in (a : Option Addr) (len cap : Nat) (Z : List Int) (w : World) (hA : Arg w a len cap Z) (hl : len ≤ 281474976710656) :
    CallsIn Fence.wide 9 Tryd.prog 9 #[.slice a len cap] w fun e w' => ∃ v, e = .returned (.tuple #[v, .int .i64 (unchF Z).2.2, errW (unchF Z).1]) ∧ UOwn w' w.heap.size v (unchF Z).2.1 ∧ Below w.heap.size w w' := by
  obtain ⟨i0, hi, hz0, hz1, hz2⟩ := info_parts u_info5
  have HA := vl hA
  have HI := vl hi
  have HZ : Vl (i0.zero = some (.int .u8 0) ∧ i0.size = 1 ∧ i0.bytes = 1) := ⟨hz0, hz1, hz2⟩
  clear hA hi hz0 hz1 hz2
  refine callsIn_of_wp_marks Tryd.func9 rfl trivial ?_ rfl
  simp only [Tryd.ntmps9, List.size_toArray, List.length_cons, List.length_nil, Nat.reduceAdd, Nat.reduceSub, Array.replicate_succ, Array.replicate_zero, List.push_toArray, List.append_toArray, List.nil_append, List.cons_append]
  gi_wp2_with (refine ⟨trivial, ?_⟩; gi_at_call 29; refine (callsIn_wide.2 (pieces_call _ _ _ _)).mono ?_; rintro e w' ⟨rfl, rfl⟩)
  have b0 := (((Boxed.new w 22 (.slice none 0 0)).alloc (Obj.cells #[Value.int IntKind.i64 0] 3)).alloc (Obj.cells #[Value.nilIface] 24)).alloc (Obj.cells #[Value.slice a len cap] 22)
  have b1 := ((Boxed.new (w.alloc (Obj.cells #[Value.slice none 0 0] 22)) 3 (.int .i64 0)).alloc (Obj.cells #[Value.nilIface] 24)).alloc (Obj.cells #[Value.slice a len cap] 22)
  have b2 := (Boxed.new ((w.alloc (Obj.cells #[Value.slice none 0 0] 22)).alloc (Obj.cells #[Value.int IntKind.i64 0] 3)) 24 .nilIface).alloc (Obj.cells #[Value.slice a len cap] 22)
  have bB := Boxed.new (((w.alloc (Obj.cells #[Value.slice none 0 0] 22)).alloc (Obj.cells #[Value.int IntKind.i64 0] 3)).alloc (Obj.cells #[Value.nilIface] 24)) 22 (.slice a len cap)
  have hB0 : Below w.heap.size w ((((w.alloc (Obj.cells #[Value.slice none 0 0] 22)).alloc (Obj.cells #[Value.int IntKind.i64 0] 3)).alloc (Obj.cells #[Value.nilIface] 24)).alloc (Obj.cells #[Value.slice a len cap] 22)) := ((((Below.refl _ w).alloc (Nat.le_refl _) _).alloc (by simp) _).alloc (by simp; omega) _).alloc (by simp; omega) _
  have hsz : ((((w.alloc (Obj.cells #[Value.slice none 0 0] 22)).alloc (Obj.cells #[Value.int IntKind.i64 0] 3)).alloc (Obj.cells #[Value.nilIface] 24)).alloc (Obj.cells #[Value.slice a len cap] 22)).heap.size = w.heap.size + 4 := by simp
  simp only [World.size_alloc] at b1 b2 bB
  obtain ⟨W0, hW0⟩ : ∃ W0, ((((w.alloc (Obj.cells #[Value.slice none 0 0] 22)).alloc (Obj.cells #[Value.int IntKind.i64 0] 3)).alloc (Obj.cells #[Value.nilIface] 24)).alloc (Obj.cells #[Value.slice a len cap] 22)) = W0 := ⟨_, rfl⟩
  rw [hW0] at b0 b1 b2 bB hB0 hsz ⊢
  clear hW0
  refine wpIn_rangeFunc_ownH (N := 8002) rfl (by decide) (gf := 73) (lb := #[.pointer (some ⟨w.heap.size + 1 + 1 + 1, 0, none⟩)]) rfl trivial (enters_of Tryd.func73 (by kernel_rfl) rfl)
    (pieces_stops 8 (by decide) (w.heap.size + 1 + 1 + 1) w a len cap Z HA.out hl W0 hB0 bB)
    KpP.trans (fun W l o o' h1 h2 h3 h4 => KpP.put (w := W0) (by omega) W l o o' h1 h2 h3 h4) (Below.refl _ _) (fun _ => rfl)
    (UdI w) (UdX w)
    ?hI ?hIx ⟨⟨_, b0, World.ownsRow_nil _ _ _ _⟩, ⟨b1, b2⟩, (fun y hy => by cases hy), by omega, hB0⟩
    (fun x a' X => ∃ B, w.heap.size + 4 ≤ B ∧ a' = { tmps := #[Value.slice a len cap, undef, Value.pointer (some ⟨w.heap.size, 0, none⟩), Value.pointer (some ⟨w.heap.size + 1, 0, none⟩), Value.pointer (some ⟨w.heap.size + 1 + 1, 0, none⟩), Value.pointer (some ⟨B, 0, none⟩), x.1.er, Value.slice a len cap, Value.func (Fn.func 73) #[] #[Value.pointer (some ⟨w.heap.size + 1 + 1 + 1, 0, none⟩)], .agg #[x.1.sl, .int .i64 (x.1.used : Int)], x.1.er, undef, undef, undef, undef, undef, undef, undef, undef, undef, undef, undef, undef, undef], defers := [] } ∧ X.heap[B]? = some (.cells #[x.1.sl, .int .i64 (x.1.used : Int)] 67 (0, 0)))
    ?hAx ?assign ?body ?done ?stop
  case hI =>
    rintro s X Y row ⟨⟨v, h1, h2⟩, ⟨h3, h4⟩, h5, h7, hbl⟩ hgr hr
    exact ⟨⟨v, ubx_own h1 hgr hr, uowns_turn h2 hgr (fun r e => (hr r e).2)⟩, ⟨ubx_own h3 hgr hr, ubx_own h4 hgr hr⟩, h5, Nat.le_trans h7 hgr.size, (ownFrom_below (β := Unit) (Nat.le_refl _) (by omega)) () X Y row hbl hgr hr⟩
  case hIx =>
    rintro c s X Y row ⟨hc, ⟨q, y, e, h1, h2, h3, h4⟩, ⟨h5, h6⟩, hbl⟩ hgr hr
    exact ⟨hc, ⟨q, y, e, h1, h2, h3, ubx_own h4 hgr hr⟩, ⟨ubx_own h5 hgr hr, ubx_own h6 hgr hr⟩, (ownFrom_below (β := Unit) (Nat.le_refl _) (by omega)) () X Y row hbl hgr hr⟩
  case hAx =>
    rintro x a' s X Y row ⟨B, hB, ha, hT⟩ hgr hr
    refine ⟨B, hB, ha, (hgr.block B (Array.getElem?_eq_some_iff.1 hT).1 (fun e => ?_)).trans hT⟩
    obtain ⟨_, o, ho, hc⟩ := hr B e.symm
    rw [hT] at ho; cases ho; cases hc
  case assign =>
    intro l pre x X K hI hK
    have hsl : ∃ a n c, x.1.sl = .slice a n c := by
      rcases x.2.kind with ⟨_, o, c, h, _⟩ | ⟨_, _, _, h, _⟩
      · exact ⟨_, _, _, h⟩
      · exact ⟨_, _, _, h⟩
    obtain ⟨sa, sn, sc, hsl⟩ := hsl
    have HI1 := vl hI
    have HKK := vl hK
    have HXS := vl hsl
    clear hI hK
    dsimp only [pxV]
    rw [hsl]
    clear hsl
    gi_wp2
    have hal := World.grownBy_alloc X (.cells #[.slice sa sn sc, .int .i64 (x.1.used : Int)] 67) none
    have hbl : Below X.heap.size X (X.alloc (.cells #[.slice sa sn sc, .int .i64 (x.1.used : Int)] 67)) := (Below.refl _ X).alloc (Nat.le_refl _) _
    obtain ⟨⟨v, h1, h2⟩, ⟨h3, h4⟩, h5, h7, h6⟩ := HI1.out
    have h6s := h6.size
    have hlt := h4.lt
    refine HKK.out _ _ ((others_of_below hbl).from _) ⟨hbl.mono h6s, fun k a n c y hk => (hbl.block k (Array.getElem?_eq_some_iff.1 hk).1).trans hk⟩ ⟨⟨v, h1.alloc _, h2.alloc _⟩, ⟨h3.alloc _, h4.alloc _⟩, h5, by simp; omega, h6.alloc (by omega) _⟩ ⟨X.heap.size, ?_, ?_, ?_⟩
    · exact h7
    · rw [HXS.out]
    · rw [HXS.out]; exact heap_alloc_new _ _
  case body =>
    rintro l pre x a' X hl1 hl2 ⟨⟨v, bV, hown⟩, ⟨bU, bE⟩, hall, hX4, hBX⟩ ⟨B, hB, rfl, hT⟩ hlt
    have cV := bV.cell
    have fV := bV.frozen
    have cU := bU.cell
    have fU := bU.frozen
    have cE := bE.cell
    have fE := bE.frozen
    have HALL := vl hall
    have HBV := vl bV
    have HBU := vl bU
    have HBE := vl bE
    have HBX := vl hBX
    have HOWN := vl hown
    have HT := vl hT
    have HV := vl x.2
    clear hall bV bU bE hBX hown hT b0 b1 b2 bB hB0
    rcases HV.out.kind with ⟨her, o, c, hsl, hAx⟩ | ⟨e, he0, her, hsl, hP0, hu0⟩
    · have HAX := vl (arg_news (hAx.below HBX.out))
      have HER := vl her
      have HP := vl (allP_snoc pre x)
      have HS := vl (sumU_snoc pre x)
      have hpl := allP_len pre
      have hul := sumU_le pre
      have hP8 := HV.out.small
      have hU8 := HV.out.used
      obtain ⟨PL, hPL⟩ : ∃ PL, PL = allP pre := ⟨_, rfl⟩
      obtain ⟨U, hU⟩ : ∃ U, U = sumU pre := ⟨_, rfl⟩
      obtain ⟨P, hP⟩ : ∃ P, P = x.1.P := ⟨_, rfl⟩
      obtain ⟨u, hu⟩ : ∃ u, u = x.1.used := ⟨_, rfl⟩
      rw [← hPL] at HOWN HP hpl
      rw [← hU] at HBU HS hul cU
      rw [← hP] at HAX HP hP8 hsl
      rw [← hu] at HS hU8 HT ⊢
      rw [hsl] at HT ⊢
      rw [her]
      obtain ⟨t0, t1, _, _⟩ := pb_cell HT.out
      clear hPL hU hP hu hsl her hAx HA
      gi_wp2_with (gi_at_builtin; refine wpListIn_append_own _ rfl _ _ 22 rfl (w.heap.size + 4) 5 i0 (.int .u8 0) 1 1 Tryd.underlying22 HI.out HZ.out.1 HZ.out.2.1 HZ.out.2.2 rfl (by decide) v PL.length _ rfl HOWN.out o P.length c (P.map (Value.int .u8)) rfl (by simp) HAX.out (u_one P) (by unfold maxLen; omega) (by omega) hX4 ?_)
      intro v3 w3 hown3 hgrow3 _
      obtain ⟨sa, sn, sc, rfl⟩ := owns_shape hown3
      have bV3 : Boxed w3 w.heap.size 22 v := HBV.out.kept hgrow3 (HBV.out.not_row (by decide) HOWN.out)
      have bU3 : Boxed w3 (w.heap.size + 1) 3 (.int .i64 U) := HBU.out.kept hgrow3 (HBU.out.not_row (by decide) HOWN.out)
      have bE3 : Boxed w3 (w.heap.size + 2) 24 .nilIface := HBE.out.kept hgrow3 (HBE.out.not_row (by decide) HOWN.out)
      have hT3 : w3.heap[B]? = some (.cells #[.slice (some o) P.length c, .int .i64 u] 67 (0, 0)) := (hgrow3.block B (Array.getElem?_eq_some_iff.1 HT.out).1 (not_row2 HT.out (by decide) HOWN.out)).trans HT.out
      have hT4 : (w3.setCell ⟨w.heap.size, 0, none⟩ (.slice sa sn sc)).heap[B]? = some (.cells #[.slice (some o) P.length c, .int .i64 u] 67 (0, 0)) := (Below.heap_setCell _ _ _ _ (by show B ≠ w.heap.size; omega)).trans hT3
      obtain ⟨_, t3, _, _⟩ := pb_cell hT4
      have cV3 := bV3.cell
      have fV3 := bV3.frozen
      have bU4 := bU3.other (B' := w.heap.size) (by omega) (.slice sa sn sc)
      have cU4 := bU4.cell
      have fU4 := bU4.frozen
      have HFIN : Vl (KeepsFrom (w.heap.size + 4) X ((w3.setCell ⟨w.heap.size, 0, none⟩ (.slice sa sn sc)).setCell ⟨w.heap.size + 1, 0, none⟩ (.int .i64 ((U : Int) + (u : Int)))) ∧ KpP w.heap.size X ((w3.setCell ⟨w.heap.size, 0, none⟩ (.slice sa sn sc)).setCell ⟨w.heap.size + 1, 0, none⟩ (.int .i64 ((U : Int) + (u : Int)))) ∧ UdI w (pre ++ [x]) ((w3.setCell ⟨w.heap.size, 0, none⟩ (.slice sa sn sc)).setCell ⟨w.heap.size + 1, 0, none⟩ (.int .i64 ((U : Int) + (u : Int))))) := by
        have hb3 : Below w.heap.size X w3 := u_below_grown (Below.refl _ _) hgrow3 (by omega) (fun k hk => by have := owns_base HOWN.out k hk; omega)
        have hb5 : Below w.heap.size X ((w3.setCell ⟨w.heap.size, 0, none⟩ (.slice sa sn sc)).setCell ⟨w.heap.size + 1, 0, none⟩ (.int .i64 ((U : Int) + (u : Int)))) := (hb3.setCell (p := ⟨w.heap.size, 0, none⟩) (Nat.le_refl _) _).setCell (p := ⟨w.heap.size + 1, 0, none⟩) (by show w.heap.size ≤ w.heap.size + 1; omega) _
        refine ⟨(((owns_others HOWN.out hgrow3).trans (KeepsOthers.setCell _ _ _)).trans (KeepsOthers.setCell _ _ _)).from _, ⟨hb5, fun k a n c y hk => ?_⟩, ⟨_, (bV3.set _).other (by omega) _, ?_⟩, ⟨?_, (bE3.other (by omega) _).other (by omega) _⟩, fun y hy => ?_, Nat.le_trans hX4 hb5.size, HBX.out.trans hb5⟩
        · have hk3 : w3.heap[k]? = some (.cells #[.slice a n c, y] 67 (0, 0)) := (hgrow3.block k (Array.getElem?_eq_some_iff.1 hk).1 (not_row2 hk (by decide) HOWN.out)).trans hk
          have k0 : k ≠ w.heap.size := by
            rintro rfl
            rw [show w3.heap[w.heap.size]? = _ from bV3] at hk3
            simp at hk3
          have k1 : k ≠ w.heap.size + 1 := by
            rintro rfl
            rw [show w3.heap[w.heap.size + 1]? = _ from bU3] at hk3
            simp at hk3
          rw [Below.heap_setCell _ _ _ _ (by exact k1), Below.heap_setCell _ _ _ _ (by exact k0)]
          exact hk3
        · rw [HP.out, List.length_append, List.map_append]
          have h1 := hown3.kept (grownBy_setCell' w3 w.heap.size (.slice sa sn sc)) (.inr (bV3.not_row (by decide) hown3).symm)
          exact h1.kept (grownBy_setCell' _ (w.heap.size + 1) _) (.inr (bU4.not_row (by decide) h1).symm)
        · rw [HS.out]
          have := bU4.set (.int .i64 ((U : Int) + (u : Int)))
          simpa using this
        · rcases List.mem_append.1 hy with h | h
          · exact HALL.out y h
          · rw [List.mem_singleton.1 h]; exact HER.out
      clear hown3 hgrow3 bV3 bU3 bE3 hT3 hT4 bU4
      gi_wp2
      obtain ⟨z1, z2, z3⟩ := HFIN.out
      exact ⟨by rw [hsz]; exact z1, z2, z3⟩
    · rw [her]
      have HER := vl her
      gi_wp2
      refine ⟨(((KeepsOthers.setCell _ _ _).trans (KeepsOthers.setCell _ _ _)).trans (KeepsOthers.setCell _ _ _)).from _, rfl, ⟨pre, x, e, rfl, he0, HER.out, ((HBE.out.other (by omega) _).other (by omega) _).set _⟩, ⟨((HBV.out.set _).other (by omega) _).other (by omega) _, ((HBU.out.other (by omega) _).set _).other (by omega) _⟩, ((HBX.out.setCell (Nat.le_refl _) _).setCell (by show w.heap.size ≤ w.heap.size + 1; omega) _).setCell (by show w.heap.size ≤ w.heap.size + 1 + 1; omega) _⟩
  case done =>
    rintro D xs X hD hS ⟨⟨v, bV, hown⟩, ⟨bU, bE⟩, hall, hX4, hBX⟩ hX
    obtain ⟨sa, sn, sc, rfl⟩ := owns_shape hown
    have cV := bV.cell
    have fV := bV.frozen
    have cU := bU.cell
    have fU := bU.frozen
    have cE := bE.cell
    have fE := bE.frozen
    have HS := vl hS
    have HALL := vl hall
    have HBV := vl bV
    have HBU := vl bU
    have HBE := vl bE
    have HBX := vl hBX
    have HOWN := vl hown
    have HX := vl hX
    have HD := vl hD
    clear hS hall bV bU bE hBX hown hX hD b0 b1 b2 bB hB0
    gi_wp2_with fail
    refine wpIn_wide.2 ?_
    go_region
    obtain ⟨X6, hX6⟩ : ∃ X6, X6 = (((X.setCell ⟨w.heap.size, 0, none⟩ (.slice sa sn sc)).setCell ⟨w.heap.size + 1, 0, none⟩ (.int .i64 (sumU xs : Int))).setCell ⟨w.heap.size + 1 + 1, 0, none⟩ .nilIface).drew := ⟨_, rfl⟩
    have e0 : Boxed X6 w.heap.size 22 (.slice sa sn sc) := by rw [hX6]; exact ((HBV.out.set _).other (by omega) _).other (by omega) _
    have e1 : Boxed X6 (w.heap.size + 1) 3 (.int .i64 (sumU xs : Int)) := by rw [hX6]; exact ((HBU.out.other (by omega) _).set _).other (by omega) _
    have e2 : Boxed X6 (w.heap.size + 1 + 1) 24 .nilIface := by rw [hX6]; exact ((HBE.out.other (by omega) _).other (by omega) _).set _
    have hK6 : KeepsOthers X X6 := by rw [hX6]; exact (((KeepsOthers.setCell _ _ _).trans (KeepsOthers.setCell _ _ _)).trans (KeepsOthers.setCell _ _ _)).trans (KeepsOthers.drew _)
    have hB6 : Below w.heap.size w X6 := by rw [hX6]; exact (((HBX.out.setCell (p := ⟨w.heap.size, 0, none⟩) (Nat.le_refl _) _).setCell (p := ⟨w.heap.size + 1, 0, none⟩) (by show w.heap.size ≤ w.heap.size + 1; omega) _).setCell (p := ⟨w.heap.size + 1 + 1, 0, none⟩) (by show w.heap.size ≤ w.heap.size + 1 + 1; omega) _).drew
    have hO6 : X6.ownsRow (w.heap.size + 4) 5 1 (.slice sa sn sc) (allP xs).length ((allP xs).map (Value.int .u8)) := by
      have h1 := HOWN.out.kept (grownBy_setCell' X w.heap.size (.slice sa sn sc)) (.inr (HBV.out.not_row (by decide) HOWN.out).symm)
      have h2 := h1.kept (grownBy_setCell' _ (w.heap.size + 1) (.int .i64 (sumU xs : Int))) (.inr ((HBU.out.other (by omega) _).not_row (by decide) h1).symm)
      have h3 := h2.kept (grownBy_setCell' _ (w.heap.size + 1 + 1) .nilIface) (.inr (((HBE.out.other (by omega) _).other (by omega) _).not_row (by decide) h2).symm)
      rw [hX6]
      exact uowns_turn h3 (grown_drew _) (fun r e => by cases e)
    rw [← hX6]
    clear hX6
    gi_wp2
    have hX2 : X6.heap[D]? = some (.deferred (some [])) := hK6.same D _ HX.out rfl
    refine ⟨by simp, .inl ⟨_, _, rfl, run_takeDeferred (b := D) (ds := []) hX2, ?_⟩⟩
    have hD := HD.out
    have k0 := (show Boxed (X6.putObj D (.deferred none)) w.heap.size 22 (.slice sa sn sc) from (World.putObj_heap_other (by omega)).trans e0).cell
    have k1 := (show Boxed (X6.putObj D (.deferred none)) (w.heap.size + 1) 3 (.int .i64 (sumU xs : Int)) from (World.putObj_heap_other (by omega)).trans e1).cell
    have k2 := (show Boxed (X6.putObj D (.deferred none)) (w.heap.size + 1 + 1) 24 .nilIface from (World.putObj_heap_other (by omega)).trans e2).cell
    have hun : unchF Z = (0, allP xs, (sumU xs : Int)) := by
      obtain ⟨q, y, hq, ⟨_, h⟩ | ⟨e, he0, hy, _⟩⟩ := HS.out
      · exact h
      · have := HALL.out y (by rw [hq]; simp)
        rw [hy] at this
        cases this
    refine ⟨.tuple #[.slice sa sn sc, .int .i64 (sumU xs : Int), .nilIface], by simp [results, Tryd.results9, go_sem, k0, k1, k2], .slice sa sn sc, ?_, ?_, ?_⟩
    · rw [hun]; rfl
    · rw [hun]
      refine UOwn.mono (UOwn.of (uowns_turn hO6 (grownBy_putObj' _ D _) (fun r e' => ?_))) (b := w.heap.size) (by omega)
      cases e'
      exact ⟨_, hX2, rfl⟩
    · exact hB6.trans (belowK_b (w := W0) (by omega) _ D _ _ hD hX2 rfl rfl)
  case stop =>
    rintro D c pre X hD ⟨q', y', hq', hsp⟩ ⟨rfl, ⟨q, y, e, rfl, he0, hy, b2'⟩, ⟨b0', b1'⟩, hBX⟩ hX
    gi_wp2
    refine ⟨by simp, .inl ⟨_, _, rfl, run_takeDeferred (b := D) (ds := []) hX, ?_⟩⟩
    have k0 := (show Boxed (X.putObj D (.deferred none)) w.heap.size 22 (.slice none 0 0) from (World.putObj_heap_other (by omega)).trans b0').cell
    have k1 := (show Boxed (X.putObj D (.deferred none)) (w.heap.size + 1) 3 (.int .i64 0) from (World.putObj_heap_other (by omega)).trans b1').cell
    have k2 := (show Boxed (X.putObj D (.deferred none)) (w.heap.size + 1 + 1) 24 (.iface 58 (.int .i64 e)) from (World.putObj_heap_other (by omega)).trans b2').cell
    obtain ⟨rfl, hy'⟩ := List.append_inj' hq' rfl
    cases hy'
    have hun := hsp e he0 hy
    refine ⟨.tuple #[.slice none 0 0, .int .i64 0, .iface 58 (.int .i64 e)], by simp [results, Tryd.results9, go_sem, k0, k1, k2], .slice none 0 0, ?_, ?_, ?_⟩
    · rw [hun]; unfold errW; rw [if_neg he0]
    · rw [hun]; exact Or.inl ⟨rfl, rfl⟩
    · exact hBX.trans (belowK_b (w := W0) (by omega) _ D _ _ hD hX rfl rfl)
/-- chunk.Decode, whole. -/
theorem udec_any : UDecSaid := fun a len cap Z w hA hl => callsIn_wide.1 (udec_in a len cap Z w hA hl)
end Go.Proofs.YtgjolljhjagngafDoor
/-
  MESSAGES AS LINES: the mathematics of the document's ReadTell. No claim by itself.
-/
namespace Go.Proofs.YtgjolljhjagngafDoor
theorem dig_pos {c : Int} (h : ¬ dig c < 0) : 0 ≤ dig c := by omega
theorem rdN_is (m : Int) : ∀ (b : List Int) (k : Nat) (n v : Int) (r : List Int), rdN m k n b = (0, v, r) → 0 ≤ n → m + n ≤ 8000 → 0 ≤ v ∧ m + v ≤ 8000 ∧ r <:+ b := by
  intro b
  induction b with
  | nil => intro k n v r h; simp [rdN] at h
  | cons c q ih =>
    intro k n v r h hn hm
    rw [rdN] at h
    by_cases h1 : dig c < 0
    · rw [if_pos h1] at h
      by_cases h2 : k = 0
      · rw [if_pos h2] at h; simp at h
      · rw [if_neg h2] at h
        simp only [Prod.mk.injEq, true_and] at h
        obtain ⟨rfl, rfl⟩ := h
        exact ⟨hn, hm, List.suffix_refl _⟩
    · rw [if_neg h1] at h
      by_cases h2 : k = 1 ∧ n = 0
      · rw [if_pos h2] at h; simp at h
      · rw [if_neg h2] at h
        by_cases h3 : 8000 < m + (n * 16 + dig c)
        · rw [if_pos h3] at h; simp at h
        · rw [if_neg h3] at h
          have := ih _ _ _ _ h (by omega) (by omega)
          exact ⟨this.1, this.2.1, this.2.2.trans (List.suffix_cons _ _)⟩
theorem mt_is {b r : List Int} (h : mt b = (0, r)) : r <:+ b := by
  match b with
  | [] => simp [mt] at h
  | [c] =>
    rw [mt] at h
    split at h <;> simp at h
  | c :: d :: q =>
    rw [mt] at h
    by_cases hc : c = 13
    · rw [if_pos hc] at h
      by_cases hd : d = 10
      · rw [if_pos hd] at h
        simp only [Prod.mk.injEq, true_and] at h
        subst h
        exact (List.suffix_cons _ _).trans (List.suffix_cons _ _)
      · rw [if_neg hd] at h; simp at h
    · rw [if_neg hc] at h; simp at h
/-- What comes of pieces: a tail is left, the body is of its bytes, not too great; or a fault and nothing. -/
theorem unF_is : ∀ (f : Nat) (body b : List Int), body.length ≤ 8000 → (∃ e, e ≠ 0 ∧ unF f body b = (e, [], [])) ∨ (∃ B r, unF f body b = (0, B, r) ∧ r <:+ b ∧ B.length ≤ 8000 ∧ ∀ x ∈ B, x ∈ body ∨ x ∈ b) := by
  intro f
  induction f with
  | zero => intro body b _; exact Or.inl ⟨8, by simp, rfl⟩
  | succ f ih =>
    intro body b hb
    rcases unF_cases body b with ⟨e, he, h⟩ | ⟨n, r, r2, r3, h⟩
    · exact Or.inl ⟨e, he, h f⟩
    · have s1 := rdN_is _ _ _ _ _ _ h.h1 (by omega) (by omega)
      have s2 := mt_is h.h2
      have s4 := mt_is h.h4
      have s3 : r3 <:+ b := s4.trans ((List.drop_suffix _ _).trans (s2.trans s1.2.2))
      by_cases hn : n = 0
      · subst hn
        exact Or.inr ⟨body, r3, unF_end h, s3, hb, fun x hx => Or.inl hx⟩
      · rw [unF_go h hn]
        have hl := h.h3
        have hlen : (body ++ r2.take n.toNat).length ≤ 8000 := by
          simp only [List.length_append, List.length_take]
          omega
        rcases ih (body ++ r2.take n.toNat) r3 hlen with h5 | ⟨B, q, h5, h6, h7, h8⟩
        · exact Or.inl h5
        · refine Or.inr ⟨B, q, h5, h6.trans s3, h7, fun x hx => ?_⟩
          rcases h8 x hx with h9 | h9
          · rcases List.mem_append.1 h9 with h10 | h10
            · exact Or.inl h10
            · exact Or.inr ((s2.trans s1.2.2).subset (List.mem_of_mem_take h10))
          · exact Or.inr (s3.subset h9)
theorem suf_drop {r b : List Int} (h : r <:+ b) : r = b.drop (b.length - r.length) := by
  obtain ⟨t, rfl⟩ := h
  simp
/-- What comes of pieces, by both words. -/
theorem unch_is (b : List Int) : (∃ e, e ≠ 0 ∧ unchF b = (e, [], 0) ∧ unchP b = (e, [], [])) ∨ (∃ (B : List Int) (u : Nat), unchF b = (0, B, (u : Int)) ∧ unchP b = (0, B, b.drop u) ∧ u ≤ b.length ∧ B.length ≤ 8000 ∧ ∀ x ∈ B, x ∈ b) := by
  rcases unF_is (b.length + 1) [] b (by simp) with ⟨e, he, h⟩ | ⟨B, r, h, hs, hB, hx⟩
  · left
    refine ⟨e, he, ?_, ?_⟩
    · unfold unchF; rw [h]; simp [he]
    · unfold unchP; rw [h]
  · right
    have hl := hs.length_le
    refine ⟨B, b.length - r.length, ?_, ?_, by omega, hB, fun x hm => ?_⟩
    · unfold unchF; rw [h]; simp; omega
    · unfold unchP; rw [h]; simp only []; rw [← suf_drop hs]
    · rcases hx x hm with h1 | h1
      · cases h1
      · exact h1
end Go.Proofs.YtgjolljhjagngafDoor
/-
  CONTRACT of the Go function bytes.Clone. No claim by itself.
-/
namespace Go.Proofs.YtgjolljhjagngafDoor
open Go Go.RowKit Go.Shelf
set_option maxRecDepth 100000
/-- Nothing is cloned as nothing. -/
theorem clone_none (n c : Nat) (w : World) :
    Calls Tryd.prog 99 #[.slice none n c] w fun e w' => e = .returned (.slice none 0 0) ∧ w = w' := by
  have q : ∀ (w : World) (a : Option Addr) (n c n' c' : Nat), (binOp .eql 22 (.slice a n c) (.slice none n' c')).run Tryd.prog w = .ok (.bool a.isNone) w := fun w a n c n' c' => Lib.run_eql_slice_nil w _ _ a n c n' c' Tryd.underlying22
  go_enter Tryd.func99, Tryd.ntmps99
  go_wp2
  go_ret
  exact ⟨rfl, rfl⟩
theorem info5 : (Tryd.prog.info? 5).map (fun i => (i.zero, i.size, i.bytes)) = some (some (.int .u8 0), 1, 1) := by kernel_rfl
set_option maxHeartbeats 2000000 in
theorem clone_some (a : Addr) (n c : Nat) (Z : List Int) (w : World) (hZ : Z.length = n) (hbig : n ≤ 140737488355328) (hc : n = 0 ∨ ∃ g off, a = ⟨g, off, none⟩ ∧ Row w g off n c Z) :
    Calls Tryd.prog 99 #[.slice (some a) n c] w fun e w' => ∃ g' c', e = .returned (.slice (some ⟨g', 0, none⟩) n c') ∧ w'.ownsRow w.heap.size 5 1 (.slice (some ⟨g', 0, none⟩) n c') n (Z.map (Value.int .u8)) ∧ Below w.heap.size w w' := by
  have q : ∀ (w : World) (a : Option Addr) (n c n' c' : Nat), (binOp .eql 22 (.slice a n c) (.slice none n' c')).run Tryd.prog w = .ok (.bool a.isNone) w := fun w a n c n' c' => Lib.run_eql_slice_nil w _ _ a n c n' c' Tryd.underlying22
  obtain ⟨i0, hi, hz0, hz1, hz2⟩ := info_parts info5
  have A : Vl (∀ j u, (Z.map (Value.int .u8))[j]? = some u → (w.alloc (.cells #[] 5)).cell? (a.add j) = some u) := by
    intro j u hj
    have hjn : j < Z.length := by
      have := (List.getElem?_eq_some_iff.1 hj).1
      simpa using this
    rcases hc with h0 | ⟨g, off, rfl, hr⟩
    · omega
    · have hb := hr.below ((Below.refl _ w).alloc (Nat.le_refl _) (.cells #[] 5))
      have hx := hb.hcell j (by omega)
      have e : (Z.map (Value.int .u8))[j]? = some (Value.int .u8 (Z.getD j 0)) := by simp [List.getD, List.getElem?_eq_getElem hjn]
      rw [e] at hj
      have hplain : (⟨g, off, none⟩ : Addr).add j = ⟨g, off + j, none⟩ := by unfold Addr.add; split <;> simp_all
      rw [hplain, hx]; exact hj
  clear hc
  go_enter Tryd.func99, Tryd.ntmps99
  go_wp2_with (at_builtin; refine wpList_append_own _ rfl _ _ 22 rfl w.heap.size 5 i0 (.int .u8 0) 1 1 Tryd.underlying22 hi hz0 hz1 hz2 rfl (by decide) _ _ _ rfl (World.ownsRow_made w #[] 0 (Nat.le_refl _) (Nat.zero_le _) rfl) a n c (Z.map (Value.int .u8)) rfl ?qc1 ?qc2 ?qc3 ?qc4 ?qc5 ?qc6 ?_)
  case qc1 => simp; omega
  case qc2 => exact A.out
  case qc3 => intro u hu; obtain ⟨x, _, rfl⟩ := List.mem_map.1 hu; rfl
  case qc4 => unfold maxLen; omega
  case qc5 => omega
  case qc6 => simp
  intro v' w1 hown hgrow hnil
  go_wp2
  go_ret
  have hnn : v' ≠ .slice none 0 0 := by
    first | exact hnil | (intro e; exact absurd (hnil.1 e).1 (by simp))
  have hB : Below w.heap.size w w1 := ((Below.refl _ w).alloc (Nat.le_refl _) _).grown hgrow (by simp) (by intro k hk; simp [Value.ownBlock] at hk; omega)
  have hown' : w1.ownsRow w.heap.size 5 1 v' n (Z.map (Value.int .u8)) := by simpa using hown
  obtain ⟨q1, ⟨q2, _⟩ | ⟨g', c', cur, rfl, q3⟩⟩ := hown'
  · exact absurd q2 hnn
  · exact ⟨g', c', rfl, ⟨q1, Or.inr ⟨g', c', cur, rfl, q3⟩⟩, hB⟩
/-- Bytes, cloned. -/
theorem clone_arg (a : Option Addr) (n c : Nat) (Z : List Int) (w : World) (hA : Arg w a n c Z) (hnil : a = none → n = 0) (hbig : n ≤ 140737488355328) :
    Calls Tryd.prog 99 #[.slice a n c] w fun e w' => ∃ v, e = .returned v ∧ UOwn w' w.heap.size v Z ∧ Below w.heap.size w w' := by
  have hz := hA.len
  match a with
  | none =>
    have hn := hnil rfl
    refine (clone_none n c w).mono ?_
    rintro e w' ⟨rfl, rfl⟩
    exact ⟨_, rfl, Or.inl ⟨rfl, List.eq_nil_of_length_eq_zero (by omega)⟩, Below.refl _ _⟩
  | some x =>
    refine (clone_some x n c Z w hz hbig ?_).mono ?_
    · rcases hA with ⟨h0, _⟩ | ⟨g, off, he, hr⟩
      · exact Or.inl h0
      · cases he
        exact Or.inr ⟨g, off, rfl, hr⟩
    · rintro e w' ⟨g', c', rfl, ho, hb⟩
      refine ⟨_, rfl, UOwn.of (by rw [hz]; exact ho), hb⟩
end Go.Proofs.YtgjolljhjagngafDoor
/-
  MESSAGES AS LINES: the developers' reader: body, rest. No claim by itself.
-/
namespace Go.Proofs.YtgjolljhjagngafDoor
open Go Go.RowKit Go.Shelf
set_option maxRecDepth 100000
theorem body_no (lb : Nat) (a : Option Addr) (len cap : Nat) (p bad n : Int) (w : World) (h : RM w lb a len cap p bad) (hb : bad ≠ 0) (hn : -4611686018427387904 ≤ n ∧ n ≤ 4611686018427387904) (hp : 0 ≤ p ∧ p ≤ 281474976710656) (hl : len ≤ ULim) :
    Calls Tryd.prog 60 #[rptr lb, .int .i64 n] w fun e w' => e = .returned (.slice none 0 0) ∧ Below w.heap.size w w' := by
  have c0 := h.c0
  have c1 := h.c1
  have c2 := h.c2
  rw [errW_ne hb] at c2
  unfold ULim at hl
  have HF : Vl (∀ m, Calls Tryd.prog 97 #[rptr lb, errW 8] (w.drewN m) fun x w' => x = .returned (.tuple #[]) ∧ (w.drewN m) = w') := fun m => nfail_no lb a len cap p bad 8 (w.drewN m) (h.kept ((n_drew w m).block _ h.lt)) hb
  have HC : Vl (∀ m, (w.drewN m).cell? ⟨lb, 2, none⟩ = some (.iface 58 (.int .i64 bad))) := fun m => by
    have := (h.kept ((n_drew w m).block _ h.lt)).c2
    rw [errW_ne hb] at this
    exact this
  rw [show errW 8 = .iface 58 (.int .i64 8) from errW_ne (by omega)] at HF
  unfold rptr at HF ⊢
  clear h
  by_cases hg : (len : Int) - p < n
  · go_enter Tryd.func60, Tryd.ntmps60
    go_wp2_with fail
    go_quiet (fail)
    go_wp2_with fail
    refine (HF.out nq).mono ?_
    rintro e w1 ⟨rfl, rfl⟩
    have d2 := HC.out nq
    go_wp2
    go_ret
    exact ⟨rfl, n_drew w nq⟩
  · have hg' : decide ((len : Int) - p < n) = false := decide_eq_false hg
    go_enter Tryd.func60, Tryd.ntmps60
    go_wp2_with fail
    go_quiet (fail)
    have d2 := HC.out nq
    go_wp2
    go_ret
    exact ⟨rfl, n_drew w nq⟩
/-- What body answers where nothing was wrong. -/
def BodyT (w0 wx w' : World) (lb : Nat) (a : Option Addr) (len cap : Nat) (Z : List Int) (q n : Nat) (e : Ending) : Prop :=
  (q + n ≤ len ∧ ∃ v, e = .returned v ∧ UOwn w' wx.heap.size v ((Z.drop q).take n) ∧ RS w0 w' lb a len cap Z (q + n) 0) ∨ (len < q + n ∧ e = .returned (.slice none 0 0) ∧ RS w0 w' lb a len cap Z q 8)
set_option maxHeartbeats 2000000 in
theorem body_go (w0 : World) (lb : Nat) (a : Option Addr) (len cap : Nat) (Z : List Int) (q n : Nat) (wx : World) (h : RS w0 wx lb a len cap Z q 0) (hnil : a = none → len = 0) (hn : n ≤ 140737488355328) :
    Calls Tryd.prog 60 #[rptr lb, .int .i64 (n : Int)] wx fun e w' => BodyT w0 wx w' lb a len cap Z q n e ∧ Tr lb wx w' := by
  have c0 := h.mem.c0
  have c1 := h.mem.c1
  have c2 := h.mem.c2
  rw [errW_0] at c2
  have hle := h.le
  have hm := h.most
  unfold ULim at hm
  have hcap := h.arg.cap
  by_cases hg : len < q + n
  · have hg' : (len : Int) - (q : Int) < (n : Int) := by omega
    have HF : Vl (∀ m, Calls Tryd.prog 97 #[rptr lb, .iface 58 (.int .i64 8)] (wx.drewN m) fun x w' => x = .returned (.tuple #[]) ∧ RS w0 w' lb a len cap Z q 8 ∧ Tr lb (wx.drewN m) w') := fun m => by simpa using fail_rs w0 lb a len cap Z q 0 8 (wx.drewN m) (h.on (n_drew wx m)) (by omega)
    unfold rptr at HF ⊢
    clear h
    go_enter Tryd.func60, Tryd.ntmps60
    go_wp2_with fail
    go_quiet (fail)
    go_wp2_with fail
    refine (HF.out nq).mono ?_
    rintro e w1 ⟨rfl, hs, ht⟩
    have d2 := hs.mem.c2
    rw [errW_ne (by omega)] at d2
    have HS := vl hs
    have HT : Vl (Tr lb wx w1) := (Tr.of (n_drew wx nq)).trans ht
    clear hs ht HF c0 c1 c2
    go_wp2
    go_ret
    exact ⟨Or.inr ⟨hg, rfl, HS.out⟩, HT.out⟩
  · have hg' : ¬ (len : Int) - (q : Int) < (n : Int) := by omega
    have hg2 : decide ((len : Int) - (q : Int) < (n : Int)) = false := decide_eq_false hg'
    have HS := vl h
    unfold rptr
    clear h
    go_enter Tryd.func60, Tryd.ntmps60
    go_wp2_with fail
    go_quiet (fail)
    have hS1 := HS.out.on (n_drew wx nq)
    have HT1 : Vl (Tr lb wx (wx.drewN nq)) := Tr.of (n_drew wx nq)
    obtain ⟨W1, hW1⟩ : ∃ W1, wx.drewN nq = W1 := ⟨_, rfl⟩
    rw [hW1] at hS1 HT1 ⊢
    clear hW1 c0 c1 c2
    have d1 := hS1.mem.c1
    have d2 := hS1.mem.c2
    rw [errW_0] at d2
    have f1 := hS1.mem.f1
    have hS2 := hS1.at (q := q + n) (by omega)
    have HT2 : Vl (Tr lb wx (W1.setCell ⟨lb, 1, none⟩ (.int .i64 ((q + n : Nat) : Int)))) := HT1.out.set
    rw [show ((q + n : Nat) : Int) = (q : Int) + n by omega] at hS2 HT2
    have HS2 := vl hS2
    have e0 := hS2.mem.c0
    have e1 := hS2.mem.c1
    rw [show ((q + n : Nat) : Int) = (q : Int) + n by omega] at e1
    clear hS1 HT1 hS2
    go_wp2_with fail
    obtain ⟨W2, hW2⟩ : ∃ W2, W1.setCell ⟨lb, 1, none⟩ (.int .i64 ((q : Int) + n)) = W2 := ⟨_, rfl⟩
    rw [hW2] at HS2 HT2 e0 e1 ⊢
    clear hW2 d1 d2 f1
    have hA2 := (HS2.out.on (Below.refl _ W2).drew).now.part q n (by omega)
    have HCL := vl (clone_arg (cutA a cap q) n (cap - q) ((Z.drop q).take n) W2.drew hA2 (fun hx => by
      unfold cutA at hx
      have : a = none := by
        split at hx
        · exact hx
        · cases a with
          | none => rfl
          | some x => cases hx
      have := hnil this
      omega) hn)
    have hct := run_cut a len cap q (q + n) (by omega) (by omega)
    rw [show q + n - q = n by omega, show ((q + n : Nat) : Int) = (q : Int) + n by omega] at hct
    have hsub : IntKind.i64.wrap ((q : Int) + (n : Int) - (n : Int)) = (q : Int) := by rw [IntKind.wrap_i64]; omega
    have hsub2 : IntKind.i64.wrap (q : Int) = (q : Int) := by rw [IntKind.wrap_i64]; omega
    have hlt : lb < W2.heap.size := HS2.out.lt
    have HZ : Vl (∀ w1, Below W2.drew.heap.size W2.drew w1 → w1.cell? ⟨lb, 0, none⟩ = some (.slice a len cap) ∧ w1.cell? ⟨lb, 1, none⟩ = some (.int .i64 ((q : Int) + n))) := fun w1 hb => ⟨(hb.cell (p := ⟨lb, 0, none⟩) hlt).trans e0, (hb.cell (p := ⟨lb, 1, none⟩) hlt).trans e1⟩
    generalize cutA a cap q = ca at *
    clear hA2
    go_region_held3 (fun w1 => w1.cell? ⟨lb, 0, none⟩ = some (.slice a len cap) ∧ w1.cell? ⟨lb, 1, none⟩ = some (.int .i64 ((q : Int) + n)))
      (first | go_keep | (exact HZ.out _ hb))
      ((go_at_call 99; refine HCL.out.mono ?_; rintro e w3 ⟨v, rfl, ho, hb⟩))
    have HS3 := vl ((HS2.out.on ((Below.refl _ W2).drew.trans hb)))
    have HT3 : Vl (Tr lb wx w3) := HT2.out.on ((Below.refl _ W2).drew.trans hb)
    have HO := vl (ho.mono (b := wx.heap.size) (HT2.out.size))
    clear HCL HZ hb ho hct e0 e1 hsub hsub2 hg2 hg'
    go_wp2
    go_ret
    exact ⟨Or.inl ⟨by omega, v, rfl, HO.out, HS3.out⟩, HT3.out⟩
end Go.Proofs.YtgjolljhjagngafDoor
/-
  CONTRACT of the Go function errors.Is at api.Errno. No claim by itself.
-/
namespace Go.Proofs.YtgjolljhjagngafDoor
open Go Go.RowKit Go.Extern.Stop Go.Stop Go.Extern
set_option maxRecDepth 100000
theorem isTypeOf (v : Value) (w : World) : (Extern.ReflectliteType.typeOf #[.iface 58 v]).run Tryd.prog w = .ok (.iface 148 (.agg #[.pointer (some ⟨5, 58, none⟩)])) w := by kernel_rfl
theorem callComp (w : World) : (callFunc 155 #[.agg #[.pointer (some ⟨5, 58, none⟩)]]).run Tryd.prog w = .ok (.value (.bool true)) w := by
  rw [@run_callFunc_extern Tryd.prog 155 _ (Extern.ReflectliteType.method fun t => do Go.Extern.Rtype.noPackHeld "Comparable" t; pure (.bool (← typeInfo t).comparable)) Tryd.func155 (by kernel_rfl) (by kernel_rfl) (by kernel_rfl) (by kernel_rfl)]
  kernel_rfl
theorem isMethodComparable (v : Value) (w : World) : (Go.method 303 148 v "Comparable").run Tryd.prog w = .ok (155, v) w := by kernel_rfl
theorem noIsE (v : Value) (xT : TypeId) (w : World) : (Instr.typeAssert (.iface 58 v) xT 164 true).run Tryd.prog w = .ok (.tuple #[.nilIface, .bool false]) w := run_typeAssert_lacksB Tryd.underlying164 (by kernel_rfl) (by kernel_rfl) v xT w
theorem noUnwrapE (v : Value) (xT : TypeId) (w : World) : (Instr.typeAssert (.iface 58 v) xT 155 true).run Tryd.prog w = .ok (.tuple #[.nilIface, .bool false]) w := run_typeAssert_lacksB Tryd.underlying155 (by kernel_rfl) (by kernel_rfl) v xT w
theorem noUnwrapsE (v : Value) (xT : TypeId) (w : World) : (Instr.typeAssert (.iface 58 v) xT 156 true).run Tryd.prog w = .ok (.tuple #[.nilIface, .bool false]) w := run_typeAssert_lacksB Tryd.underlying156 (by kernel_rfl) (by kernel_rfl) v xT w
theorem eComp : (Tryd.prog.info? 58).map (·.comparable) = some true := by kernel_rfl
theorem eqIn_errno (d : Nat) (e : Int) (w : World) : (Op.equalIn (d + 2) 24 (.iface 58 (.int .i64 e)) (.iface 58 (.int .i64 8))).run Tryd.prog w = .ok (decide (e = 8)) w := by
  obtain ⟨i, hi, hc⟩ := Option.map_eq_some_iff.1 eComp
  simp [Op.equalIn, run_underlying Tryd.underlying24, run_underlying Tryd.underlying58, typeInfo, hi, hc]
  rw [Bool.eq_iff_iff]
  simp
theorem eql_errno (e : Int) (w : World) : (binOp .eql 24 (.iface 58 (.int .i64 e)) (.iface 58 (.int .i64 8))).run Tryd.prog w = .ok (.bool (decide (e = 8))) w := by
  simp only [binOp]
  simp [Op.equal, Op.maxDepth, eqIn_errno 9998]
theorem nis_any (e : Int) (w : World) : Calls Tryd.prog 100 #[errW e, .iface 58 (.int .i64 8)] w fun x w' => x = .returned (.bool (decide (e = 8))) ∧ w = w' := by
  by_cases h0 : e = 0
  · subst h0
    rw [errW_0]
    have hn := run_eql_iface_nil_left (P := Tryd.prog) w 58 (.int .i64 8) Tryd.underlying24
    go_enter Tryd.func100, Tryd.ntmps100
    go_wp2
    go_ret
    exact ⟨rfl, rfl⟩
  · rw [errW_ne h0]
    have h8 := @run_callFunc_extern Tryd.prog 112 _ Extern.ReflectliteType.typeOf Tryd.func112 (by kernel_rfl) (by kernel_rfl) (by kernel_rfl) (by kernel_rfl)
    have tT := isTypeOf
    have cT := callComp
    have mR := isMethodComparable
    have nE := noIsE
    have uE := noUnwrapE
    have vE := noUnwrapsE
    have heq := eql_errno e
    by_cases h : e = 8
    · rw [decide_eq_true h]
      rw [decide_eq_true h] at heq
      clear h h0
      go_enter Tryd.func100, Tryd.ntmps100
      go_wp2
      refine wp_loop_rounds 1 ?_
      rw [rounds_succ]
      go_wp2
      go_ret
      exact ⟨rfl, rfl⟩
    · rw [decide_eq_false h]
      rw [decide_eq_false h] at heq
      clear h h0
      go_enter Tryd.func100, Tryd.ntmps100
      go_wp2
      refine wp_loop_rounds 1 ?_
      rw [rounds_succ]
      go_wp2
      go_ret
      exact ⟨rfl, rfl⟩
end Go.Proofs.YtgjolljhjagngafDoor
/-
  MESSAGES AS LINES: the developers' reader: fault, rest, pieces. No claim by itself.
-/
namespace Go.Proofs.YtgjolljhjagngafDoor
open Go Go.RowKit Go.Shelf
set_option maxRecDepth 100000
theorem fault_any (lb : Nat) (a : Option Addr) (len cap : Nat) (p bad : Int) (w : World) (h : RM w lb a len cap p bad) :
    Calls Tryd.prog 61 #[rptr lb] w fun e w' => e = .returned (errW (if bad = 8 ∧ 20000 < len then 4 else bad)) ∧ w = w' := by
  have c0 := h.c0
  have c2 := h.c2
  have HN := vl (nis_any bad w)
  unfold rptr
  by_cases h1 : bad = 8
  · subst h1
    rw [decide_eq_true rfl] at HN
    rw [errW_ne (by omega)] at c2 HN
    by_cases h2 : 20000 < len
    · rw [if_pos ⟨rfl, h2⟩, errW_ne (by omega)]
      have h3 : (20000 : Int) < (len : Int) := by omega
      clear h
      go_enter Tryd.func61, Tryd.ntmps61
      go_wp2_with (go_at_call 100; refine HN.out.mono ?_; rintro e w' ⟨rfl, rfl⟩)
      go_ret
      exact ⟨rfl, rfl⟩
    · rw [if_neg (fun h => h2 h.2), errW_ne (by omega)]
      have h3 : ¬ (20000 : Int) < (len : Int) := by omega
      clear h
      go_enter Tryd.func61, Tryd.ntmps61
      go_wp2_with (go_at_call 100; refine HN.out.mono ?_; rintro e w' ⟨rfl, rfl⟩)
      go_ret
      exact ⟨rfl, rfl⟩
  · rw [decide_eq_false h1] at HN
    rw [if_neg (fun h => h1 h.1)]
    clear h1 h
    generalize errW bad = v at *
    go_enter Tryd.func61, Tryd.ntmps61
    go_wp2_with (go_at_call 100; refine HN.out.mono ?_; rintro e w' ⟨rfl, rfl⟩)
    go_ret
    exact ⟨rfl, rfl⟩
section
variable {β : Type} [Inhabited β] {G : Int × β × List Int} {w0 wx : World} {lb : Nat} {a : Option Addr} {len cap : Nat} {Z : List Int}
/-- What body answers, with a fault or without. -/
theorem body_st {f : List Int → Pz β} (n : Int) (hn : -100000 ≤ n ∧ n ≤ 140737488351232) (hnil : a = none → len = 0) (h : Dst G (bindP (bodyP n.toNat) f) w0 wx lb a len cap Z) (hpos : 0 ≤ n ∨ ∃ q bad, RS w0 wx lb a len cap Z q bad ∧ bad ≠ 0) :
    Calls Tryd.prog 60 #[rptr lb, .int .i64 n] wx fun e w' => ∃ v B, e = .returned v ∧ UOwn w' wx.heap.size v B ∧ Dst G (f B) w0 w' lb a len cap Z ∧ Tr lb wx w' ∧ (B.length ≤ 140737488351232 ∧ ∀ x ∈ B, x ∈ Z) := by
  obtain ⟨q, bad, h1, hc⟩ := h
  have hle := h1.le
  have hm := h1.most
  have hz := h1.zlen
  rcases hc with ⟨rfl, h2⟩ | ⟨h2, h3⟩
  · have hp : 0 ≤ n := by
      rcases hpos with h | ⟨q', bad', h3, h4⟩
      · exact h
      · exfalso
        have e1 := h1.mem.c2
        have e2 := h3.mem.c2
        rw [e1, errW_0, errW_ne h4] at e2
        cases e2
    obtain ⟨k, rfl⟩ : ∃ k : Nat, n = k := ⟨n.toNat, by omega⟩
    rw [Int.toNat_natCast] at h2
    refine (body_go w0 lb a len cap Z q k wx h1 hnil (by omega)).mono ?_
    rintro e w' ⟨⟨hq, v, rfl, ho, hs⟩ | ⟨hq, rfl, hs⟩, ht⟩
    · have e1 : bodyP k (Z.drop q) = (0, (Z.drop q).take k, Z.drop (q + k)) := by
        unfold bodyP
        rw [if_neg (by simp; omega), List.drop_drop]
      refine ⟨v, _, rfl, ho, ⟨q + k, 0, hs, Or.inl ⟨rfl, by rw [h2, bindP_ok e1]⟩⟩, ht, ⟨by simp; omega, fun x hx => List.mem_of_mem_drop (List.mem_of_mem_take hx)⟩⟩
    · have e1 : (bodyP k (Z.drop q)).1 = 8 := by
        unfold bodyP
        rw [if_pos (by simp; omega)]
      exact ⟨_, [], rfl, Or.inl ⟨rfl, rfl⟩, ⟨q, 8, hs, Or.inr ⟨by omega, by rw [h2, bindP_no (by rw [e1]; omega), e1]⟩⟩, ht, ⟨by simp, fun x hx => by cases hx⟩⟩
  · unfold ULim at hm
    refine (body_no lb a len cap q bad n wx h1.mem h2 (by omega) (by omega) h1.most).mono ?_
    rintro e w' ⟨rfl, hb⟩
    exact ⟨_, [], rfl, Or.inl ⟨rfl, rfl⟩, ⟨q, bad, h1.on hb, Or.inr ⟨h2, h3⟩⟩, Tr.of hb, ⟨by simp, fun x hx => by cases hx⟩⟩
set_option maxHeartbeats 2000000 in
theorem rest_st {f : List Int → Pz β} (closed : Bool) (hcl : closed = true → len ≤ 140737488351232) (hnil : a = none → len = 0) (h : Dst G (bindP (restP closed) f) w0 wx lb a len cap Z) :
    Calls Tryd.prog 66 #[rptr lb, .bool closed] wx fun e w' => ∃ v B, e = .returned v ∧ UOwn w' wx.heap.size v B ∧ Dst G (f B) w0 w' lb a len cap Z ∧ Tr lb wx w' ∧ (B.length ≤ 140737488351232 ∧ ∀ x ∈ B, x ∈ Z) := by
  obtain ⟨q, bad, h1, hc⟩ := h
  have hle := h1.le
  have hm := h1.most
  have hz := h1.zlen
  unfold ULim at hm
  have hlq : (len : Int) - (q : Int) = ((len - q : Nat) : Int) := by omega
  -- behind the test
  have tail : ∀ (bad' : Int) (W : World), RS w0 W lb a len cap Z q bad' → Tr lb wx W → ((bad' = 0 ∧ closed = true ∧ G = bindP (restP closed) f (Z.drop q)) ∨ (bad' ≠ 0 ∧ G.1 = bad')) →
      Calls Tryd.prog 60 #[rptr lb, .int .i64 ((len : Int) - (q : Int))] W.drew fun e w' => ∃ v B, e = .returned v ∧ UOwn w' wx.heap.size v B ∧ Dst G (f B) w0 w' lb a len cap Z ∧ Tr lb wx w' ∧ (B.length ≤ 140737488351232 ∧ ∀ x ∈ B, x ∈ Z) := by
    intro bad' W hS hT hcase
    have hS1 := hS.on (Below.refl _ W).drew
    have hT1 : Tr lb wx W.drew := hT.on (Below.refl _ W).drew
    rw [hlq]
    rcases hcase with ⟨rfl, hx, hg⟩ | ⟨hx, hg⟩
    · have hcl2 := hcl hx
      refine (body_go w0 lb a len cap Z q (len - q) W.drew hS1 hnil (by omega)).mono ?_
      rintro e w' ⟨⟨hq, v, rfl, ho, hs⟩ | ⟨hq, rfl, hs⟩, ht⟩
      · have e1 : restP closed (Z.drop q) = (0, Z.drop q, []) := by
          unfold restP
          rw [if_pos hx]
        rw [List.take_of_length_le (by rw [List.length_drop, hz]; omega)] at ho
        rw [show q + (len - q) = len by omega] at hs
        refine ⟨v, _, rfl, ho.mono hT1.size, ⟨len, 0, hs, Or.inl ⟨rfl, ?_⟩⟩, hT1.trans ht, ⟨by simp; omega, fun x hx => List.mem_of_mem_drop hx⟩⟩
        rw [hg, bindP_ok e1, List.drop_of_length_le (i := len) (by omega)]
      · omega
    · refine (body_no lb a len cap q bad' _ W.drew hS1.mem hx (by omega) (by omega) hS.most).mono ?_
      rintro e w' ⟨rfl, hb⟩
      exact ⟨_, [], rfl, Or.inl ⟨rfl, rfl⟩, ⟨q, bad', hS1.on hb, Or.inr ⟨hx, hg⟩⟩, hT1.on hb, ⟨by simp, fun x hx => by cases hx⟩⟩
  have TAIL := vl tail
  have H1 := vl h1
  have HC := vl hc
  clear tail
  cases closed with
  | true =>
    have HB := vl (TAIL.out bad wx h1 (Tr.refl _ _) (by
      rcases hc with ⟨e1, e2⟩ | ⟨e1, e2⟩
      · exact Or.inl ⟨e1, rfl, e2⟩
      · exact Or.inr ⟨e1, e2⟩))
    have c0 := h1.mem.c0
    have c1 := h1.mem.c1
    have hlt := h1.lt
    have HZ : Vl (∀ w1, Below wx.drew.heap.size wx.drew w1 → w1.cell? ⟨lb, 0, none⟩ = some (.slice a len cap) ∧ w1.cell? ⟨lb, 1, none⟩ = some (.int .i64 (q : Int))) := fun w1 hb => ⟨(hb.cell (p := ⟨lb, 0, none⟩) hlt).trans c0, (hb.cell (p := ⟨lb, 1, none⟩) hlt).trans c1⟩
    have hsub : IntKind.i64.wrap ((len : Int) - (q : Int)) = (len : Int) - (q : Int) := by rw [IntKind.wrap_i64]; omega
    unfold rptr at HB ⊢
    clear h1 hc hcl hlq TAIL HC
    go_enter Tryd.func66, Tryd.ntmps66
    go_wp2_with fail
    go_region_with ((go_at_call 60; refine HB.out.mono ?_; rintro e w3 ⟨v, B, rfl, ho, hd, ht, hl⟩))
    all_goals
      have HO := vl ho
      have HD := vl hd
      have HT := vl ht
      have HL := vl hl
      clear ho hd ht hl HB
      go_simp
      go_wp2
      go_ret
      exact ⟨v, B, rfl, HO.out, HD.out, HT.out, HL.out⟩
  | false =>
    have HF := vl (fail_rs w0 lb a len cap Z q bad 8 wx h1 (by omega))
    unfold rptr at HF ⊢
    clear hc hcl h1
    go_enter Tryd.func66, Tryd.ntmps66
    go_wp2_with fail
    refine HF.out.mono ?_
    rintro e w1 ⟨rfl, hs1, ht1⟩
    obtain ⟨bad1, hb1⟩ : ∃ b1, (if bad = 0 then 8 else bad) = b1 := ⟨_, rfl⟩
    rw [hb1] at hs1
    have HB := vl (TAIL.out bad1 w1 hs1 ht1 (by
      right
      rw [← hb1]
      rcases HC.out with ⟨e1, e2⟩ | ⟨e1, e2⟩
      · rw [if_pos e1]
        refine ⟨by omega, ?_⟩
        rw [e2]
        rfl
      · rw [if_neg e1]
        exact ⟨e1, e2⟩))
    have c0 := hs1.mem.c0
    have c1 := hs1.mem.c1
    have hsub : IntKind.i64.wrap ((len : Int) - (q : Int)) = (len : Int) - (q : Int) := by rw [IntKind.wrap_i64]; omega
    unfold rptr at HB
    clear hs1 ht1 hb1 HF TAIL HC hlq
    go_wp2_with fail
    go_region_with ((go_at_call 60; refine HB.out.mono ?_; rintro e w3 ⟨v, B, rfl, ho, hd, ht, hl⟩))
    all_goals
      have HO := vl ho
      have HD := vl hd
      have HT := vl ht
      have HL := vl hl
      clear ho hd ht hl HB
      go_simp
      go_wp2
      go_ret
      exact ⟨v, B, rfl, HO.out, HD.out, HT.out, HL.out⟩
end
end Go.Proofs.YtgjolljhjagngafDoor
/-
  MESSAGES AS LINES: the developers' reader: fields. No claim by itself.
-/
namespace Go.Proofs.YtgjolljhjagngafDoor
open Go Go.RowKit Go.Shelf
set_option maxRecDepth 100000
theorem n_infoF : (Tryd.prog.info? 114).map (fun i => (i.zero, i.size, i.bytes)) = some (some (.agg #[.string ⟨#[]⟩, .string ⟨#[]⟩]), 2, 32) := by kernel_rfl
abbrev FOwn (w : World) (base : Nat) (v : Value) (FL : List (ByteArray × ByteArray)) : Prop := w.ownsRow base 114 2 v FL.length (fcells FL)
theorem fown_tn {S : Nat → Prop} {base : Nat} {w w' : World} {v : Value} {FL : List (ByteArray × ByteArray)} (h : FOwn w base v FL) (hl : ∀ k, S k → k < base) (ht : Tn S w w') : FOwn w' base v FL := by
  obtain ⟨h1, ⟨rfl, h0⟩ | ⟨g, cap, cur, rfl, hb, hc, hr⟩⟩ := id h
  · exact ⟨h1, Or.inl ⟨rfl, h0⟩⟩
  · exact ⟨h1, Or.inr ⟨g, cap, cur, rfl, hb, (ht.block g (Array.getElem?_eq_some_iff.1 hc).1 (fun e => by have := hl g e; omega)).trans hc, hr⟩⟩
theorem fown_shape {w : World} {base : Nat} {v : Value} {FL : List (ByteArray × ByteArray)} (h : FOwn w base v FL) : ∃ sa sc, v = .slice sa FL.length sc := by
  obtain ⟨_, ⟨rfl, h0⟩ | ⟨g, cap, cur, rfl, _⟩⟩ := id h
  · exact ⟨none, 0, by rw [h0]⟩
  · exact ⟨_, cap, rfl⟩
def fsmall (FL : List (ByteArray × ByteArray)) : Prop := ∀ f ∈ FL, f.1.size ≤ 400 ∧ f.2.size ≤ 400
theorem fsmall_snoc {FL : List (ByteArray × ByteArray)} (h : fsmall FL) {n v : ByteArray} (h1 : n.size ≤ 400) (h2 : v.size ≤ 400) : fsmall (FL ++ [(n, v)]) := fun f hf => by
  rcases List.mem_append.1 hf with k | k
  · exact h f k
  · rw [List.mem_singleton.1 k]; exact ⟨h1, h2⟩
theorem fds_snoc (FL : List (ByteArray × ByteArray)) (n v : ByteArray) : fdsOf (FL ++ [(n, v)]) = fdsOf FL ++ [(unums n, unums v)] := by simp [fdsOf]
theorem tn_tr {S : Nat → Prop} {lb : Nat} {w w' : World} (hS : S lb) (h : Tr lb w w') : Tn S w w' := ⟨h.os, h.tape, h.output, h.size, fun k hk hn => h.block k hk (fun e => hn (by rw [e]; exact hS))⟩
theorem tn_trans {S : Nat → Prop} {a b c : World} (h : Tn S a b) (k : Tn S b c) : Tn S a c := ⟨k.os.trans h.os, k.tape.trans h.tape, k.output.trans h.output, Nat.le_trans h.size k.size, fun i hi hs => (k.block i (Nat.lt_of_lt_of_le hi h.size) hs).trans (h.block i hi hs)⟩
theorem tn_grow {S : Nat → Prop} {w w' w2 : World} {row : Option Nat} (h : Tn S w w') (hg : w'.grownBy w2 row) (hr : ∀ k, row = some k → w.heap.size ≤ k) : Tn S w w2 :=
  ⟨hg.os.trans h.os, hg.tape.trans h.tape, hg.output.trans h.output, Nat.le_trans h.size hg.size, fun k hk hn => (hg.block k (Nat.lt_of_lt_of_le hk h.size) (fun e => by have := hr k e.symm; omega)).trans (h.block k hk hn)⟩
theorem RS.grown {w0 w w' : World} {lb : Nat} {a : Option Addr} {len cap : Nat} {Z : List Int} {p : Nat} {bad : Int} {row : Option Nat} (h : RS w0 w lb a len cap Z p bad) (hg : w.grownBy w' row) (hr : ∀ k, row = some k → w0.heap.size ≤ k ∧ k ≠ lb) : RS w0 w' lb a len cap Z p bad :=
  ⟨u_below_grown h.below hg h.below.size (fun k hk => (hr k hk).1), h.base, h.arg, h.mem.kept (hg.block lb h.lt (fun e => (hr lb e.symm).2 rfl)), h.le, h.most⟩
/-- What is asked of the function that reads the last line. -/
structure LastSaid (β : Type) [Inhabited β] (w0 : World) (lb : Nat) (a : Option Addr) (len cap : Nat) (Z : List Int) (least : Int) (coded : Bool) (lg : Nat) (lbs : Array Value) (Cap : Int × Bool → World → Prop) (S : Nat → Prop) : Prop where
  enters : ∀ args w, (callFunc lg args).run Tryd.prog w = .ok (.enter lg args) w
  no : ∀ (n : ByteArray) (W : World), Cap (-1, false) W → lastP least coded (unums n) = none → Calls Tryd.prog lg (#[.string n] ++ lbs) W fun e w' => e = .returned (.bool false) ∧ Below W.heap.size W w'
  yes : ∀ (G : Int × β × List Int) (f : Int × Bool → Pz β) (n : ByteArray) (p : Pz (Int × Bool)) (W : World), lastP least coded (unums n) = some p → Cap (-1, false) W → Dst G (bindP p f) w0 W lb a len cap Z →
    Calls Tryd.prog lg (#[.string n] ++ lbs) W fun e w' => e = .returned (.bool true) ∧ ∃ v, Dst G (f v) w0 w' lb a len cap Z ∧ Cap v w' ∧ Tn S W w'
  keepR : ∀ v W W', Cap v W → Tr lb W W' → Cap v W'
  keepG : ∀ W W', Cap (-1, false) W → (∀ k, S k → W'.heap[k]? = W.heap[k]?) → Cap (-1, false) W'
section
variable {β : Type} [Inhabited β]
/-- What is read behind a name. -/
def nextK (least : Int) (coded : Bool) (f : Hd → Pz β) (k : Nat) (acc : List Fd) (n : List Int) : Pz β :=
  match k with
  | 0 => failP 4
  | k + 1 => bindP (mtsP [32]) fun _ => bindP (valP 0) fun v => bindP (headP least coded k (acc ++ [(n, v)])) f
def nameK (least : Int) (coded : Bool) (f : Hd → Pz β) (k : Nat) (acc : List Fd) (n : List Int) : Pz β :=
  match lastP least coded n with
  | some p => bindP p fun v => bindP (mtsP [13, 10]) fun _ => f (acc, v.1, v.2)
  | none => if n = hostN ∨ n = lengthN ∨ n = codingN then failP 2 else nextK least coded f k acc n
theorem head_is (least : Int) (coded : Bool) (f : Hd → Pz β) (k : Nat) (acc : List Fd) : bindP (headP least coded k acc) f = lookP fun c => if c = 13 then bindP (mtsP [13, 10]) fun _ => f (acc, -1, false) else bindP (txtP 58 isSmall 1) (nameK least coded f k acc) := by
  have go : ∀ next : List Int → Pz Hd, (∀ n, bindP (next n) f = nextK least coded f k acc n) → bindP (headB least coded acc next) f = lookP fun c => if c = 13 then bindP (mtsP [13, 10]) fun _ => f (acc, -1, false) else bindP (txtP 58 isSmall 1) (nameK least coded f k acc) := by
    intro next hn
    unfold headB
    rw [bind_look]
    congr 1
    funext c
    split
    · rw [bind_assoc]
      congr 1
    · rw [bind_assoc]
      congr 1
      funext n
      unfold nameK
      cases hl : lastP least coded n with
      | some p =>
        show bindP (bindP p _) f = bindP p _
        rw [bind_assoc]
        refine congrArg (bindP p) (funext fun v => ?_)
        rw [bind_assoc]
        congr 1
      | none =>
        show bindP (if n = hostN ∨ n = lengthN ∨ n = codingN then failP 2 else next n) f = if n = hostN ∨ n = lengthN ∨ n = codingN then failP 2 else nextK least coded f k acc n
        split
        · funext b
          simp [bindP, failP]
        · exact hn n
  cases k with
  | zero =>
    unfold headP
    exact go _ (fun n => by funext b; simp [bindP, failP, nextK])
  | succ k =>
    unfold headP
    exact go _ (fun n => by unfold nextK; rw [bind_assoc]; congr 1; funext _; rw [bind_assoc])
theorem head_crlf {least : Int} {coded : Bool} {f : Hd → Pz β} {k : Nat} {acc : List Fd} {b : List Int} (h : b ≠ [] ∧ b.headD 0 = 13) : bindP (headP least coded k acc) f b = bindP (mtsP [13, 10]) (fun _ => f (acc, -1, false)) b := by
  rw [head_is]
  match b, h with
  | c :: r, h =>
    have hc : c = 13 := by simpa using h.2
    rw [lookP, if_pos hc]
theorem head_name {least : Int} {coded : Bool} {f : Hd → Pz β} {k : Nat} {acc : List Fd} {b : List Int} (h : b = [] ∨ b.headD 0 ≠ 13) : bindP (headP least coded k acc) f b = bindP (txtP 58 isSmall 1) (nameK least coded f k acc) b := by
  rw [head_is]
  match b with
  | [] => rfl
  | c :: r =>
    have hc : c ≠ 13 := by simpa using h
    rw [lookP, if_neg hc]
variable {G : Int × β × List Int} {w0 wx : World} {lb : Nat} {a : Option Addr} {len cap : Nat} {Z : List Int}
/-- Behind the loop. -/
def FdX (G : Int × β × List Int) (f : Hd → Pz β) (w0 wx : World) (lb : Nat) (a : Option Addr) (len cap : Nat) (Z : List Int) (Cap : Int × Bool → World → Prop) (S : Nat → Prop) (x : Value) (wc : World) : Prop :=
  ∃ (FL : List (ByteArray × ByteArray)) (v : Int × Bool), FOwn wc wx.heap.size x FL ∧ fsmall FL ∧ FL.length ≤ 41 ∧ Dst G (bindP (mtsP [13, 10]) fun _ => f (fdsOf FL, v.1, v.2)) w0 wc lb a len cap Z ∧ Cap v wc ∧ Tn S wx wc
/-- In the loop. -/
def FdI (G : Int × β × List Int) (least : Int) (coded : Bool) (f : Hd → Pz β) (Z : List Int) (FL : List (ByteArray × ByteArray)) (q : Nat) (bad : Int) : Prop :=
  (bad = 0 ∧ FL.length ≤ 40 ∧ G = bindP (headP least coded (40 - FL.length) (fdsOf FL)) f (Z.drop q)) ∨ (bad ≠ 0 ∧ G.1 = bad)
/-- What is kept in the loop. -/
def FdP (wx : World) (Cap : Int × Bool → World → Prop) (S : Nat → Prop) (x : Value) (FL : List (ByteArray × ByteArray)) (w : World) : Prop := FOwn w wx.heap.size x FL ∧ Cap (-1, false) w ∧ Tn S wx w
theorem FdP.tr {Cap : Int × Bool → World → Prop} {S : Nat → Prop} {x : Value} {FL : List (ByteArray × ByteArray)} {w w' : World} {least : Int} {coded : Bool} {lg : Nat} {lbs : Array Value} (h : FdP wx Cap S x FL w) (HL : LastSaid β w0 lb a len cap Z least coded lg lbs Cap S) (hSl : S lb) (hS : ∀ k, S k → w0.heap.size ≤ k ∧ k < wx.heap.size) (ht : Tr lb w w') : FdP wx Cap S x FL w' :=
  ⟨fown_tn h.1 (fun k hk => (hS k hk).2) (tn_tr hSl ht), HL.keepR _ _ _ h.2.1 ht, tn_trans h.2.2 (tn_tr hSl ht)⟩
/-- What is read behind a good name. -/
def goK (least : Int) (coded : Bool) (f : Hd → Pz β) (m : Nat) (acc : List Fd) (n : List Int) : Pz β := bindP (mtsP [32]) fun _ => bindP (valP 0) fun v => if m = 40 then retP default else bindP (headP least coded (40 - m - 1) (acc ++ [(n, v)])) f
set_option maxHeartbeats 8000000 in
theorem fields_st {f : Hd → Pz β} (least : Int) (coded : Bool) (lg : Nat) (lbs : Array Value) (Cap : Int × Bool → World → Prop) (S : Nat → Prop) (HLS : LastSaid β w0 lb a len cap Z least coded lg lbs Cap S) (h : Dst G (bindP (headP least coded 40 []) f) w0 wx lb a len cap Z)
    (hc : Cap (-1, false) wx) (hSl : S lb) (hS : ∀ k, S k → w0.heap.size ≤ k ∧ k < wx.heap.size) :
    Calls Tryd.prog 57 #[rptr lb, .func (.func lg) #[] lbs] wx fun e w' => ∃ (x : Value) (FL : List (ByteArray × ByteArray)) (v : Int × Bool), e = .returned x ∧ FOwn w' wx.heap.size x FL ∧ fsmall FL ∧ FL.length ≤ 41 ∧ Dst G (f (fdsOf FL, v.1, v.2)) w0 w' lb a len cap Z ∧ Cap v w' ∧ Tn S wx w' := by
  obtain ⟨i0, hi, hz0, hz1, hz2⟩ := info_parts n_infoF
  have HI := vl hi
  have HZ : Vl (i0.zero = some (.agg #[.string ⟨#[]⟩, .string ⟨#[]⟩]) ∧ i0.size = 2 ∧ i0.bytes = 32) := ⟨hz0, hz1, hz2⟩
  clear hi hz0 hz1 hz2
  obtain ⟨q0, bad0, hR, hG⟩ := h
  have HR := vl hR
  have hlt := hR.lt
  have HZL := vl hR.zlen
  have hmost := hR.most
  unfold ULim at hmost
  have HI0 : Vl (FdI G least coded f Z [] q0 bad0) := by
    rcases hG with ⟨h1, h2⟩ | h1
    · exact Or.inl ⟨h1, by simp, h2⟩
    · exact Or.inr h1
  have HC0 := vl hc
  have HL := vl HLS
  have HSS := vl hS
  have HSL := vl hSl
  have eg := HLS.enters
  clear hR hG hc HLS hS hSl
  unfold rptr
  go_enter Tryd.func57, Tryd.ntmps57
  go_upto_block 0 with fail
  go_cut [4] (fun x wc => Vl (FdX G f w0 wx lb a len cap Z Cap S x wc))
  case first =>
    as_aux_lemma =>
      go_wp2_with fail
      go_loopg [4] 43 (fun gf x wr => ∃ (FL : List (ByteArray × ByteArray)) (q : Nat) (bad : Int) (sa : Option Addr) (sc : Nat), x = .slice sa FL.length sc ∧ Vl (FdP wx Cap S x FL wr) ∧ Vl (fsmall FL) ∧ FL.length ≤ 41 ∧ Vl (RS w0 wr lb a len cap Z q bad) ∧ Vl (FdI G least coded f Z FL q bad) ∧ Vl (42 ≤ FL.length + gf))
      case atStart => exact ⟨[], q0, bad0, none, 0, rfl, ⟨World.ownsRow_nil _ _ _ _, HC0.out, Tn.refl _ _⟩, (fun f hf => by cases hf), by simp, HR.out, HI0.out, by simp [Vl]⟩
      case round =>
        obtain ⟨FL, q, bad, sa, sc, rfl, HP, HF, hF, HS, HI, HGK⟩ := hrel
        clear HR HI0 HC0
        have c2 := HS.out.mem.c2
        have hle := HS.out.le
        go_upto_region 1 with fail
        go_cut [16] (fun b wc => ∃ bb : Bool, b = .bool bb ∧ Vl (Below wr.heap.size wr wc) ∧ Vl (SeeT Z len q bad 13 bb))
        case first =>
          as_aux_lemma =>
            by_cases hbad : bad = 0
            · subst hbad
              rw [errW_0] at c2
              have HSE := vl (nsees_any lb a len cap Z q 0 13 wr HS.out.mem HS.out.now hle HS.out.most)
              unfold rptr at HSE
              obtain ⟨sb, hsb⟩ : ∃ sb, seesL Z q 13 = sb := ⟨_, rfl⟩
              rw [hsb] at HSE
              have HSB := vl hsb
              clear hsb
              go_wp2_with fail
              refine HSE.out.mono ?_
              rintro e w1 ⟨rfl, hb1⟩
              cases sb with
              | true =>
                have hx := HSB.out
                unfold seesL at hx
                rw [Bool.and_eq_true, decide_eq_true_eq, decide_eq_true_eq, HZL.out] at hx
                have HX := vl hx
                clear hx
                go_wp2
                go_meet
                exact ⟨false, rfl, hb1, Or.inr ⟨rfl, Or.inr HX.out⟩⟩
              | false =>
                have hx : q = len ∨ Z.getD q 0 ≠ 13 := by
                  rcases Nat.lt_or_ge q len with h | h
                  · right
                    intro e
                    have hs := HSB.out
                    unfold seesL at hs
                    rw [decide_eq_true e, decide_eq_true (by rw [HZL.out]; exact h)] at hs
                    cases hs
                  · left; omega
                have HX := vl hx
                clear hx
                go_wp2
                go_meet
                exact ⟨true, rfl, hb1, Or.inl ⟨rfl, rfl, HX.out⟩⟩
            · rw [errW_ne hbad] at c2
              have HX := vl hbad
              clear hbad
              go_wp2
              go_meet
              exact ⟨false, rfl, Below.refl _ _, Or.inr ⟨rfl, Or.inl HX.out⟩⟩
        case rest =>
        obtain ⟨bb, rfl, hbc, HSEE⟩ := hcut
        have HS1 := vl (HS.out.on hbc.out)
        have HP1 := vl (HP.out.tr HL.out HSL.out HSS.out (Tr.of hbc.out))
        clear HS HP hbc c2
        cases bb with
        | false =>
          have HX : Vl (FdX G f w0 wx lb a len cap Z Cap S (.slice sa FL.length sc) wc) := by
            refine ⟨FL, (-1, false), HP1.out.1, HF.out, hF, ⟨q, bad, HS1.out, ?_⟩, HP1.out.2.1, HP1.out.2.2⟩
            rcases HI.out with ⟨h1, h2, h3⟩ | h1
            · refine Or.inl ⟨h1, ?_⟩
              have h4 : q < len ∧ Z.getD q 0 = 13 := by
                rcases HSEE.out with ⟨h, _⟩ | ⟨_, h⟩
                · cases h
                · exact h.resolve_left (fun k => k h1)
              rw [h3]
              exact head_crlf (by have := drop_head (Z := Z) (q := q) (by rw [HZL.out]; exact h4.1); rw [h4.2] at this; exact this)
            · exact Or.inr h1
          clear HSEE HI
          go_wp2
          go_meet
          exact HX.out
        | true =>
        obtain ⟨hbad, hns⟩ : bad = 0 ∧ (q = len ∨ Z.getD q 0 ≠ 13) := by
          rcases HSEE.out with ⟨_, h⟩ | ⟨h, _⟩
          · exact h
          · cases h
        subst hbad
        obtain ⟨h40, hG⟩ : FL.length ≤ 40 ∧ G = bindP (headP least coded (40 - FL.length) (fdsOf FL)) f (Z.drop q) := by
          rcases HI.out with ⟨_, h⟩ | ⟨h, _⟩
          · exact h
          · exact absurd rfl h
        rw [head_name (by
          rcases hns with h | h
          · exact Or.inl (List.drop_eq_nil_of_le (by rw [HZL.out]; omega))
          · by_cases h5 : q < len
            · rw [(drop_head (Z := Z) (q := q) (by rw [HZL.out]; exact h5)).2]; exact Or.inr h
            · exact Or.inl (List.drop_eq_nil_of_le (by rw [HZL.out]; omega)))] at hG
        have HD1 : Vl (Dst G (bindP (txtP 58 isSmall 1) (nameK least coded f (40 - FL.length) (fdsOf FL))) w0 wc lb a len cap Z) := ⟨q, 0, HS1.out, Or.inl ⟨rfl, hG⟩⟩
        have H1 := vl (nnamef_any wc)
        have hltc : lb < wc.heap.size := HS1.out.lt
        unfold formV at H1
        clear hG hns HSEE HI HS1
        go_wp2_with fail
        refine H1.out.mono ?_
        rintro e w1 ⟨Gf, rfl, hmf, hb1⟩
        have H2 := vl (text_st 58 isSmall 1 Gf _ hmf hltc (HD1.out.on hb1))
        have HP2 := vl (HP1.out.tr HL.out HSL.out HSS.out (Tr.of hb1))
        unfold rptr formV at H2
        clear H1 hmf hb1 HD1 HP1 hltc
        go_wp2_with fail
        refine H2.out.mono ?_
        rintro e w2 ⟨s, rfl, hd2, ht2, hs2⟩
        have HP3 := vl (HP2.out.tr HL.out HSL.out HSS.out ht2)
        obtain ⟨q2, bad2, hR2, hG2⟩ := hd2
        have HR2 := vl hR2
        have HS4 := vl hs2
        have c2 := hR2.mem.c2
        clear H2 HP2 ht2 hR2 hs2
        by_cases hbad2 : bad2 = 0
        case neg =>
          have HX : Vl (FdX G f w0 wx lb a len cap Z Cap S (.slice sa FL.length sc) w2) := ⟨FL, (-1, false), HP3.out.1, HF.out, hF, ⟨q2, bad2, HR2.out, Or.inr (hG2.resolve_left (fun h => hbad2 h.1))⟩, HP3.out.2.1, HP3.out.2.2⟩
          rw [errW_ne hbad2] at c2
          clear hG2 hbad2
          go_wp2
          go_meet
          exact HX.out
        subst hbad2
        rw [errW_0] at c2
        have hG3 : G = nameK least coded f (40 - FL.length) (fdsOf FL) (unums s) (Z.drop q2) := by
          rcases hG2 with ⟨_, h⟩ | ⟨h, _⟩
          · exact h
          · exact absurd rfl h
        clear hG2
        unfold nameK at hG3
        cases hl : lastP least coded (unums s) with
        | some p =>
          rw [hl] at hG3
          have H3 := vl (HL.out.yes G (fun v => bindP (mtsP [13, 10]) fun _ => f (fdsOf FL, v.1, v.2)) s p w2 hl HP3.out.2.1 ⟨q2, 0, HR2.out, Or.inl ⟨rfl, hG3⟩⟩)
          clear hG3 hl
          go_wp2_with fail
          go_at_fn lg
          refine H3.out.mono ?_
          rintro e w3 ⟨rfl, v, hd3, hc3, ht3⟩
          have HX : Vl (FdX G f w0 wx lb a len cap Z Cap S (.slice sa FL.length sc) w3) := ⟨FL, v, fown_tn HP3.out.1 (fun k hk => (HSS.out k hk).2) ht3, HF.out, hF, hd3, hc3, tn_trans HP3.out.2.2 ht3⟩
          clear hd3 hc3 ht3 H3 c2
          go_wp2
          go_meet
          exact HX.out
        | none =>
          rw [hl] at hG3
          have H3 := vl (HL.out.no s w2 HP3.out.2.1 hl)
          have HG3 : Vl (G = (if unums s = hostN ∨ unums s = lengthN ∨ unums s = codingN then failP 2 else nextK least coded f (40 - FL.length) (fdsOf FL) (unums s)) (Z.drop q2)) := hG3
          clear hG3 hl
          go_wp2_with fail
          go_at_fn lg
          refine H3.out.mono ?_
          rintro e w3 ⟨rfl, hb3⟩
          have HP4 := vl (HP3.out.tr HL.out HSL.out HSS.out (Tr.of hb3))
          have HR3 := vl (HR2.out.on hb3)
          clear HR2 HP3 hb3 c2 H3
          go_wp2_with fail
          refine (ntaken_any s w3).mono ?_
          rintro e w4 ⟨rfl, rfl⟩
          obtain ⟨tb, htb⟩ : ∃ tb, takenB s = tb := ⟨_, rfl⟩
          rw [htb]
          have HTB := vl htb
          clear htb
          go_upto_if 31 with fail
          go_cut [] (fun wy => Vl (Dst G (nextK least coded f (40 - FL.length) (fdsOf FL) (unums s)) w0 wy lb a len cap Z) ∧ Vl (Tr lb w3 wy))
          case first =>
            as_aux_lemma =>
              cases tb with
              | false =>
                have HD : Vl (Dst G (nextK least coded f (40 - FL.length) (fdsOf FL) (unums s)) w0 w3 lb a len cap Z) := by
                  refine ⟨q2, 0, HR3.out, Or.inl ⟨rfl, ?_⟩⟩
                  have hn := of_decide_eq_false HTB.out
                  have := HG3.out
                  rw [if_neg hn] at this
                  exact this
                clear HG3
                go_wp2
                go_meet
                exact ⟨HD.out, Tr.refl _ _⟩
              | true =>
                have hg2 : G.1 = 2 := by
                  have hn := of_decide_eq_true HTB.out
                  have := HG3.out
                  rw [if_pos hn] at this
                  rw [this]
                  rfl
                have HG2 := vl hg2
                have H5 := vl (fail_rs w0 lb a len cap Z q2 0 2 w3 HR3.out (by decide))
                unfold rptr at H5
                clear HG3 hg2
                go_wp2_with fail
                refine H5.out.mono ?_
                rintro e w5 ⟨rfl, hR5, ht5⟩
                have HD : Vl (Dst G (nextK least coded f (40 - FL.length) (fdsOf FL) (unums s)) w0 w5 lb a len cap Z) := ⟨q2, 2, hR5, Or.inr ⟨by decide, HG2.out⟩⟩
                have HT := vl ht5
                clear hR5 ht5 H5
                go_wp2
                go_meet
                exact ⟨HD.out, HT.out⟩
          case rest =>
          obtain ⟨HD5, ht5⟩ := hcut
          obtain ⟨wy, hwy⟩ : ∃ wy, wy = wc := ⟨_, rfl⟩
          subst hwy
          have HP5 := vl (HP4.out.tr HL.out HSL.out HSS.out ht5.out)
          clear HP4 ht5 HR3 HG3 HTB
          go_upto_if 37 with fail
          go_cut [] (fun wz => Vl (Dst G (goK least coded f FL.length (fdsOf FL) (unums s)) w0 wz lb a len cap Z) ∧ Vl (Tr lb wy wz) ∧ Vl (FL.length = 40 → G.1 ≠ 0))
          case first =>
            as_aux_lemma =>
              obtain ⟨q5, bad5, hR5, hG5⟩ := HD5.out
              have HR5 := vl hR5
              have HG5 := vl hG5
              clear hR5 hG5 HD5
              by_cases hf40 : FL.length = 40
              · have p1 : ((FL.length : Int) == 40) = true := by simp [hf40]
                have H6 := vl (fail_rs w0 lb a len cap Z q5 bad5 4 wy HR5.out (by decide))
                unfold rptr at H6
                have HNE : Vl (FL.length = 40 → G.1 ≠ 0) := fun _ => by
                  rcases HG5.out with ⟨h1, h2⟩ | ⟨h1, h2⟩
                  · rw [h2, show 40 - FL.length = 0 by omega]
                    show (4 : Int) ≠ 0
                    decide
                  · rw [h2]
                    exact h1
                have HX : Vl (∀ w', RS w0 w' lb a len cap Z q5 (if bad5 = 0 then 4 else bad5) → Dst G (goK least coded f FL.length (fdsOf FL) (unums s)) w0 w' lb a len cap Z) := fun w' hR => by
                  refine ⟨q5, _, hR, Or.inr ?_⟩
                  rcases HG5.out with ⟨h1, h2⟩ | ⟨h1, h2⟩
                  · rw [if_pos h1]
                    refine ⟨by decide, ?_⟩
                    rw [h2, show 40 - FL.length = 0 by omega]
                    rfl
                  · rw [if_neg h1]
                    exact ⟨h1, h2⟩
                clear hf40 HG5
                go_wp2_with fail
                refine H6.out.mono ?_
                rintro e w5 ⟨rfl, hR6, ht6⟩
                have HD := vl (HX.out _ hR6)
                have HT := vl ht6
                clear hR6 ht6 H6 HX
                go_wp2
                go_meet
                exact ⟨HD.out, HT.out, HNE.out⟩
              · have p1 : ((FL.length : Int) == 40) = false := by simp; omega
                have HD : Vl (Dst G (goK least coded f FL.length (fdsOf FL) (unums s)) w0 wy lb a len cap Z) := by
                  refine ⟨q5, bad5, HR5.out, ?_⟩
                  have e : nextK least coded f (40 - FL.length) (fdsOf FL) (unums s) = goK least coded f FL.length (fdsOf FL) (unums s) := by
                    obtain ⟨k, hk⟩ : ∃ k, 40 - FL.length = k + 1 := ⟨40 - FL.length - 1, by omega⟩
                    unfold goK
                    simp only [if_neg hf40]
                    rw [hk]
                    rfl
                  rw [← e]
                  exact HG5.out
                have HNE : Vl (FL.length = 40 → G.1 ≠ 0) := fun h => absurd h hf40
                clear hf40 HG5
                go_wp2
                go_meet
                exact ⟨HD.out, Tr.refl _ _, HNE.out⟩
          case rest =>
          obtain ⟨HD6, ht6, HNE⟩ := hcut
          have HP6 := vl (HP5.out.tr HL.out HSL.out HSS.out ht6.out)
          have H6 := vl (word_st (s := ⟨#[32]⟩) (by decide) (show Dst G (bindP (mtsP (unums ⟨#[32]⟩)) _) w0 wc lb a len cap Z from HD6.out))
          unfold rptr at H6
          clear HD5 HD6 HP5 ht6
          go_wp2_with fail
          refine H6.out.mono ?_
          rintro e w7 ⟨rfl, hd7, ht7⟩
          have HP7 := vl (HP6.out.tr HL.out HSL.out HSS.out ht7)
          have H7 := vl (value_st 0 hd7)
          unfold rptr at H7
          clear H6 HP6 hd7 ht7
          go_wp2_with fail
          refine H7.out.mono ?_
          rintro e w8 ⟨v, rfl, hd8, ht8, hv4⟩
          have HP8 := vl (HP7.out.tr HL.out HSL.out HSS.out ht8)
          have HD8 := vl hd8
          clear H7 HP7 hd8 ht8
          have hs8 : wx.heap.size ≤ w8.heap.size := HP8.out.2.2.size
          have HCN : Vl (∀ j u, [Value.string s, .string v][j]? = some u → (w8.alloc (.cells #[.string s, .string v] 114)).cell? ((⟨w8.heap.size, 0, none⟩ : Addr).add j) = some u) := by
            intro j u hj
            have hh : (w8.alloc (.cells #[.string s, .string v] 114)).heap[w8.heap.size]? = some (.cells #[.string s, .string v] 114 (0, 0)) := heap_alloc_new w8 _
            rw [n_add]
            simp only [World.cell?, hh, Nat.zero_add]
            match j with
            | 0 => exact hj
            | 1 => exact hj
            | j + 2 => simp at hj
          have HCO : Vl (∀ u ∈ [Value.string s, .string v], u.oneCell' = true) := by intro u hu; simp at hu; rcases hu with rfl | rfl <;> rfl
          go_wp2_with (at_builtin; refine wpList_append_own _ rfl _ _ 32 rfl wx.heap.size 114 i0 (.agg #[.string ⟨#[]⟩, .string ⟨#[]⟩]) 2 32 Tryd.underlying32 HI.out HZ.out.1 HZ.out.2.1 HZ.out.2.2 rfl (by decide) (.slice sa FL.length sc) FL.length _ rfl (HP8.out.1.alloc _) ⟨w8.heap.size, 0, none⟩ 1 1 [.string s, .string v] rfl rfl HCN.out HCO.out (by unfold maxLen; omega) (by omega) (by rw [World.size_alloc]; omega) ?_)
          intro v3 w9 hown3 hgrow3 _
          have hfc : fcells FL ++ [Value.string s, .string v] = fcells (FL ++ [(s, v)]) := by rw [fcells_append]; rfl
          rw [hfc] at hown3
          have hle3 : (FL ++ [(s, v)]).length = FL.length + 1 := by simp
          have hal : Below w8.heap.size w8 (w8.alloc (.cells #[.string s, .string v] 114)) := (Below.refl _ _).alloc (Nat.le_refl _) _
          have HO3 : Vl (FOwn w9 wx.heap.size v3 (FL ++ [(s, v)])) := by show FOwn _ _ _ _; unfold FOwn; rw [hle3]; exact hown3
          have hrow : ∀ k, (Value.slice sa FL.length sc).ownBlock = some k → wx.heap.size ≤ k := fun k hk => (HP8.out.1.lt k hk).1
          have HT3 := vl (tn_grow (tn_trans HP8.out.2.2 (tn_tr HSL.out (Tr.of hal))) hgrow3 hrow)
          have HC3 := vl (HL.out.keepG w8 w9 HP8.out.2.1 (fun k hk => (hgrow3.block k (by have := (HSS.out k hk).2; rw [World.size_alloc]; omega) (fun e => by have := hrow k e.symm; have := (HSS.out k hk).2; omega)).trans (hal.block k (by have := (HSS.out k hk).2; omega))))
          obtain ⟨q9, bad9, hR9, hG9⟩ := HD8.out
          have HR9 := vl ((hR9.on hal).grown hgrow3 (fun k hk => ⟨by have := hrow k hk; have := hR9.base; omega, by have := hrow k hk; omega⟩))
          obtain ⟨sa3, sc3, rfl⟩ := fown_shape HO3.out
          have HI3 : Vl (FdI G least coded f Z (FL ++ [(s, v)]) q9 bad9) := by
            rcases hG9 with ⟨h1, h2⟩ | h1
            · by_cases hf40 : FL.length = 40
              · rw [if_pos hf40] at h2
                exact absurd (by rw [h2]; rfl) (HNE.out hf40)
              · refine Or.inl ⟨h1, by rw [hle3]; omega, ?_⟩
                rw [if_neg hf40] at h2
                rw [hle3, fds_snoc, h2, show 40 - FL.length - 1 = 40 - (FL.length + 1) by omega]
            · exact Or.inr h1
          have HF3 := vl (fsmall_snoc HF.out HS4.out hv4)
          have hgk : 42 ≤ FL.length + gk := HGK.out
          obtain ⟨g', rfl⟩ : ∃ g', gk = g' + 1 := ⟨gk - 1, by omega⟩
          clear hown3 hgrow3 hfc hal hrow HP8 HCN HCO HD8 hR9 hG9 HI
          go_wp2
          go_roundg g'
          case measure => omega
          case rel =>
            exact ⟨FL ++ [(s, v)], q9, bad9, sa3, sc3, by rw [hle3], ⟨HO3.out, HC3.out, HT3.out⟩, HF3.out, by omega, HR9.out, HI3.out, by show 42 ≤ _; omega⟩
  case rest =>
    obtain ⟨FL, v, h1, h2, h3, h4, h5, h6⟩ := hcut.out
    have HO := vl h1
    have H2 := vl h2
    have HC := vl h5
    have HT := vl h6
    have H4 := vl (word_st (s := ⟨#[13, 10]⟩) (by decide) (show Dst G (bindP (mtsP (unums ⟨#[13, 10]⟩)) _) w0 wc lb a len cap Z from h4))
    obtain ⟨sa, sc, rfl⟩ := fown_shape h1
    unfold rptr at H4
    clear hcut h1 h2 h4 h5 h6 HR HI0 HC0
    go_wp2_with fail
    refine H4.out.mono ?_
    rintro e w1 ⟨rfl, hd1, ht1⟩
    have HO1 := vl (fown_tn HO.out (fun k hk => (HSS.out k hk).2) (tn_tr HSL.out ht1))
    have HT1 := vl (tn_trans HT.out (tn_tr HSL.out ht1))
    have HC1 := vl (HL.out.keepR _ _ _ HC.out ht1)
    have HD1 := vl hd1
    clear hd1 ht1 HO HT HC H4
    go_wp2
    go_ret
    exact ⟨_, FL, v, rfl, HO1.out, H2.out, h3, HD1.out, HC1.out, HT1.out⟩
end
end Go.Proofs.YtgjolljhjagngafDoor
/-
  MESSAGES AS LINES: the developers' ReadAsk: its memory, and the function that reads the last line. No claim by itself.
-/
namespace Go.Proofs.YtgjolljhjagngafDoor
open Go Go.RowKit Go.Shelf
set_option maxRecDepth 100000
/-- A request's five cells. -/
def RB (w : World) (x : Nat) (m p h : ByteArray) (fv bv : Value) : Prop := w.heap[x]? = some (.cells #[.string m, .string p, .string h, fv, bv] 34 (0, 0))
section
variable {w w' : World} {x lb : Nat} {m p h : ByteArray} {fv bv : Value}
theorem RB.lt (k : RB w x m p h fv bv) : x < w.heap.size := (Array.getElem?_eq_some_iff.1 k).1
theorem RB.cells (k : RB w x m p h fv bv) : w.cell? ⟨x, 0, none⟩ = some (.string m) ∧ w.cell? ⟨x, 1, none⟩ = some (.string p) ∧ w.cell? ⟨x, 2, none⟩ = some (.string h) ∧ w.cell? ⟨x, 3, none⟩ = some fv ∧ w.cell? ⟨x, 4, none⟩ = some bv := by
  unfold RB at k
  simp only [World.cell?, k]
  exact ⟨rfl, rfl, rfl, rfl, rfl⟩
theorem RB.frozen (k : RB w x m p h fv bv) (i : Nat) : w.frozen? ⟨x, i, none⟩ = false := by
  unfold RB at k
  unfold World.frozen?
  rw [k]
  simp
theorem RB.tl (k : RB w x m p h fv bv) (hx : x ≠ lb) (ht : Tr lb w w') : RB w' x m p h fv bv := (ht.block x k.lt hx).trans k
theorem RB.on (k : RB w x m p h fv bv) (hb : Below w.heap.size w w') : RB w' x m p h fv bv := (hb.block x k.lt).trans k
theorem RB.other {y i : Nat} {v : Value} (k : RB w x m p h fv bv) (hx : x ≠ y) : RB (w.setCell ⟨y, i, none⟩ v) x m p h fv bv := (Below.heap_setCell _ _ _ _ hx).trans k
theorem RB.s0 (k : RB w x m p h fv bv) (s : ByteArray) : RB (w.setCell ⟨x, 0, none⟩ (.string s)) x s p h fv bv := by unfold RB at *; simp [World.setCell, Array.getElem?_modify, k]
theorem RB.s1 (k : RB w x m p h fv bv) (s : ByteArray) : RB (w.setCell ⟨x, 1, none⟩ (.string s)) x m s h fv bv := by unfold RB at *; simp [World.setCell, Array.getElem?_modify, k]
theorem RB.s2 (k : RB w x m p h fv bv) (s : ByteArray) : RB (w.setCell ⟨x, 2, none⟩ (.string s)) x m p s fv bv := by unfold RB at *; simp [World.setCell, Array.getElem?_modify, k]
theorem RB.s3 (k : RB w x m p h fv bv) (s : Value) : RB (w.setCell ⟨x, 3, none⟩ s) x m p h s bv := by unfold RB at *; simp [World.setCell, Array.getElem?_modify, k]
theorem RB.s4 (k : RB w x m p h fv bv) (s : Value) : RB (w.setCell ⟨x, 4, none⟩ s) x m p h fv s := by unfold RB at *; simp [World.setCell, Array.getElem?_modify, k]
end
theorem n_setg (w : World) (y i : Nat) (v : Value) : w.grownBy (w.setCell ⟨y, i, none⟩ v) (some y) := ⟨rfl, rfl, rfl, by simp [World.setCell], fun k _ hk => Below.heap_setCell _ _ _ _ (fun e => hk (by rw [e]))⟩
/-- A row of fields that the call itself made. -/
theorem nfrow_of {w : World} {base : Nat} {sa : Option Addr} {n sc : Nat} {L : List (ByteArray × ByteArray)} (h : FOwn w base (.slice sa n sc) L) : n = L.length ∧ FArg w sa n sc L := by
  obtain ⟨_, ⟨hv, h0⟩ | ⟨g, cap, cur, hv, _, _, hc, hm, _⟩⟩ := id h
  · cases hv
    have e := List.eq_nil_of_length_eq_zero h0
    subst e
    exact ⟨rfl, Or.inl ⟨rfl, rfl⟩⟩
  · cases hv
    refine ⟨rfl, Or.inr ⟨g, 0, rfl, rfl, hc, hm, fun t ht => ?_, fun t ht => ?_⟩⟩
    · have hc := h.cellAt (2 * t) (by omega)
      rw [show 0 + t * 2 = 2 * t from by omega, hc, (fcells_at L t (by omega)).1]
    · have hc := h.cellAt (2 * t + 1) (by omega)
      rw [show 0 + t * 2 + 1 = 2 * t + 1 from by omega, hc, (fcells_at L t (by omega)).2]
theorem fown_set {w : World} {base y i : Nat} {u v : Value} {L : List (ByteArray × ByteArray)} (h : FOwn w base v L) (hy : y < base) : FOwn (w.setCell ⟨y, i, none⟩ u) base v L :=
  World.ownsRow.kept h (n_setg w y i u) (Or.inr (fun e => by have := (h.lt y e).1; omega))
theorem fsmall_at {L : List (ByteArray × ByteArray)} (h : fsmall L) (t : Nat) : (L.getD t fnone).1.size ≤ 140737488351232 ∧ (L.getD t fnone).2.size ≤ 140737488351232 := by
  by_cases ht : t < L.length
  · have hm : L.getD t fnone ∈ L := by rw [List.getD, List.getElem?_eq_getElem ht]; exact List.getElem_mem _
    have := h _ hm
    omega
  · have e : L.getD t fnone = fnone := by simp [List.getD, List.getElem?_eq_none (show L.length ≤ t by omega)]
    rw [e]; decide
/-- A request, stored into its five cells as one. -/
theorem run_rqstore' {w : World} {x : Nat} {m p h m' p' h' : ByteArray} {fv bv fv' bv' : Value} (k : RB w x m p h fv bv) (h1 : fv'.oneCell' = true) (h2 : bv'.oneCell' = true) :
    (Instr.storeAt 34 (.pointer (some ⟨x, 0, none⟩)) (.agg #[.string m', .string p', .string h', fv', bv'])).run Tryd.prog w = .ok () (w.setRow x #[.string m', .string p', .string h', fv', bv']) := by
  have hk : w.heap[x]? = some (.cells #[.string m, .string p, .string h, fv, bv] 34 (0, 0)) := k
  have hst := run_storeCells_from (P := Tryd.prog) x 34 [.string m', .string p', .string h', fv', bv'] 0 _ w hk rfl (by intro v hv; simp at hv; rcases hv with rfl | rfl | rfl | rfl | rfl <;> first | rfl | assumption)
  have hsz : (sizeOf 34).run Tryd.prog w = .ok 5 w := by kernel_rfl
  have hcs : (Value.agg #[.string m', .string p', .string h', fv', bv']).cells = #[.string m', .string p', .string h', fv', bv'] := rfl
  simp only [Instr.storeAt, Instr.sureAddr, Sem.run_bind, Sem.run_pure, Result.andThen, storeVar, hsz, hcs]
  simpa using hst
theorem rq_row {w : World} {x : Nat} {m p h m' p' h' : ByteArray} {fv bv fv' bv' : Value} (k : RB w x m p h fv bv) : RB (w.setRow x #[.string m', .string p', .string h', fv', bv']) x m' p' h' fv' bv' := setRow_heap w x _ _ _ _ k
theorem row_grown (w : World) (x : Nat) (cs : Array Value) : w.grownBy (w.setRow x cs) (some x) := ⟨rfl, rfl, rfl, by simp [World.setRow], fun k _ hk => setRow_other w x k _ (fun e => hk (by rw [e]))⟩
theorem run_rqstore {w : World} {x : Nat} {m p h m' p' h' : ByteArray} {fv bv fv' bv' : Value} (k : RB w x m p h fv bv) (h1 : fv'.oneCell' = true) (h2 : bv'.oneCell' = true) :
    ∃ w', (Instr.storeAt 34 (.pointer (some ⟨x, 0, none⟩)) (.agg #[.string m', .string p', .string h', fv', bv'])).run Tryd.prog w = .ok () w' ∧ RB w' x m' p' h' fv' bv' ∧ w.grownBy w' (some x) :=
  ⟨_, run_rqstore' k h1 h2, rq_row k, row_grown w x _⟩
section
variable (w : World) {ops : Array Oper} {rest : List Oper} {o : Oper} {a : Act} {Q : Exit → Act → World → Prop}
theorem wpList_rqstore (hgd : o.guard = none) (s x : Operand) (ho : o.op = .store 34 s x) (n : Nat) (m p h m' p' h' : ByteArray) (fv bv fv' bv' : Value) (hs : a.eval s = .pointer (some ⟨n, 0, none⟩)) (hx : a.eval x = .agg #[.string m', .string p', .string h', fv', bv']) (hB : RB w n m p h fv bv) (h1 : fv'.oneCell' = true) (h2 : bv'.oneCell' = true)
    (h0 : ∀ w', RB w' n m' p' h' fv' bv' → w.grownBy w' (some n) → wpList Tryd.prog ops Q rest (a.put o.dst undef) w') : wpList Tryd.prog ops Q (o :: rest) a w := by
  refine wpList_plain hgd fun K hK => ?_
  obtain ⟨w', hr, h3, h4⟩ := run_rqstore (m' := m') (p' := p') (h' := h') hB h1 h2
  unfold Oper.wp execOp
  simp only [ho, Sem.run_bind, Sem.run_pure, Result.andThen_ok, hs, hx, hr]
  exact hK _ _ (h0 w' h3 h4)
end
theorem wpAny_cast {P : Program} {md : Region.Mode} {ops : Array Oper} {Q : Exit → Act → World → Prop} {fuel : Nat} {l l' : Array Bool} {a : Act} {w : World} (e : l = l') (h : wpAny P md ops Q fuel l' a w) : wpAny P md ops Q fuel l a w := by rw [e]; exact h
section
variable {ops : Array Oper} {o : Oper} {a : Act} {w : World} {K : Act → World → Prop} {Q : Exit → Act → World → Prop} {E : Prop}
theorem step_rqload (hg : o.guard = none) (s : Operand) (ho : o.op = .load 34 s) (n : Nat) (m p h : ByteArray) (fv bv : Value) (hs : a.eval s = .pointer (some ⟨n, 0, none⟩)) (hB : RB w n m p h fv bv)
    (hK : K (a.put o.dst (.agg #[.string m, .string p, .string h, fv, bv])) w) : if Region.wanted o (yielded ops a.tmps) = true then Oper.wp Tryd.prog o a w K Q else E := by
  have hw : Region.wanted o (yielded ops a.tmps) = true := by simp [Region.wanted, hg]
  rw [if_pos hw]
  obtain ⟨c0, c1, c2, c3, c4⟩ := hB.cells
  have hr : (Instr.loadAt 34 (.pointer (some ⟨n, 0, none⟩))).run Tryd.prog w = .ok (.agg #[.string m, .string p, .string h, fv, bv]) w := by
    simp [go_sem, c0, c1, c2, c3, c4]
  unfold Oper.wp execOp
  simp only [ho, Sem.run_bind, Sem.run_pure, Result.andThen_ok, hs, hr]
  exact hK
theorem step_rqstore (hg : o.guard = none) (s x : Operand) (ho : o.op = .store 34 s x) (n : Nat) (m p h m' p' h' : ByteArray) (fv bv fv' bv' : Value) (hs : a.eval s = .pointer (some ⟨n, 0, none⟩)) (hx : a.eval x = .agg #[.string m', .string p', .string h', fv', bv']) (hB : RB w n m p h fv bv) (h1 : fv'.oneCell' = true) (h2 : bv'.oneCell' = true)
    (hK : K (a.put o.dst undef) (w.setRow n #[.string m', .string p', .string h', fv', bv'])) : if Region.wanted o (yielded ops a.tmps) = true then Oper.wp Tryd.prog o a w K Q else E := by
  have hw : Region.wanted o (yielded ops a.tmps) = true := by simp [Region.wanted, hg]
  rw [if_pos hw]
  have hr := run_rqstore' (m' := m') (p' := p') (h' := h') hB h1 h2
  unfold Oper.wp execOp
  simp only [ho, Sem.run_bind, Sem.run_pure, Result.andThen_ok, hs, hx, hr]
  exact hK
end
section
variable {β : Type} {G : Int × β × List Int} {K : Pz β} {w0 wx : World} {lb : Nat} {a : Option Addr} {len cap : Nat} {Z : List Int}
theorem Dst.grown {w' : World} {row : Option Nat} (h : Dst G K w0 wx lb a len cap Z) (hg : wx.grownBy w' row) (hr : ∀ k, row = some k → w0.heap.size ≤ k ∧ k ≠ lb) : Dst G K w0 w' lb a len cap Z := by
  obtain ⟨q, bad, h1, h2⟩ := h
  exact ⟨q, bad, h1.grown hg hr, h2⟩
theorem Dst.set {y i : Nat} {v : Value} (h : Dst G K w0 wx lb a len cap Z) (h1 : w0.heap.size ≤ y) (h2 : y ≠ lb) : Dst G K w0 (wx.setCell ⟨y, i, none⟩ v) lb a len cap Z :=
  h.grown (n_setg wx y i v) (fun k hk => by cases hk; exact ⟨h1, h2⟩)
theorem Dst.any {K' : Pz β} {q : Nat} {bad : Int} (h1 : RS w0 wx lb a len cap Z q bad) (h2 : bad ≠ 0) (h3 : G.1 = bad) : Dst G K' w0 wx lb a len cap Z := ⟨q, bad, h1, Or.inr ⟨h2, h3⟩⟩
theorem Dst.to {K' : Pz β} (h : Dst G K w0 wx lb a len cap Z) (e : ∀ b, K b = K' b) : Dst G K' w0 wx lb a len cap Z := by
  obtain ⟨q, bad, h1, h2⟩ := h
  exact ⟨q, bad, h1, h2.imp (fun h => ⟨h.1, h.2.trans (e _)⟩) id⟩
variable [Inhabited β]
theorem bind_congr {α : Type} {p : Pz α} {f g : α → Pz β} {b : List Int} (h : ∀ v r, p b = (0, v, r) → f v r = g v r) : bindP p f b = bindP p g b := by
  unfold bindP
  split
  · rename_i h1
    exact h _ _ (Prod.ext h1 rfl)
  · rfl
/-- A reading that cannot come about. -/
def noP (G : Int × β × List Int) : Pz β := fun _ => (G.1 + 1, default, [])
theorem Dst.never (h : Dst G (noP G) w0 wx lb a len cap Z) : ∃ q bad, RS w0 wx lb a len cap Z q bad ∧ bad ≠ 0 ∧ G.1 = bad := by
  obtain ⟨q, bad, h1, h2⟩ := h
  rcases h2 with ⟨rfl, h2⟩ | ⟨h2, h3⟩
  · have := congrArg (·.1) h2
    simp [noP] at this
    omega
  · exact ⟨q, bad, h1, h2, h3⟩
/-- A length that was read is none below 0. -/
def lenK (G : Int × β × List Int) (f : Int × Bool → Pz β) (v : Int) : Pz β := if v < 0 then noP G else f (v, false)
theorem len_lenK {least : Int} (hl : 0 ≤ least) {f : Int × Bool → Pz β} (b : List Int) : bindP (bindP (lenQ least) fun v => retP (v, false)) f b = bindP (lenQ least) (lenK G f) b := by
  rw [bind_assoc]
  refine bind_congr (fun v r h => ?_)
  obtain ⟨n, hn, _⟩ := lenQ_inv hl h
  unfold lenK
  rw [if_neg (by omega), bind_ret]
/-- A head that was read has no length of -2. -/
def hdK (G : Int × β × List Int) (f : Hd → Pz β) (h : Hd) : Pz β := if h.2.1 = -2 then noP G else f h
theorem hd_hdK {least : Int} (hl : 0 ≤ least) {coded : Bool} {f : Hd → Pz β} (b : List Int) : bindP (headP least coded 40 []) f b = bindP (headP least coded 40 []) (hdK G f) b := by
  refine bind_congr (fun v r h => ?_)
  obtain ⟨l, n, pc⟩ := v
  obtain ⟨l', _, _, _, hat⟩ := head_inv hl 40 [] h
  unfold hdK
  rw [if_neg]
  show n ≠ -2
  rcases hat with ⟨h1, _⟩ | ⟨v, h1, _⟩ | ⟨_, h1, _⟩ <;> omega
end
/-- What the last line said, in memory. -/
def CapA (lb rb sb : Nat) (v : Int × Bool) (W : World) : Prop :=
  W.heap[rb]? = some (.cells #[rptr lb] 93 (0, 0)) ∧ ∃ n : Int, W.heap[sb]? = some (.cells #[.int .i64 n] 3 (0, 0)) ∧ -100000 ≤ n ∧ n ≤ 100000 ∧ (v.1 = -2 ∨ (0 ≤ n ∧ v.1.toNat = n.toNat))
theorem CapA.kept {lb rb sb : Nat} {v : Int × Bool} {W W' : World} (h : CapA lb rb sb v W) (h1 : W'.heap[rb]? = W.heap[rb]?) (h2 : W'.heap[sb]? = W.heap[sb]?) : CapA lb rb sb v W' := by
  obtain ⟨k1, n, k2, k3⟩ := h
  exact ⟨h1.trans k1, n, h2.trans k2, k3⟩
theorem nra1_no (rb sb : Nat) (n : ByteArray) (W : World) (hn : unums n ≠ lengthN) : Calls Tryd.prog 58 #[.string n, .pointer (some ⟨rb, 0, none⟩), .pointer (some ⟨sb, 0, none⟩)] W fun e w' => e = .returned (.bool false) ∧ Below W.heap.size W w' := by
  have q2 : ¬ n.toList = [108, 101, 110, 103, 116, 104] := fun e => hn (toL_length.1 e)
  have q2' : (n.toList == [108, 101, 110, 103, 116, 104]) = false := by simpa using q2
  go_enter Tryd.func58, Tryd.ntmps58
  go_wp2
  go_ret
  exact ⟨rfl, Below.refl _ _⟩
set_option maxHeartbeats 2000000 in
theorem nra1_yes {β : Type} [Inhabited β] {G : Int × β × List Int} {w0 W : World} {lb : Nat} {a : Option Addr} {len cap : Nat} {Z : List Int} (rb sb : Nat) (d1 : rb ≠ lb) (d2 : sb ≠ lb) (d3 : rb ≠ sb) (d4 : w0.heap.size ≤ sb) (f : Int × Bool → Pz β) (n : ByteArray) (hn : unums n = lengthN) (hc : CapA lb rb sb (-1, false) W) (h : Dst G (bindP (bindP (lenQ 1) fun v => retP (v, false)) f) w0 W lb a len cap Z) :
    Calls Tryd.prog 58 #[.string n, .pointer (some ⟨rb, 0, none⟩), .pointer (some ⟨sb, 0, none⟩)] W fun e w' => e = .returned (.bool true) ∧ ∃ v, Dst G (f v) w0 w' lb a len cap Z ∧ CapA lb rb sb v w' ∧ Tn (fun k => k = lb ∨ k = rb ∨ k = sb) W w' := by
  have q2 : n.toList = [108, 101, 110, 103, 116, 104] := toL_length.2 hn
  have H1 := vl (length_st 1 (by omega) (h.to (fun b => len_lenK (G := G) (by omega) b)))
  obtain ⟨hr, n0, hs, _⟩ := hc
  have r0 := (o1 hr).1
  have HR := vl hr
  have HS := vl hs
  unfold rptr at H1 r0
  clear hr hs h hn
  go_enter Tryd.func58, Tryd.ntmps58
  go_wp2_with fail
  refine H1.out.mono ?_
  rintro e w1 ⟨x, rfl, x1, x2, hd, ht⟩
  have hs1 : w1.heap[sb]? = some (.cells #[.int .i64 n0] 3 (0, 0)) := (ht.block sb (Array.getElem?_eq_some_iff.1 HS.out).1 d2).trans HS.out
  have hr1 : w1.heap[rb]? = some (.cells #[rptr lb] 93 (0, 0)) := (ht.block rb (Array.getElem?_eq_some_iff.1 HR.out).1 d1).trans HR.out
  have s1 := (o1 hs1).2
  have s2 := (o1 hs1).1
  have HD : Vl (∃ v, Dst G (f v) w0 (w1.setCell ⟨sb, 0, none⟩ (.int .i64 x)) lb a len cap Z ∧ CapA lb rb sb v (w1.setCell ⟨sb, 0, none⟩ (.int .i64 x)) ∧ Tn (fun k => k = lb ∨ k = rb ∨ k = sb) W (w1.setCell ⟨sb, 0, none⟩ (.int .i64 x))) := by
    have hd2 := hd.set (y := sb) (i := 0) (v := .int .i64 x) d4 d2
    have e1 : (w1.setCell ⟨sb, 0, none⟩ (.int .i64 x)).heap[rb]? = some (.cells #[rptr lb] 93 (0, 0)) := (Below.heap_setCell _ _ _ _ d3).trans hr1
    have e2 : (w1.setCell ⟨sb, 0, none⟩ (.int .i64 x)).heap[sb]? = some (.cells #[.int .i64 x] 3 (0, 0)) := by simp [World.setCell, Array.getElem?_modify, hs1]
    have e3 : Tn (fun k => k = lb ∨ k = rb ∨ k = sb) W (w1.setCell ⟨sb, 0, none⟩ (.int .i64 x)) := tn_trans (tn_tr (Or.inl rfl) ht) ⟨rfl, rfl, rfl, by simp [World.setCell], fun k _ hk => Below.heap_setCell _ _ _ _ (fun e => hk (Or.inr (Or.inr e)))⟩
    unfold lenK at hd2
    by_cases hx : x < 0
    · rw [if_pos hx] at hd2
      obtain ⟨q, bad, k1, k2, k3⟩ := hd2.never
      exact ⟨(-2, false), Dst.any k1 k2 k3, ⟨e1, x, e2, by omega, by omega, Or.inl rfl⟩, e3⟩
    · rw [if_neg hx] at hd2
      exact ⟨(x, false), hd2, ⟨e1, x, e2, by omega, by omega, Or.inr ⟨by omega, rfl⟩⟩, e3⟩
  clear hd ht hs1 hr1 H1
  go_wp2
  go_ret
  exact ⟨rfl, HD.out⟩
theorem last_ask {β : Type} [Inhabited β] {w0 : World} {lb : Nat} {a : Option Addr} {len cap : Nat} {Z : List Int} (rb sb : Nat) (d1 : rb ≠ lb) (d2 : sb ≠ lb) (d3 : rb ≠ sb) (d4 : w0.heap.size ≤ sb) :
    LastSaid β w0 lb a len cap Z 1 false 58 #[.pointer (some ⟨rb, 0, none⟩), .pointer (some ⟨sb, 0, none⟩)] (CapA lb rb sb) (fun k => k = lb ∨ k = rb ∨ k = sb) where
  enters := enters_of Tryd.func58 (by kernel_rfl) rfl
  no := fun n W _ hl => by
    refine nra1_no rb sb n W (fun e => ?_)
    unfold lastP at hl
    rw [if_pos e] at hl
    cases hl
  yes := fun G f n p W hl hc hd => by
    unfold lastP at hl
    split at hl
    · rename_i e
      cases hl
      exact nra1_yes rb sb d1 d2 d3 d4 f n e hc hd
    · rw [if_neg (fun e => by cases e.2)] at hl
      cases hl
  keepR := fun v W W' h ht => h.kept (ht.block rb (Array.getElem?_eq_some_iff.1 h.1).1 d1) (by obtain ⟨_, n, k, _⟩ := h; exact ht.block sb (Array.getElem?_eq_some_iff.1 k).1 d2)
  keepG := fun W W' h hk => h.kept (hk rb (Or.inr (Or.inl rfl))) (hk sb (Or.inr (Or.inr rfl)))
end Go.Proofs.YtgjolljhjagngafDoor
/-
  MESSAGES AS LINES: the developers' ReadAsk. No claim by itself.
-/
namespace Go.Proofs.YtgjolljhjagngafDoor
open Go Go.RowKit Go.Shelf
set_option maxRecDepth 100000
/- what is still to be read -/
def askK4 (m p h : List Int) (f : Hd) : Pz Rq := bindP (bodyP f.2.1.toNat) fun x => retP ⟨m, p, h, f.1, x⟩
def askK3 (m p h : List Int) : Pz Rq := bindP (headP 1 false 40 []) (askK4 m p h)
def askK2 (m p : List Int) : Pz Rq := bindP (mtsP edgeHostQ) fun _ => bindP (valP 1) fun h => askK3 m p h
def askK1 (m : List Int) : Pz Rq := bindP (txtP 32 ok2 1) fun p => askK2 m p
theorem askP_eq : askP = bindP (txtP 32 ok0 1) askK1 := rfl
/-- The request and the reader's variable. -/
structure AB (W : World) (n0 lb rb : Nat) (m p h : ByteArray) (fv bv : Value) : Prop where
  q : RB W n0 m p h fv bv
  r : W.heap[rb]? = some (.cells #[rptr lb] 93 (0, 0))
section
variable {W W' : World} {n0 lb rb : Nat} {m p h : ByteArray} {fv bv : Value}
theorem AB.tr (k : AB W n0 lb rb m p h fv bv) (d1 : n0 ≠ lb) (d2 : rb ≠ lb) (ht : Tr lb W W') : AB W' n0 lb rb m p h fv bv := ⟨k.q.tl d1 ht, (ht.block rb (Array.getElem?_eq_some_iff.1 k.r).1 d2).trans k.r⟩
theorem AB.on (k : AB W n0 lb rb m p h fv bv) (hb : Below W.heap.size W W') : AB W' n0 lb rb m p h fv bv := ⟨k.q.on hb, (hb.block rb (Array.getElem?_eq_some_iff.1 k.r).1).trans k.r⟩
theorem AB.s0 (k : AB W n0 lb rb m p h fv bv) (d : n0 ≠ rb) (s : ByteArray) : AB (W.setCell ⟨n0, 0, none⟩ (.string s)) n0 lb rb s p h fv bv := ⟨k.q.s0 s, (Below.heap_setCell _ _ _ _ d.symm).trans k.r⟩
theorem AB.s1 (k : AB W n0 lb rb m p h fv bv) (d : n0 ≠ rb) (s : ByteArray) : AB (W.setCell ⟨n0, 1, none⟩ (.string s)) n0 lb rb m s h fv bv := ⟨k.q.s1 s, (Below.heap_setCell _ _ _ _ d.symm).trans k.r⟩
theorem AB.s2 (k : AB W n0 lb rb m p h fv bv) (d : n0 ≠ rb) (s : ByteArray) : AB (W.setCell ⟨n0, 2, none⟩ (.string s)) n0 lb rb m p s fv bv := ⟨k.q.s2 s, (Below.heap_setCell _ _ _ _ d.symm).trans k.r⟩
theorem AB.s3 (k : AB W n0 lb rb m p h fv bv) (d : n0 ≠ rb) (s : Value) : AB (W.setCell ⟨n0, 3, none⟩ s) n0 lb rb m p h s bv := ⟨k.q.s3 s, (Below.heap_setCell _ _ _ _ d.symm).trans k.r⟩
theorem AB.s4 (k : AB W n0 lb rb m p h fv bv) (d : n0 ≠ rb) (s : Value) : AB (W.setCell ⟨n0, 4, none⟩ s) n0 lb rb m p h fv s := ⟨k.q.s4 s, (Below.heap_setCell _ _ _ _ d.symm).trans k.r⟩
theorem AB.at (k : AB W n0 lb rb m p h fv bv) : W.cell? ⟨rb, 0, none⟩ = some (.pointer (some ⟨lb, 0, none⟩)) := (o1 k.r).1
end
/-- What is told in the end. -/
def DAskAns (Z : List Int) (w : World) (e : Ending) (w' : World) : Prop := ∃ q : RqM, e = .returned (.tuple #[q.val, .int .i64 (endF askP Z).2.2, errW (endF askP Z).1]) ∧ RqIn w' q ∧ q.rq = (endF askP Z).2.1 ∧ Below w.heap.size w w'
set_option maxHeartbeats 8000000 in
theorem nreadask_ans (a : Option Addr) (len cap : Nat) (Z : List Int) (w : World) (hA : Arg w a len cap Z) (hnil : a = none → len = 0) (hl : len ≤ ULim) : Calls Tryd.prog 22 #[.slice a len cap] w (DAskAns Z w) := by
  have hzl := hA.len
  obtain ⟨W3, hW3⟩ : ∃ W3, W3 = ((w.alloc (.cells #[.string ⟨#[]⟩, .string ⟨#[]⟩, .string ⟨#[]⟩, .slice none 0 0, .slice none 0 0] 34)).alloc (.cells #[.slice a len cap, .int .i64 0, .nilIface] 95)).alloc (.cells #[.pointer (some ⟨w.heap.size + 1, 0, none⟩)] 93) := ⟨_, rfl⟩
  obtain ⟨lb, hlb⟩ : ∃ lb, lb = w.heap.size + 1 := ⟨_, rfl⟩
  obtain ⟨rb, hrb⟩ : ∃ rb, rb = w.heap.size + 1 + 1 := ⟨_, rfl⟩
  obtain ⟨n0, hn0⟩ : ∃ n0, n0 = w.heap.size := ⟨_, rfl⟩
  have hsz3 : W3.heap.size = n0 + 3 := by rw [hW3, hn0]; simp
  have X0 : Vl (AB W3 n0 lb rb ⟨#[]⟩ ⟨#[]⟩ ⟨#[]⟩ (.slice none 0 0) (.slice none 0 0)) := by
    constructor
    · unfold RB
      rw [hW3, hn0, Below.heap_alloc _ _ _ (by simp; omega), Below.heap_alloc _ _ _ (by simp)]
      exact heap_alloc_new w _
    · unfold rptr
      rw [hW3, hrb, hlb]
      have := heap_alloc_new ((w.alloc (.cells #[.string ⟨#[]⟩, .string ⟨#[]⟩, .string ⟨#[]⟩, .slice none 0 0, .slice none 0 0] 34)).alloc (.cells #[.slice a len cap, .int .i64 0, .nilIface] 95)) (.cells #[.pointer (some ⟨w.heap.size + 1, 0, none⟩)] 93 (0, 0))
      simpa using this
  have hB3 : Below w.heap.size w W3 := by rw [hW3]; exact (((Below.refl _ w).alloc (Nat.le_refl _) _).alloc (by simp) _).alloc (by simp; omega) _
  have hL3 : W3.heap[lb]? = some (.cells #[.slice a len cap, .int .i64 0, .nilIface] 95 (0, 0)) := by
    rw [hW3, hlb, Below.heap_alloc _ _ _ (by simp)]
    have := heap_alloc_new (w.alloc (.cells #[.string ⟨#[]⟩, .string ⟨#[]⟩, .string ⟨#[]⟩, .slice none 0 0, .slice none 0 0] 34)) (.cells #[.slice a len cap, .int .i64 0, .nilIface] 95 (0, 0))
    simpa using this
  have S0 : Vl (Dst (askP Z) askP w W3 lb a len cap Z) := by
    refine ⟨0, 0, ⟨hB3, by omega, hA, ⟨?_, ?_, ?_, ?_, ?_⟩, Nat.zero_le _, hl⟩, Or.inl ⟨rfl, rfl⟩⟩
    all_goals simp [World.cell?, World.frozen?, hL3, errW_0]
  obtain ⟨G, hG⟩ : ∃ G, G = askP Z := ⟨_, rfl⟩
  rw [← hG] at S0
  have HG : Vl (G = askP Z) := hG
  have HNIL := vl hnil
  have hws : w.heap.size = n0 := hn0.symm
  have hl1 : lb = n0 + 1 := by omega
  have hr1 : rb = n0 + 2 := by omega
  have d1 : n0 ≠ lb := by omega
  have d2 : rb ≠ lb := by omega
  have d3 : n0 ≠ rb := by omega
  have d4 : w.heap.size ≤ rb := by omega
  have d5 : w.heap.size ≤ n0 := by omega
  have HA := vl hA
  have EW3 := vl hW3
  have ELB := vl hlb
  have ERB := vl hrb
  have EN0 := vl hn0
  have D4 := vl d4
  have D5 := vl d5
  have HNUM : Vl (lb = n0 + 1 ∧ rb = n0 + 2 ∧ W3.heap.size = n0 + 3) := ⟨hl1, hr1, hsz3⟩
  clear hnil hG hB3 hL3 hA hW3 hlb hrb hn0 hws d4 d5 hl1 hr1 hsz3
  rw [askP_eq] at S0
  go_enter Tryd.func22, Tryd.ntmps22
  go_upto_region 2 with fail
  rw [← EW3.out, ← ERB.out, ← ELB.out, ← EN0.out]
  clear EW3
  go_cut [] (fun wz => ∃ m : ByteArray, Vl (Dst G (askK1 (unums m)) w wz lb a len cap Z) ∧ Vl (AB wz n0 lb rb m ⟨#[]⟩ ⟨#[]⟩ (.slice none 0 0) (.slice none 0 0)) ∧ m.size ≤ 400)
  case first =>
    as_aux_lemma =>
      have k0 := X0.out.at
      have H1 := vl (ntokf_any W3.drew)
      have hlt := S0.out.lt
      have H2 : Vl (∀ W, Below W3.drew.heap.size W3.drew W → Calls Tryd.prog 54 #[rptr lb, formV 1 (.func (.func 86) #[] #[]), .int .u8 32] W fun e w' => ∃ s : ByteArray, e = .returned (.string s) ∧ Dst G (askK1 (unums s)) w w' lb a len cap Z ∧ Tr lb W w' ∧ s.size ≤ 400) := fun W hb => text_st 32 ok0 1 _ _ (mayf_tok W W.heap.size) (by have := hb.size; have := hlt; show lb < W.heap.size; exact Nat.lt_of_lt_of_le hlt hb.size) ((S0.out.on (Below.refl _ W3).drew).on hb)
      have HX : Vl (∀ W, Below W3.drew.heap.size W3.drew W → AB W n0 lb rb ⟨#[]⟩ ⟨#[]⟩ ⟨#[]⟩ (.slice none 0 0) (.slice none 0 0)) := fun W hb => (X0.out.on (Below.refl _ W3).drew).on hb
      unfold rptr formV at H2
      unfold formV at H1
      go_region_held3 (fun W => W.cell? ⟨rb, 0, none⟩ = some (.pointer (some ⟨lb, 0, none⟩)))
        (first | exact (((HX.out _ hb).tr d1 d2 ht2).s0 d3 s).at | exact ((HX.out _ hb).tr d1 d2 ht2).at | exact k0 | exact (HX.out _ hb).at)
        (first
          | (go_at_call 54; refine (H2.out _ hb).mono ?_; rintro e w2 ⟨s, rfl, hd2, ht2, hs2⟩; have y0 := ((HX.out _ hb).tr d1 d2 ht2).q.cells.1; have y1 := ((HX.out _ hb).tr d1 d2 ht2).q.frozen 0)
          | (go_at_call 45; refine H1.out.mono ?_; rintro e w1 ⟨rfl, hb⟩))
      all_goals
        have HD := vl (hd2.set (y := n0) (i := 0) (v := .string s) D5.out d1)
        have HY := vl (((HX.out _ hb).tr d1 d2 ht2).s0 d3 s)
        clear hd2 ht2 y0 y1 HX H2 H1 hb
        go_wp2
        go_meet
        exact ⟨s, HD.out, HY.out, by omega⟩
  case rest =>
  obtain ⟨m, S1, X1, hm⟩ := hcut
  clear S0 X0 HNUM
  obtain ⟨V1, hV1⟩ : ∃ V1, V1 = wc := ⟨_, rfl⟩
  subst hV1
  go_upto_region 3 with fail
  go_cut [] (fun wz => ∃ p : ByteArray, Vl (Dst G (askK2 (unums m) (unums p)) w wz lb a len cap Z) ∧ Vl (AB wz n0 lb rb m p ⟨#[]⟩ (.slice none 0 0) (.slice none 0 0)) ∧ p.size ≤ 400)
  case first =>
    as_aux_lemma =>
      have k0 := X1.out.at
      have H1 := vl (npathf_any V1.drew)
      have hlt := S1.out.lt
      have H2 : Vl (∀ F W, Below V1.drew.heap.size V1.drew W → MayF W V1.drew.heap.size F ok2 → Calls Tryd.prog 54 #[rptr lb, formV 1 F, .int .u8 32] W fun e w' => ∃ s : ByteArray, e = .returned (.string s) ∧ Dst G (askK2 (unums m) (unums s)) w w' lb a len cap Z ∧ Tr lb W w' ∧ s.size ≤ 400) := fun F W hb hF => text_st 32 ok2 1 _ _ hF hlt ((S1.out.on (Below.refl _ V1).drew).on hb)
      have HX : Vl (∀ W, Below V1.drew.heap.size V1.drew W → AB W n0 lb rb m ⟨#[]⟩ ⟨#[]⟩ (.slice none 0 0) (.slice none 0 0)) := fun W hb => (X1.out.on (Below.refl _ V1).drew).on hb
      unfold rptr formV at H2
      unfold formV at H1
      go_region_held3 (fun W => W.cell? ⟨rb, 0, none⟩ = some (.pointer (some ⟨lb, 0, none⟩)))
        (first | exact (((HX.out _ hb).tr d1 d2 ht2).s1 d3 s).at | exact ((HX.out _ hb).tr d1 d2 ht2).at | exact k0 | exact (HX.out _ hb).at)
        (first
          | (go_at_call 54; refine (H2.out _ _ hb hmf).mono ?_; rintro e w2 ⟨s, rfl, hd2, ht2, hs2⟩; have y0 := ((HX.out _ hb).tr d1 d2 ht2).q.cells.2.1; have y1 := ((HX.out _ hb).tr d1 d2 ht2).q.frozen 1)
          | (go_at_call 36; refine H1.out.mono ?_; rintro e w1 ⟨Gf, rfl, hmf, hb⟩))
      all_goals
        have HD := vl (hd2.set (y := n0) (i := 1) (v := .string s) D5.out d1)
        have HY := vl (((HX.out _ hb).tr d1 d2 ht2).s1 d3 s)
        clear hd2 ht2 y0 y1 HX H2 H1 hb hmf
        go_wp2
        go_meet
        exact ⟨s, HD.out, HY.out, by omega⟩
  case rest =>
  obtain ⟨p, S2, X2, hp⟩ := hcut
  clear S1 X1
  have k2 := X2.out.at
  have H3 := vl (word_st (s := ⟨#[69, 68, 71, 69, 47, 49, 13, 10, 104, 111, 115, 116, 58, 32]⟩) (by decide) (show Dst G (bindP (mtsP (unums ⟨#[69, 68, 71, 69, 47, 49, 13, 10, 104, 111, 115, 116, 58, 32]⟩)) _) w wc lb a len cap Z from S2.out))
  unfold rptr at H3
  go_wp2_with fail
  refine H3.out.mono ?_
  rintro e w3 ⟨rfl, hd3, ht3⟩
  have X3 := vl (X2.out.tr d1 d2 ht3)
  have H4 := vl (value_st 1 hd3)
  have k3 := X3.out.at
  unfold rptr at H4
  clear H3 S2 X2 hd3 ht3 k2
  go_wp2_with fail
  refine H4.out.mono ?_
  rintro e w4 ⟨h, rfl, hd4, ht4, hh⟩
  have X4 := vl (X3.out.tr d1 d2 ht4)
  have y0 := X4.out.q.cells.2.2.1
  have y1 := X4.out.q.frozen 2
  have S4 := vl (hd4.set (y := n0) (i := 2) (v := .string h) D5.out d1)
  have X5 := vl (X4.out.s2 d3 h)
  obtain ⟨V5, hV5⟩ : ∃ V5, V5 = w4.setCell ⟨n0, 2, none⟩ (.string h) := ⟨_, rfl⟩
  rw [← hV5] at S4 X5
  clear H4 X3 hd4 ht4 k3
  go_upto_region 6 with fail
  rw [← hV5]
  clear hV5 y0 y1 X4
  -- REST
  obtain ⟨sb, hsb⟩ : ∃ sb, sb = V5.heap.size := ⟨_, rfl⟩
  obtain ⟨V6, hV6⟩ : ∃ V6, V6 = V5.alloc (.cells #[.int .i64 0] 3) := ⟨_, rfl⟩
  have hb6 : Below V5.heap.size V5 V6 := by rw [hV6]; exact (Below.refl _ _).alloc (Nat.le_refl _) _
  have hs6 : V6.heap[sb]? = some (.cells #[.int .i64 0] 3 (0, 0)) := by rw [hV6, hsb]; exact heap_alloc_new V5 _
  have hn6 : V6.heap.size = sb + 1 := by rw [hV6, hsb]; simp
  have X6 := vl (X5.out.on hb6)
  have S6 := vl (S4.out.on hb6)
  have hlt5 := S4.out.lt
  have hnlt := X5.out.q.lt
  have hrlt := (Array.getElem?_eq_some_iff.1 X5.out.r).1
  have e1 : sb ≠ lb := by omega
  have e2 : rb ≠ sb := by omega
  have e3 : n0 ≠ sb := by omega
  have D6 : Vl (w.heap.size ≤ sb) := by have := D5.out; show w.heap.size ≤ sb; omega
  have DL : Vl (w.heap.size ≤ lb) := S4.out.base
  have HF := vl (fields_st 1 false 58 #[.pointer (some ⟨rb, 0, none⟩), .pointer (some ⟨sb, 0, none⟩)] (CapA lb rb sb) (fun k => k = lb ∨ k = rb ∨ k = sb) (last_ask rb sb d2 e1 e2 D6.out) (S6.out.to (fun b => hd_hdK (G := G) (by omega) b)) ⟨X6.out.r, 0, hs6, by omega, by omega, Or.inr ⟨by omega, rfl⟩⟩ (Or.inl rfl) (by
    have := D4.out
    have := DL.out
    rintro k (rfl | rfl | rfl) <;> omega))
  have k6 := X6.out.at
  have HN6 : Vl (n0 < V6.heap.size ∧ V6.heap.size = sb + 1 ∧ lb < V6.heap.size) := ⟨by omega, hn6, by omega⟩
  have EV6 := vl hV6
  have ESB := vl hsb
  unfold rptr at HF
  clear hb6 hs6 hn6 hlt5 hnlt hrlt hV6 hsb S6 S4 X5
  go_upto_region 7 with fail
  rw [← EV6.out, ← ESB.out]
  clear EV6 ESB
  go_wp2_with fail
  refine HF.out.mono ?_
  rintro e w7 ⟨x, FL, v, rfl, ho7, hf7, hl7, hd7, hc7, ht7⟩
  obtain ⟨fa, fc, rfl⟩ := fown_shape ho7
  have hq7 : RB w7 n0 m p h (.slice none 0 0) (.slice none 0 0) := (ht7.block n0 HN6.out.1 (fun hk => by rcases hk with e | e | e <;> omega)).trans X6.out.q
  have y0 := hq7.cells.2.2.2.1
  have y1 := hq7.frozen 3
  obtain ⟨V8, hV8⟩ : ∃ V8, V8 = w7.setCell ⟨n0, 3, none⟩ (.slice fa FL.length fc) := ⟨_, rfl⟩
  have X8 : Vl (AB V8 n0 lb rb m p h (.slice fa FL.length fc) (.slice none 0 0)) := by
    rw [hV8]
    exact ⟨hq7.s3 _, (Below.heap_setCell _ _ _ _ d3.symm).trans hc7.1⟩
  have S8 : Vl (Dst G (hdK G (askK4 (unums m) (unums p) (unums h)) (fdsOf FL, v.1, v.2)) w V8 lb a len cap Z) := by rw [hV8]; exact hd7.set D5.out d1
  have C8 : Vl (CapA lb rb sb v V8) := by rw [hV8]; exact hc7.kept (Below.heap_setCell _ _ _ _ d3.symm) (Below.heap_setCell _ _ _ _ e3.symm)
  obtain ⟨b6, hb6⟩ : ∃ b6, b6 = V6.heap.size := ⟨_, rfl⟩
  have O8 : Vl (FOwn V8 b6 (.slice fa FL.length fc) FL) := by rw [hV8, hb6]; exact fown_set ho7 HN6.out.1
  have HNB : Vl (n0 < b6 ∧ lb < b6) := by rw [hb6]; exact ⟨HN6.out.1, HN6.out.2.2⟩
  have HFS := vl hf7
  clear HF X6 ho7 hf7 hd7 hc7 ht7 hq7 k6
  go_upto_region 8 with fail
  rw [← hV8]
  clear hV8 y0 y1 hb6 HN6
  obtain ⟨k1, n, k2, k3, k4, k5⟩ := C8.out
  have r8 := (o1 k1).1
  have s8 := (o1 k2).1
  unfold rptr at r8
  have HB8 : Vl (Dst G (bindP (bodyP n.toNat) fun x => retP ⟨unums m, unums p, unums h, fdsOf FL, x⟩) w V8 lb a len cap Z ∧ (0 ≤ n ∨ ∃ q bad, RS w V8 lb a len cap Z q bad ∧ bad ≠ 0)) := by
    by_cases hv2 : v.1 = -2
    · have := S8.out
      unfold hdK at this
      rw [if_pos hv2] at this
      obtain ⟨q, bad, j1, j2, j3⟩ := this.never
      exact ⟨Dst.any j1 j2 j3, Or.inr ⟨q, bad, j1, j2⟩⟩
    · obtain ⟨j1, j2⟩ := k5.resolve_left hv2
      have := S8.out
      unfold hdK at this
      rw [if_neg hv2] at this
      unfold askK4 at this
      rw [← j2]
      exact ⟨this, Or.inl j1⟩
  have HBD := vl (body_st n ⟨k3, by omega⟩ HNIL.out HB8.out.1 HB8.out.2)
  unfold rptr at HBD
  clear k1 k2 k5 C8 S8 HB8
  go_wp2_with fail
  refine HBD.out.mono ?_
  rintro e w9 ⟨bv, B, rfl, ho9, hd9, ht9, hB9, hm9⟩
  obtain ⟨ba, bc, rfl, hbc, _⟩ := ho9.slice
  have X9 := vl (X8.out.tr d1 d2 ht9)
  have y0 := X9.out.q.cells.2.2.2.2
  have y1 := X9.out.q.frozen 4
  have O9 := vl (fown_tn (S := fun k => k = lb) O8.out (fun k hk => by rw [hk]; exact HNB.out.2) (tn_tr rfl ht9))
  obtain ⟨V10, hV10⟩ : ∃ V10, V10 = w9.setCell ⟨n0, 4, none⟩ (.slice ba B.length bc) := ⟨_, rfl⟩
  have X10 : Vl (AB V10 n0 lb rb m p h (.slice fa FL.length fc) (.slice ba B.length bc)) := by rw [hV10]; exact X9.out.s4 d3 _
  have S10 : Vl (Dst G (retP ⟨unums m, unums p, unums h, fdsOf FL, B⟩) w V10 lb a len cap Z) := by rw [hV10]; exact hd9.set D5.out d1
  have O10 : Vl (FOwn V10 b6 (.slice fa FL.length fc) FL) := by rw [hV10]; exact fown_set O9.out HNB.out.1
  have A10 : Vl (UOwn V10 V8.heap.size (.slice ba B.length bc) B ∧ Bytes B ∧ n0 < V8.heap.size ∧ (ba = none → B.length = 0 ∧ bc = 0) ∧ B.length ≤ 140737488351232) := by
    have hby : Bytes B := fun x hx => HA.out.bytes x (hm9 x hx)
    have ho10 : UOwn V10 V8.heap.size (.slice ba B.length bc) B := by
      rw [hV10]
      exact ho9.grown (n_setg _ _ _ _) (fun k hk => fun e => by
        cases e
        have := (ho9.base _ hk).1
        have := X8.out.q.lt
        omega)
    refine ⟨ho10, hby, X8.out.q.lt, ?_, hB9⟩
    rintro rfl
    rcases ho10 with ⟨j1, j2⟩ | ⟨g, cp, j1, _⟩
    · rw [j2] at j1 ⊢; cases j1; exact ⟨rfl, rfl⟩
    · cases j1
  clear HBD X8 O8 X9 O9 ho9 hd9 ht9 hm9 r8 s8
  go_upto_region 9 with fail
  rw [← hV10]
  clear hV10 y0 y1
  obtain ⟨q, bad, hR, hcase⟩ := S10.out
  have HR := vl hR
  have HCASE := vl hcase
  have HFT := vl (fault_any lb a len cap q bad V10 hR.mem)
  have k10 := X10.out.at
  unfold rptr at HFT
  clear hR hcase S10
  go_wp2_with fail
  refine HFT.out.mono ?_
  rintro e w11 ⟨rfl, rfl⟩
  clear HFT
  by_cases hx0 : bad = 0
  · subst hx0
    have HEQ : Vl (G = (0, ⟨unums m, unums p, unums h, fdsOf FL, B⟩, Z.drop q)) := by
      rcases HCASE.out with ⟨_, h1⟩ | ⟨h1, _⟩
      · exact h1
      · exact absurd rfl h1
    rw [if_neg (by omega), errW_0]
    have l0 := HR.out.mem.c1
    have hq1 := HR.out.le
    have l1 : (World.setRow V10.drew n0 #[.string m, .string p, .string h, .slice fa FL.length fc, .slice ba B.length bc]).cell? ⟨lb, 1, none⟩ = some (.int .i64 q) := (cell_setRow_other _ _ _ _ (by show lb ≠ n0; exact d1.symm)).trans l0
    have l0d : V10.drew.cell? ⟨lb, 1, none⟩ = some (.int .i64 q) := l0
    have l2 : (World.setRow V10.drew n0 #[.string m, .string p, .string h, .slice fa FL.length fc, .slice ba B.length bc]).cell? ⟨rb, 0, none⟩ = some (.pointer (some ⟨lb, 0, none⟩)) := (cell_setRow_other _ _ _ _ (by show rb ≠ n0; exact d3.symm)).trans k10
    have l2d : V10.drew.cell? ⟨rb, 0, none⟩ = some (.pointer (some ⟨lb, 0, none⟩)) := k10
    have mixed : Tryd.prog.follows Departure.mixedOrders = true := by kernel_rfl
    have YD : Vl (RB V10.drew n0 m p h (.slice fa FL.length fc) (.slice ba B.length bc)) := X10.out.q
    have HEND : Vl (∀ W, W = World.setRow V10.drew n0 #[.string m, .string p, .string h, .slice fa FL.length fc, .slice ba B.length bc] → RB W n0 m p h (.slice fa FL.length fc) (.slice ba B.length bc) ∧ Below w.heap.size w W ∧ FOwn W b6 (.slice fa FL.length fc) FL ∧ Arg W ba B.length bc B) := by
      rintro W rfl
      refine ⟨rq_row YD.out, u_below_grown (HR.out.below.drew) (row_grown _ _ _) HR.out.below.size (fun k hk => by cases hk; exact D5.out), ?_, ?_⟩
      · have ho : FOwn V10.drew b6 (.slice fa FL.length fc) FL := O10.out.kept (⟨rfl, rfl, rfl, Nat.le_refl _, fun _ _ _ => rfl⟩ : V10.grownBy V10.drew none) (by cases hv : (Value.slice fa FL.length fc).ownBlock <;> simp)
        exact World.ownsRow.kept ho (row_grown _ _ _) (Or.inr (fun e => by have := (ho.lt n0 e).1; have := HNB.out.1; omega))
      · have ho : UOwn V10.drew V8.heap.size (.slice ba B.length bc) B := A10.out.1.block (Nat.le_refl _) (fun _ _ => rfl)
        refine UOwn.arg (base := V8.heap.size) (ho.grown (row_grown _ _ _) (fun k hk e => ?_)) A10.out.2.1
        cases e
        have := (ho.base _ hk).1
        have := A10.out.2.2.1
        omega
    go_upto_region 12 with fail
    refine wp_region_any mixed ?_
    change wpAny _ _ _ _ _ _ _ (World.drew _)
    refine wpAny_cast (l' := #[false, false, false, false, false, false, false, false]) rfl ?_
    refine wpAny_ready (rs := [0, 1]) (by kernel_rfl) (by simp) ?_
    refine AllReady.cons rfl (fun K hK => ?_) (AllReady.cons rfl (fun K hK => ?_) AllReady.nil)
    refine step_rqload rfl (.tmp 2) rfl n0 m p h (.slice fa FL.length fc) (.slice ba B.length bc) rfl YD.out ?_
    go_simp
    refine hK _ _ ?_
    clear hK K
    refine wpAny_cast (l' := #[true, false, false, false, false, false, false, false]) rfl ?S0
    rotate_left
    go_simp
    refine hK _ _ ?_
    clear hK K
    refine wpAny_cast (l' := #[false, true, false, false, false, false, false, false]) rfl ?S1
    rotate_left
    refine wpAny_ready (rs := [1, 5]) (by kernel_rfl) (by simp) ?_
    refine AllReady.cons rfl (fun K hK => ?_) (AllReady.cons rfl (fun K hK => ?_) AllReady.nil)
    go_simp
    refine hK _ _ ?_
    clear hK K
    refine wpAny_cast (l' := #[true, true, false, false, false, false, false, false]) rfl ?S01
    rotate_left
    refine step_rqstore rfl (.tmp 2) (.tmp 38) rfl n0 _ _ _ m p h _ _ (.slice fa FL.length fc) (.slice ba B.length bc) rfl rfl YD.out rfl rfl ?_
    go_simp
    refine hK _ _ ?_
    clear hK K
    refine wpAny_cast (l' := #[true, false, false, false, false, true, false, false]) rfl ?S05
    rotate_left
    refine wpAny_ready (rs := [0, 2]) (by kernel_rfl) (by simp) ?_
    refine AllReady.cons rfl (fun K hK => ?_) (AllReady.cons rfl (fun K hK => ?_) AllReady.nil)
    refine step_rqload rfl (.tmp 2) rfl n0 m p h (.slice fa FL.length fc) (.slice ba B.length bc) rfl YD.out ?_
    go_simp
    refine hK _ _ ?_
    clear hK K
    refine wpAny_cast (l' := #[true, true, false, false, false, false, false, false]) rfl ?_
    exact ?S01
    go_simp
    refine hK _ _ ?_
    clear hK K
    refine wpAny_cast (l' := #[false, true, true, false, false, false, false, false]) rfl ?S12
    rotate_left
    refine wpAny_ready (rs := [2, 5]) (by kernel_rfl) (by simp) ?_
    refine AllReady.cons rfl (fun K hK => ?_) (AllReady.cons rfl (fun K hK => ?_) AllReady.nil)
    go_simp
    refine hK _ _ ?_
    clear hK K
    refine wpAny_cast (l' := #[true, true, true, false, false, false, false, false]) rfl ?S012
    rotate_left
    refine step_rqstore rfl (.tmp 2) (.tmp 38) rfl n0 _ _ _ m p h _ _ (.slice fa FL.length fc) (.slice ba B.length bc) rfl rfl YD.out rfl rfl ?_
    go_simp
    refine hK _ _ ?_
    clear hK K
    refine wpAny_cast (l' := #[true, true, false, false, false, true, false, false]) rfl ?S015
    rotate_left
    refine wpAny_ready (rs := [1]) (by kernel_rfl) (by simp) ?_
    refine AllReady.cons rfl (fun K hK => ?_) AllReady.nil
    go_simp
    refine hK _ _ ?_
    clear hK K
    refine wpAny_cast (l' := #[true, true, false, false, false, true, false, false]) rfl ?_
    exact ?S015
    refine wpAny_ready (rs := [0, 3]) (by kernel_rfl) (by simp) ?_
    refine AllReady.cons rfl (fun K hK => ?_) (AllReady.cons rfl (fun K hK => ?_) AllReady.nil)
    refine step_rqload rfl (.tmp 2) rfl n0 m p h (.slice fa FL.length fc) (.slice ba B.length bc) rfl YD.out ?_
    go_simp
    refine hK _ _ ?_
    clear hK K
    refine wpAny_cast (l' := #[true, true, true, false, false, false, false, false]) rfl ?_
    exact ?S012
    go_simp
    refine hK _ _ ?_
    clear hK K
    refine wpAny_cast (l' := #[false, true, true, true, false, false, false, false]) rfl ?S123
    rotate_left
    refine wpAny_ready (rs := [3, 5]) (by kernel_rfl) (by simp) ?_
    refine AllReady.cons rfl (fun K hK => ?_) (AllReady.cons rfl (fun K hK => ?_) AllReady.nil)
    go_simp
    refine hK _ _ ?_
    clear hK K
    refine wpAny_cast (l' := #[true, true, true, true, false, false, false, false]) rfl ?S0123
    rotate_left
    refine step_rqstore rfl (.tmp 2) (.tmp 38) rfl n0 _ _ _ m p h _ _ (.slice fa FL.length fc) (.slice ba B.length bc) rfl rfl YD.out rfl rfl ?_
    go_simp
    refine hK _ _ ?_
    clear hK K
    refine wpAny_cast (l' := #[true, true, true, false, false, true, false, false]) rfl ?S0125
    rotate_left
    refine wpAny_ready (rs := [2]) (by kernel_rfl) (by simp) ?_
    refine AllReady.cons rfl (fun K hK => ?_) AllReady.nil
    go_simp
    refine hK _ _ ?_
    clear hK K
    refine wpAny_cast (l' := #[true, true, true, false, false, true, false, false]) rfl ?_
    exact ?S0125
    refine wpAny_ready (rs := [0, 4]) (by kernel_rfl) (by simp) ?_
    refine AllReady.cons rfl (fun K hK => ?_) (AllReady.cons rfl (fun K hK => ?_) AllReady.nil)
    refine step_rqload rfl (.tmp 2) rfl n0 m p h (.slice fa FL.length fc) (.slice ba B.length bc) rfl YD.out ?_
    go_simp
    refine hK _ _ ?_
    clear hK K
    refine wpAny_cast (l' := #[true, true, true, true, false, false, false, false]) rfl ?_
    exact ?S0123
    go_simp
    refine hK _ _ ?_
    clear hK K
    refine wpAny_cast (l' := #[false, true, true, true, true, false, false, false]) rfl ?S1234
    rotate_left
    refine wpAny_ready (rs := [4, 5]) (by kernel_rfl) (by simp) ?_
    refine AllReady.cons rfl (fun K hK => ?_) (AllReady.cons rfl (fun K hK => ?_) AllReady.nil)
    go_simp
    refine hK _ _ ?_
    clear hK K
    refine wpAny_cast (l' := #[true, true, true, true, true, false, false, false]) rfl ?S01234
    rotate_left
    refine step_rqstore rfl (.tmp 2) (.tmp 38) rfl n0 _ _ _ m p h _ _ (.slice fa FL.length fc) (.slice ba B.length bc) rfl rfl YD.out rfl rfl ?_
    go_simp
    refine hK _ _ ?_
    clear hK K
    refine wpAny_cast (l' := #[true, true, true, true, false, true, false, false]) rfl ?S01235
    rotate_left
    refine wpAny_ready (rs := [3]) (by kernel_rfl) (by simp) ?_
    refine AllReady.cons rfl (fun K hK => ?_) AllReady.nil
    go_simp
    refine hK _ _ ?_
    clear hK K
    refine wpAny_cast (l' := #[true, true, true, true, false, true, false, false]) rfl ?_
    exact ?S01235
    refine wpAny_ready (rs := [0]) (by kernel_rfl) (by simp) ?_
    refine AllReady.cons rfl (fun K hK => ?_) AllReady.nil
    refine step_rqload rfl (.tmp 2) rfl n0 m p h (.slice fa FL.length fc) (.slice ba B.length bc) rfl YD.out ?_
    go_simp
    refine hK _ _ ?_
    clear hK K
    refine wpAny_cast (l' := #[true, true, true, true, true, false, false, false]) rfl ?_
    exact ?S01234
    refine wpAny_ready (rs := [5]) (by kernel_rfl) (by simp) ?_
    refine AllReady.cons rfl (fun K hK => ?_) AllReady.nil
    refine step_rqstore rfl (.tmp 2) (.tmp 38) rfl n0 _ _ _ m p h _ _ (.slice fa FL.length fc) (.slice ba B.length bc) rfl rfl YD.out rfl rfl ?_
    go_simp
    refine hK _ _ ?_
    clear hK K
    refine wpAny_cast (l' := #[true, true, true, true, true, true, false, false]) rfl ?S012345
    rotate_left
    refine wpAny_ready (rs := [4]) (by kernel_rfl) (by simp) ?_
    refine AllReady.cons rfl (fun K hK => ?_) AllReady.nil
    go_simp
    refine hK _ _ ?_
    clear hK K
    refine wpAny_cast (l' := #[true, true, true, true, true, true, false, false]) rfl ?_
    exact ?S012345
    refine wpAny_ready (rs := [6]) (by kernel_rfl) (by simp) ?_
    refine AllReady.cons rfl (fun K hK => ?_) AllReady.nil
    go_simp
    refine hK _ _ ?_
    clear hK K
    refine wpAny_cast (l' := #[true, true, true, true, true, true, true, false]) rfl ?S0123456
    rotate_left
    refine wpAny_ready (rs := [7]) (by kernel_rfl) (by simp) ?_
    refine AllReady.cons rfl (fun K hK => ?_) AllReady.nil
    go_simp
    refine hK _ _ ?_
    clear hK K
    refine wpAny_cast (l' := #[true, true, true, true, true, true, true, true]) rfl ?S01234567
    rotate_left
    refine wpAny_done (by kernel_rfl) ?_ _
    clear YD mixed l0 l1 l0d l2 l2d X10 O10
    obtain ⟨W, hW⟩ : ∃ W, W = World.setRow V10.drew n0 #[.string m, .string p, .string h, .slice fa FL.length fc, .slice ba B.length bc] := ⟨_, rfl⟩
    obtain ⟨hRW, hBW, hOW, hAW⟩ := HEND.out W hW
    rw [← hW]
    clear hW HEND
    obtain ⟨z0, z1, z2, z3, z4⟩ := hRW.cells
    simp only [Exit.then]
    refine ‹∀ (a : Act) (w : World), Code.wp _ Code.ret _ a w → _› _ _ ?_
    refine wp_ret ?_
    try simp only [Exit.then]
    change bodyPost Tryd.prog Tryd.f22 (DAskAns Z w) Exit.ret _ _
    refine bodyPost_ret (v := .tuple #[.agg #[.string m, .string p, .string h, .slice fa FL.length fc, .slice ba B.length bc], .int .i64 q, .nilIface]) (by simp [results, Tryd.results22, go_sem, z0, z1, z2, z3, z4]; try rfl) rfl ?_
    have hend : endF askP Z = (0, ⟨unums m, unums p, unums h, fdsOf FL, B⟩, (q : Int)) := by
      rw [endF_ok (HG.out.symm.trans HEQ.out), hzl]
      congr 2
      simp
      omega
    unfold DAskAns
    rw [hend]
    obtain ⟨_, hfa⟩ := nfrow_of hOW
    exact ⟨⟨m, p, h, fa, FL.length, fc, ba, B.length, bc, FL, B⟩, rfl, ⟨hfa, hAW, A10.out.2.2.2.1, ⟨by show FL.length ≤ _; omega, A10.out.2.2.2.2⟩, ⟨by show m.size ≤ _; omega, by show p.size ≤ _; omega, by show h.size ≤ _; omega⟩, fsmall_at HFS.out⟩, rfl, hBW⟩
  · obtain ⟨x, hx⟩ : ∃ x, x = if bad = 8 ∧ 20000 < len then 4 else bad := ⟨_, rfl⟩
    have hxn : x ≠ 0 := by
      rw [hx]
      split <;> omega
    have HE : Vl (endF askP Z = (x, default, 0)) := by
      rcases HCASE.out with ⟨h1, _⟩ | ⟨_, h1⟩
      · exact absurd h1 hx0
      · have hg : (askP Z).1 = bad := by rw [← HG.out]; exact h1
        unfold endF
        rw [hg, if_neg hx0, hzl, hx]
        split <;> rfl
    rw [← hx, errW_ne hxn]
    have HXN := vl hxn
    have YQ := vl X10.out.q
    clear hx hx0 hxn HCASE k10 X10
    go_wp2_with (refine wpList_rqstore _ rfl _ _ rfl n0 _ _ _ ⟨#[]⟩ ⟨#[]⟩ ⟨#[]⟩ _ _ (.slice none 0 0) (.slice none 0 0) rfl rfl YQ.out rfl rfl ?_)
    intro w12 hR hg12
    have HB12 : Vl (Below w.heap.size w w12) := u_below_grown HR.out.below hg12 HR.out.below.size (fun k hk => by cases hk; exact D5.out)
    obtain ⟨z0, z1, z2, z3, z4⟩ := hR.cells
    clear hR hg12 YQ O10 HR
    go_simp
    refine wpList_plain rfl fun K hK => ?_
    go_simp
    refine hK _ _ ?_
    clear hK K
    refine wpList_plain rfl fun K hK => ?_
    go_simp
    refine hK _ _ ?_
    clear hK K
    simp only [wpList, Exit.then]
    refine ‹∀ (a : Act) (w : World), Code.wp _ Code.ret _ a w → _› _ _ ?_
    refine wp_ret ?_
    try simp only [Exit.then]
    change bodyPost Tryd.prog Tryd.f22 (DAskAns Z w) Exit.ret _ _
    refine bodyPost_ret (v := .tuple #[.agg #[.string ⟨#[]⟩, .string ⟨#[]⟩, .string ⟨#[]⟩, .slice none 0 0, .slice none 0 0], .int .i64 0, .iface 58 (.int .i64 x)]) (by simp [results, Tryd.results22, go_sem, z0, z1, z2, z3, z4]; try rfl) rfl ?_
    unfold DAskAns
    rw [HE.out]
    exact ⟨⟨⟨#[]⟩, ⟨#[]⟩, ⟨#[]⟩, none, 0, 0, none, 0, 0, [], []⟩, by rw [errW_ne HXN.out]; rfl, ⟨Or.inl ⟨rfl, rfl⟩, Or.inl ⟨rfl, rfl⟩, fun _ => ⟨rfl, rfl⟩, ⟨Nat.zero_le _, Nat.zero_le _⟩, ⟨Nat.zero_le _, Nat.zero_le _, Nat.zero_le _⟩, fun t => ⟨Nat.zero_le _, Nat.zero_le _⟩⟩, rfl, HB12.out⟩
theorem nreadask_any : NReadAskSaid nld := fun a len cap Z w _ hA hnil hl => nreadask_ans a len cap Z w hA hnil hl
end Go.Proofs.YtgjolljhjagngafDoor
/-
  MESSAGES AS LINES: a row of requests that is handed in. No claim by itself.
-/
namespace Go.Proofs.YtgjolljhjagngafDoor
open Go.RowKit
set_option maxRecDepth 100000
/-- Requests in a row of memory. -/
structure RqRow (w : World) (g off len cap : Nat) (F : Nat → RqM) : Prop where
  hcap : len ≤ cap
  hmax : cap ≤ maxLen
  hel : ∀ t, t < len → ((w.cell? ⟨g, off + t * 5, none⟩ = some (.string (F t).m) ∧ w.cell? ⟨g, off + t * 5 + 1, none⟩ = some (.string (F t).p)) ∧ (w.cell? ⟨g, off + t * 5 + 2, none⟩ = some (.string (F t).h) ∧ w.cell? ⟨g, off + t * 5 + 3, none⟩ = some (.slice (F t).fa (F t).fn (F t).fc) ∧ w.cell? ⟨g, off + t * 5 + 4, none⟩ = some (.slice (F t).ba (F t).bn (F t).bc))) ∧ RqIn w (F t)
theorem rq_lt {w : World} {g o : Nat} {v : Value} (h : w.cell? ⟨g, o, none⟩ = some v) : g < w.heap.size := by
  rcases Nat.lt_or_ge g w.heap.size with h1 | h1
  · exact h1
  · simp [World.cell?, Array.getElem?_eq_none h1] at h
theorem RqRow.below {w w' : World} {g off len cap : Nat} {F : Nat → RqM} (h : RqRow w g off len cap F) (hb : Below w.heap.size w w') : RqRow w' g off len cap F := by
  refine ⟨h.hcap, h.hmax, fun t ht => ?_⟩
  obtain ⟨⟨⟨h1, h2⟩, h3, h4, h5⟩, h6⟩ := h.hel t ht
  have hg := rq_lt h1
  exact ⟨⟨⟨(hb.cell (p := ⟨g, off + t * 5, none⟩) hg).trans h1, (hb.cell (p := ⟨g, off + t * 5 + 1, none⟩) hg).trans h2⟩, (hb.cell (p := ⟨g, off + t * 5 + 2, none⟩) hg).trans h3, (hb.cell (p := ⟨g, off + t * 5 + 3, none⟩) hg).trans h4, (hb.cell (p := ⟨g, off + t * 5 + 4, none⟩) hg).trans h5⟩, h6.below hb⟩
def RqArg (w : World) (a : Option Addr) (len cap : Nat) (F : Nat → RqM) : Prop := len = 0 ∨ ∃ g off, a = some ⟨g, off, none⟩ ∧ RqRow w g off len cap F
def rqNone : RqM := ⟨⟨#[]⟩, ⟨#[]⟩, ⟨#[]⟩, none, 0, 0, none, 0, 0, [], []⟩
instance : Inhabited RqM := ⟨rqNone⟩
theorem requests_open {H : Type} {enc : TypeId × Value → H} {W : World} {ts : List TypeId} {ds : List (DataW H)} {j fuel : Nat} {d : DataW H} {p : List MemPlace} {a : Option Addr} {len cap : Nat}
    (hsz : (DataW.weightsEach Tryd.prog ts ds).all (· ≤ reachBytes) = true) (hj : ts[j]? = some 56) (hd : ds[j]? = some d)
    (hf : DataW.trod enc Tryd.prog W 0 (fun _ => true) true fuel 56 (Value.slice a len cap).cells.toList = some (d, p)) :
    ∃ F, RqArg W a len cap F := by
  rcases Go.Deep.open_slice Tryd.underlying56 hf with ⟨hcs, _⟩ | ⟨x, l, c, m, n, D, Pl, hcs, _, hl, hm, hmm, hx, hel⟩
  · simp [Value.cells] at hcs
    obtain ⟨rfl, rfl, rfl⟩ := hcs
    exact ⟨fun _ => rqNone, Or.inl rfl⟩
  · simp [Value.cells] at hcs
    obtain ⟨rfl, rfl, rfl⟩ := hcs
    simp only [if_true] at hmm
    subst hmm
    have ce : Tryd.prog.cellsOf 34 = 5 := by kernel_rfl
    have hdd := congrArg Prod.fst hx
    simp only at hdd
    by_cases h0 : len = 0
    · exact ⟨fun _ => rqNone, Or.inl h0⟩
    · obtain ⟨g, off, spot⟩ := x
      have hspot : spot = none := by
        obtain ⟨cs', h1, _⟩ := hel 0 (by omega)
        rw [ce] at h1
        obtain ⟨_, hlen, hcell⟩ := World.cells?_some h1
        have h2 := hcell 0 (by omega)
        have h3 : ∃ u, W.cell? ((Addr.add ⟨g, off, spot⟩ (0 * 5)).add 0) = some u := by
          match cs', hlen, h2 with
          | [v0, v1, v2, v3, v4], _, h2 => exact ⟨_, h2⟩
        obtain ⟨u, h3⟩ := h3
        simpa [Addr.add] using World.cell?_spot h3
      subst hspot
      have each : ∀ r, r < len → ∃ y : RqM, ((W.cell? ⟨g, off + r * 5, none⟩ = some (.string y.m) ∧ W.cell? ⟨g, off + r * 5 + 1, none⟩ = some (.string y.p)) ∧ (W.cell? ⟨g, off + r * 5 + 2, none⟩ = some (.string y.h) ∧ W.cell? ⟨g, off + r * 5 + 3, none⟩ = some (.slice y.fa y.fn y.fc) ∧ W.cell? ⟨g, off + r * 5 + 4, none⟩ = some (.slice y.ba y.bn y.bc))) ∧ RqIn W y := by
        intro r hr
        obtain ⟨cs', h1, ht⟩ := hel r (by omega)
        rw [ce] at h1
        obtain ⟨_, hlen, hcell⟩ := World.cells?_some h1
        obtain ⟨xs, n', _, hx', hl', hlen', hff⟩ := DataW.trod_struct Tryd.underlying34 ht
        match cs', hlen, xs, hlen' with
        | [v0, v1, v2, v3, v4], _, [y0, y1, y2, y3, y4], _ =>
          have q0 := hcell 0 (by omega)
          have q1 := hcell 1 (by omega)
          have q2 := hcell 2 (by omega)
          have q3 := hcell 3 (by omega)
          have q4 := hcell 4 (by omega)
          simp only [n_add, Nat.add_zero, List.getElem?_cons_zero, List.getElem?_cons_succ] at q0 q1 q2 q3 q4
          have t0 := hff 0 _ rfl
          have t1 := hff 1 _ rfl
          have t2 := hff 2 _ rfl
          have t3 := hff 3 _ rfl
          have t4 := hff 4 _ rfl
          have c3 : Tryd.prog.cellsOf 9 = 1 := by kernel_rfl
          have cf : Tryd.prog.cellsOf 32 = 1 := by kernel_rfl
          have cs : Tryd.prog.cellsOf 22 = 1 := by kernel_rfl
          simp [c3, cf, cs] at t0 t1 t2 t3 t4
          have hmem : D r ∈ (List.range len).map D := List.mem_map.2 ⟨r, List.mem_range.2 hr, rfl⟩
          have hD : D r = .agg [y0.1, y1.1, y2.1, y3.1, y4.1] := by
            have := congrArg Prod.fst hx'
            simpa using this
          have hw : ∀ q, q ∈ (DataW.agg [y0.1, y1.1, y2.1, y3.1, y4.1]).weights Tryd.prog 34 → q ≤ reachBytes := fun q hq => by
            refine of_decide_eq_true (List.all_eq_true.1 hsz _ (DataW.weights_mem_each hj hd _ ?_))
            rw [hdd]
            simp only [DataW.weights, Tryd.underlying56, List.mem_cons, List.mem_append]
            refine Or.inr (Or.inl (n_weightsAll ?_ hmem))
            rw [hD]
            exact hq
          simp only [DataW.weights, Tryd.underlying34] at hw
          obtain ⟨s0, rfl, l0⟩ := n_text t0 (fun q hq => hw q (by simp [DataW.weightsEach, hq]))
          obtain ⟨s1, rfl, l1⟩ := n_text t1 (fun q hq => hw q (by simp [DataW.weightsEach, hq]))
          obtain ⟨s2, rfl, l2⟩ := n_text t2 (fun q hq => hw q (by simp [DataW.weightsEach, hq]))
          obtain ⟨fa, fn, fc, L, rfl, f1, f2, f3⟩ := n_fields t3 (fun q hq => hw q (by simp [DataW.weightsEach, hq]))
          obtain ⟨ba, bn, bc, Z, rfl, b1, b2, b3⟩ := n_body t4 (fun q hq => hw q (by simp [DataW.weightsEach, hq]))
          exact ⟨⟨s0, s1, s2, fa, fn, fc, ba, bn, bc, L, Z⟩, ⟨⟨q0, q1⟩, q2, q3, q4⟩, f1, b1, b3, ⟨f2, b2⟩, ⟨l0, l1, l2⟩, f3⟩
      obtain ⟨y, hy⟩ := Go.Deep.choose_lt each
      exact ⟨y, Or.inr ⟨g, off, rfl, hl, hm, fun t ht => hy t ht⟩⟩
end Go.Proofs.YtgjolljhjagngafDoor
/-
  MESSAGES AS LINES: requests in a row, written one behind the other and read one by one. No claim by itself.
-/
namespace Go.Proofs.YtgjolljhjagngafDoor
/-- What is written of the first k of them. -/
def rowsL (R : List Rq) (k : Nat) : List Int := ((R.take k).map askL).flatten
theorem rows_zero (R : List Rq) : rowsL R 0 = [] := by simp [rowsL]
theorem rows_succ {R : List Rq} {k : Nat} (h : k < R.length) : rowsL R (k + 1) = rowsL R k ++ askL (R.getD k default) := by
  unfold rowsL
  have e : R.getD k default = R[k] := by simp [List.getD, List.getElem?_eq_getElem h]
  rw [e, List.take_add_one, List.getElem?_eq_getElem h]
  simp only [Option.toList_some, List.map_append, List.map_cons, List.map_nil, List.flatten_append, List.flatten_cons, List.flatten_nil, List.append_nil]
/-- What is left when i of k are read. -/
def leftL (R : List Rq) (i k : Nat) : List Int := (((R.take k).drop i).map askL).flatten
theorem left_zero (R : List Rq) (k : Nat) : leftL R 0 k = rowsL R k := by simp [leftL, rowsL]
theorem left_end (R : List Rq) (k : Nat) : leftL R k k = [] := by simp [leftL]
theorem left_more {R : List Rq} {i k : Nat} (h : i < k) (hk : k ≤ R.length) : leftL R i k = askL (R.getD i default) ++ leftL R (i + 1) k := by
  unfold leftL
  have hl : i < (R.take k).length := by simp; omega
  rw [List.drop_eq_getElem_cons hl]
  simp only [List.map_cons, List.flatten_cons, List.getElem_take]
  rw [show R.getD i default = R[i]'(by omega) from by simp [List.getD, List.getElem?_eq_getElem (show i < R.length by omega)]]
theorem ask_len (r : Rq) : 1 ≤ (askL r).length := by
  unfold askL
  simp
  omega
theorem left_read {R : List Rq} {i k : Nat} (h : i < k) (hk : k ≤ R.length) (he : askE (R.getD i default) = 0) : endF askP (leftL R i k) = (0, R.getD i default, ((askL (R.getD i default)).length : Int)) := by
  rw [left_more h hk]
  exact endF_at (ask_say he _)
theorem left_drop {R : List Rq} {i k : Nat} (h : i < k) (hk : k ≤ R.length) : (leftL R i k).drop (askL (R.getD i default)).length = leftL R (i + 1) k := by
  rw [left_more h hk]
  simp
theorem rows_len {R : List Rq} : ∀ k, (∀ i, i < k → (askL (R.getD i default)).length ≤ 15000) → k ≤ R.length → (rowsL R k).length ≤ 15000 * k := by
  intro k
  induction k with
  | zero => intro _ _; simp [rowsL]
  | succ k ih =>
    intro h hk
    rw [rows_succ (by omega), List.length_append]
    have := ih (fun i hi => h i (by omega)) (by omega)
    have := h k (by omega)
    omega
end Go.Proofs.YtgjolljhjagngafDoor
/-
  LINEROW: the walk of the law over the contracts. No claim by itself.
-/
namespace Go.Proofs.YtgjolljhjagngafDoor
open Go.RowKit
set_option maxRecDepth 100000
theorem arg_none {w : World} {a : Option Addr} {len cap : Nat} {Z : List Int} (h : Arg w a len cap Z) (e : a = none) : len = 0 := by
  rcases h with ⟨h0, _⟩ | ⟨g, off, e1, _⟩
  · exact h0
  · rw [e] at e1; cases e1
def q00 : RqM := ⟨⟨#[71, 69, 84]⟩, ⟨#[47]⟩, ⟨#[104]⟩, none, 0, 0, none, 0, 0, [], []⟩
theorem q00_in (w : World) : RqIn w q00 := ⟨Or.inl ⟨rfl, rfl⟩, Or.inl ⟨rfl, rfl⟩, fun _ => ⟨rfl, rfl⟩, ⟨Nat.zero_le _, Nat.zero_le _⟩, ⟨by decide, by decide, by decide⟩, fun t => ⟨Nat.zero_le _, Nat.zero_le _⟩⟩
theorem q00_e : askE q00.rq = 0 := by decide
theorem q00_l : strOfNums (askOut q00.rq) = ⟨#[71, 69, 84, 32, 47, 32, 69, 68, 71, 69, 47, 49, 13, 10, 104, 111, 115, 116, 58, 32, 104, 13, 10, 13, 10]⟩ := by decide
def rqR (F : Nat → RqM) (len : Nat) : List Rq := (List.range len).map fun t => (F t).rq
theorem rqR_at {F : Nat → RqM} {len t : Nat} (h : t < len) : (rqR F len).getD t default = (F t).rq := by
  unfold rqR
  simp [List.getD, h]
theorem rqR_len (F : Nat → RqM) (len : Nat) : (rqR F len).length = len := by simp [rqR]
theorem out_ok {r : Rq} (h : askE r = 0) : askOut r = askL r := by unfold askOut; rw [if_pos h]
theorem rows_bytes {F : Nat → RqM} {len : Nat} (h : ∀ j, j < len → Bytes (askL (F j).rq)) : ∀ k, k ≤ len → Bytes (rowsL (rqR F len) k) := by
  intro k
  induction k with
  | zero => intro _; rw [rows_zero]; intro x hx; cases hx
  | succ k ih =>
    intro hk
    rw [rows_succ (by rw [rqR_len]; omega), rqR_at (by omega)]
    exact bytes_app (ih (by omega)) (h k (by omega))
theorem row_part {w : World} {g off len cap : Nat} {Z : List Int} (h : Row w g off len cap Z) (u : Nat) (hu : u ≤ len) :
    ∃ o, (if cap = u then some (⟨g, off, none⟩ : Addr) else some ⟨g, off + u, none⟩) = some ⟨g, o, none⟩ ∧ Arg w (some ⟨g, o, none⟩) (len - u) (cap - u) (Z.drop u) := by
  have hl := h.hlen
  have hc := h.hcap
  by_cases e : cap = u
  · refine ⟨off, by rw [if_pos e], Or.inl ⟨by omega, List.drop_eq_nil_of_le (by omega)⟩⟩
  · refine ⟨off + u, by rw [if_neg e], Or.inr ⟨g, off + u, rfl, by simp; omega, by omega, by have := h.hmax; omega, fun t ht => ?_, fun t => ?_⟩⟩
    · have := h.hcell (u + t) (by omega)
      rw [Nat.add_assoc, this]
      simp [List.getD]
    · have := h.hbyte (u + t)
      simpa [List.getD] using this
set_option maxHeartbeats 4000000 in
theorem nrow_row (D : NLd) (hA : NAskSaid D) (hR : NReadAskSaid D) (g off len cap : Nat) (F : Nat → RqM) (w : World) (h : RqRow w g off len cap F) (h0 : 0 < len) (hd : D.P w) :
    Calls Tryd.prog 7 #[.slice (some ⟨g, off, none⟩) len cap] w fun e w' => e = .returned (.bool true) ∧ Below w.heap.size w w' := by
  have HA := vl hA
  have HR := vl hR
  have HRW := vl h
  have HD := vl (fun W (hb : Below w.heap.size w W) => D.below hd hb)
  have hcap := h.hcap
  have hmax := h.hmax
  unfold maxLen at hmax
  have H0 := vl (HA.out q00 w hd (q00_in w))
  rw [q00_e] at H0
  unfold RqM.val q00 at H0
  simp only [errW_zero] at H0
  clear hA hR h hd
  go_enter Tryd.func7, Tryd.ntmps7
  go_wp2_with fail
  refine H0.out.mono ?_
  rintro e w1 ⟨v1, rfl, ho1, hb1⟩
  have cv := ho1.text
  change _ = Result.ok (Value.string (strOfNums (askOut q00.rq))) w1 at cv
  rw [q00_l] at cv
  have B1 := vl hb1
  have hsz : w.heap.size ≤ w1.heap.size := hb1.size
  obtain ⟨n0, hn0⟩ : ∃ n0, n0 = w.heap.size := ⟨_, rfl⟩
  have EN := vl hn0
  clear H0 ho1 hb1 hn0 hsz
  go_wp2
  go_loopw [5, 6] (fun bv iv wr => ∃ (i : Nat) (ab : Option Addr) (cb : Nat), bv = .slice ab (rowsL (rqR F len) i).length cb ∧ iv = .int .i64 i ∧ i ≤ len ∧ i ≤ 10 ∧ Vl (UOwn wr n0 (.slice ab (rowsL (rqR F len) i).length cb) (rowsL (rqR F len) i)) ∧ Vl (Below w.heap.size w wr) ∧ Vl (∀ j, j < i → askE (F j).rq = 0 ∧ (askL (F j).rq).length ≤ 15000)) (fun _ iv _ => 10 - (intOf iv).toNat)
  case atStart => exact ⟨0, none, 0, by rw [rows_zero]; rfl, rfl, by omega, by omega, Or.inl ⟨by rw [rows_zero]; rfl, rows_zero _⟩, B1, fun j hj => by omega⟩
  case round =>
    obtain ⟨i, ab, cb, rfl, rfl, hi1, hi2, O1, BR, HE⟩ := hrel
    obtain ⟨bl, hbl⟩ : ∃ bl, bl = (rowsL (rqR F len) i).length := ⟨_, rfl⟩
    have HBL := vl hbl
    rw [← hbl] at O1 ⊢
    clear hbl
    go_upto_region 6 with fail
    go_cut [33] (fun b wx => ∃ bb : Bool, b = .bool bb ∧ Vl (wx = wr) ∧ Vl ((bb = true ∧ i < len ∧ i < 10) ∨ (bb = false ∧ (i = len ∨ i = 10))))
    case first =>
      as_aux_lemma =>
        by_cases e1 : (i : Int) < (len : Int)
        · by_cases e2 : (i : Int) < 10
          · go_wp2
            go_meet
            exact ⟨true, by simp, rfl, Or.inl ⟨by simp, by omega, by omega⟩⟩
          · go_wp2
            go_meet
            exact ⟨false, by simp, rfl, Or.inr ⟨by simp, by omega⟩⟩
        · go_wp2
          go_meet
          exact ⟨false, by simp, rfl, Or.inr ⟨by simp, by omega⟩⟩
    case rest =>
    obtain ⟨bb, rfl, hwx, HBB⟩ := hcut
    rw [hwx.out]
    clear hwx
    cases bb with
    | true =>
      as_aux_lemma =>
      obtain ⟨k1, k2⟩ : i < len ∧ i < 10 := by
        rcases HBB.out with ⟨_, h⟩ | ⟨h, _⟩
        · exact h
        · cases h
      have k1' : (i : Int) < (len : Int) := by omega
      obtain ⟨⟨⟨c0, c1⟩, c2, c3, c4⟩, hin⟩ := (HRW.out.below BR.out).hel i k1
      have H2 := vl (HA.out (F i) wr (HD.out wr BR.out) hin)
      unfold RqM.val at H2
      have HBY : Vl (Bytes (askL (F i).rq)) := bytes_askq (F i) hin.body.bytes
      obtain ⟨ea, hea⟩ : ∃ ea, askE (F i).rq = ea := ⟨_, rfl⟩
      rw [hea] at H2
      have HEA := vl hea
      have HS0 : Vl (n0 ≤ wr.heap.size) := by rw [EN.out]; exact BR.out.size
      clear HBB hin hea
      by_cases he : ea = 0
      · subst he
        rw [out_ok HEA.out] at H2
        simp only [errW_zero] at H2
        obtain ⟨AL, hAL⟩ : ∃ AL, AL = askL (F i).rq := ⟨_, rfl⟩
        rw [← hAL] at H2 HBY
        have HAL := vl hAL
        clear hAL
        go_wp2_with fail
        refine H2.out.mono ?_
        rintro e w2 ⟨v2, rfl, ho2, hb2⟩
        obtain ⟨a2, c2', rfl, _, _⟩ := ho2.slice
        have B2 := vl (BR.out.trans (hb2.mono BR.out.size))
        have O2 := vl (O1.out.below hb2)
        have A2 := vl (ho2.arg HBY.out)
        have N2 : Vl (a2 = none → c2' = 0) := fun e => by
          rcases ho2 with ⟨h, _⟩ | ⟨g', cap', h, _⟩
          · simp only [Value.slice.injEq] at h
            exact h.2.2
          · simp only [Value.slice.injEq] at h
            rw [h.1] at e
            cases e
        have hs2 : n0 ≤ w2.heap.size := Nat.le_trans HS0.out hb2.size
        obtain ⟨al, hal⟩ : ∃ al, al = AL.length := ⟨_, rfl⟩
        have HALN := vl hal
        rw [← hal] at A2 ⊢
        clear ho2 hb2 H2 c0 c1 c2 c3 c4 hal O1 BR
        by_cases hb15 : (15000 : Int) < (al : Int)
        · go_wp2
          go_ret
          exact ⟨rfl, B2.out⟩
        · have hbl2 : bl ≤ 15000 * i := by
            rw [HBL.out]
            exact rows_len i (fun j hj => by rw [rqR_at (by omega)]; exact (HE.out j hj).2) (by rw [rqR_len]; omega)
          go_wp2_with (at_builtin; refine wpList_uapp _ rfl _ _ rfl n0 _ (rowsL (rqR F len) i) rfl O2.out a2 al c2' AL rfl A2.out N2.out (by rw [← HBL.out]; omega) hs2 ?_)
          intro v3 w3 ho3 hg3
          have B3 : Vl (Below w.heap.size w w3) := u_below_grown B2.out hg3 B2.out.size (fun k hk => by have := (O2.out.base k hk).1; have := EN.out; omega)
          have ER : Vl (rowsL (rqR F len) i ++ AL = rowsL (rqR F len) (i + 1)) := by
            show _ = _
            rw [rows_succ (by rw [rqR_len]; exact k1), rqR_at k1, ← HAL.out]
          rw [ER.out] at ho3
          obtain ⟨a3, c3', rfl, _, _⟩ := ho3.slice
          have O3 := vl ho3
          have HE3 : Vl (∀ j, j < i + 1 → askE (F j).rq = 0 ∧ (askL (F j).rq).length ≤ 15000) := fun j hj => by
            by_cases hji : j < i
            · exact HE.out j hji
            · obtain rfl : j = i := by omega
              exact ⟨HEA.out, by rw [← HAL.out, ← HALN.out]; omega⟩
          clear ho3 hg3
          go_wp2
          exact ⟨⟨i + 1, a3, c3', rfl, by go_num, by omega, by omega, O3, B3, HE3⟩, by simp [intOf]; omega⟩
      · simp only [errW_not he] at H2
        go_wp2_with fail
        refine H2.out.mono ?_
        rintro e w2 ⟨v2, rfl, ho2, hb2⟩
        have B2 := vl (BR.out.trans (hb2.mono BR.out.size))
        clear ho2 hb2 H2 c0 c1 c2 c3 c4
        go_wp2
        go_ret
        exact ⟨rfl, B2.out⟩
    | false =>
      have hij : i = len ∨ i = 10 := by
        rcases HBB.out with ⟨h, _⟩ | ⟨_, h⟩
        · cases h
        · exact h
      have HBY : Vl (Bytes (rowsL (rqR F len) i)) := rows_bytes (fun j hj => bytes_askq (F j) (HRW.out.hel j hj).2.body.bytes) i hi1
      have A1 : Vl (Arg wr ab bl cb (leftL (rqR F len) 0 i)) := by
        have o := O1.out
        rw [HBL.out] at o
        rw [left_zero, HBL.out]
        exact o.arg HBY.out
      have hbl2 : bl ≤ 15000 * i := by
        rw [HBL.out]
        exact rows_len i (fun j hj => by rw [rqR_at (by omega)]; exact (HE.out j hj).2) (by rw [rqR_len]; omega)
      obtain ⟨wB, hwB⟩ : ∃ wB, wB = wr := ⟨_, rfl⟩
      rw [← hwB] at A1 BR ⊢
      clear hwB HBB HBY O1 HBL
      go_wp2
      go_loopw [5, 9] (fun bv jv wr => ∃ (j : Nat) (ad : Option Addr) (ld cd : Nat), bv = .slice ad ld cd ∧ jv = .int .i64 j ∧ j ≤ i ∧ ld ≤ 150000 ∧ Vl (Arg wr ad ld cd (leftL (rqR F len) j i)) ∧ Vl (Below w.heap.size w wr)) (fun _ jv _ => 10 - (intOf jv).toNat)
      case atStart => exact ⟨0, ab, bl, cb, rfl, rfl, by omega, by omega, A1, BR⟩
      case round =>
        obtain ⟨j, ad, ld, cd, rfl, rfl, hj, hld, AJ, BJ⟩ := hrel
        by_cases hji : j < i
        · have e1 : (j : Int) < (len : Int) := by omega
          have e2 : (j : Int) < 10 := by omega
          have hll := AJ.out.len
          have hjl : j < len := by omega
          have LR : Vl (endF askP (leftL (rqR F len) j i) = (0, (F j).rq, ((askL (F j).rq).length : Int))) := by
            have := left_read (R := rqR F len) hji (by rw [rqR_len]; omega) (by rw [rqR_at hjl]; exact (HE.out j hji).1)
            rw [rqR_at hjl] at this
            exact this
          have LD : Vl ((leftL (rqR F len) j i).drop (askL (F j).rq).length = leftL (rqR F len) (j + 1) i) := by
            have := left_drop (R := rqR F len) hji (by rw [rqR_len]; omega)
            rw [rqR_at hjl] at this
            exact this
          have hmore : (leftL (rqR F len) j i).length = (askL (F j).rq).length + (leftL (rqR F len) (j + 1) i).length := by
            rw [left_more hji (by rw [rqR_len]; omega), rqR_at hjl, List.length_append]
          have hal := ask_len (F j).rq
          obtain ⟨N, hN⟩ : ∃ N, N = (askL (F j).rq).length := ⟨_, rfl⟩
          rw [← hN] at LR LD hmore hal
          have hNl : N ≤ ld := by omega
          have H3 := vl (HR.out ad ld cd _ wr (HD.out wr BJ.out) AJ.out (fun e => arg_none AJ.out e) (by unfold ULim; omega))
          rw [LR.out] at H3
          simp only [errW_zero] at H3
          obtain ⟨gd, od, rfl, hrow⟩ : ∃ gd od, ad = some ⟨gd, od, none⟩ ∧ Row wr gd od ld cd (leftL (rqR F len) j i) := by
            rcases AJ.out with ⟨h0, _⟩ | h0
            · omega
            · exact h0
          obtain ⟨o, ho, hA2⟩ := row_part hrow N hNl
          rw [LD.out] at hA2
          have hcd := hrow.hcap
          have A2 := vl hA2
          have h1N : ¬ (N : Int) < 1 := by omega
          have hNc : (N : Int) ≤ (cd : Int) := by omega
          have hNl2 : (N : Int) ≤ (ld : Int) := by omega
          clear hrow hA2 hmore hN hll LR LD
          go_wp2_with fail
          refine H3.out.mono ?_
          rintro e w7 ⟨q7, rfl, hq7, hr7, hb7⟩
          obtain ⟨W7, hW7⟩ : ∃ W7, W7 = w7.alloc (.cells #[.string q7.m, .string q7.p, .string q7.h, .slice q7.fa q7.fn q7.fc, .slice q7.ba q7.bn q7.bc] 34) := ⟨_, rfl⟩
          have hb77 : Below w7.heap.size w7 W7 := by rw [hW7]; exact (Below.refl _ _).alloc (Nat.le_refl _) _
          have s77 : w7.heap.size + 1 ≤ W7.heap.size := by rw [hW7]; simp
          have Z7 : W7.heap[w7.heap.size]? = some (.cells #[.string q7.m, .string q7.p, .string q7.h, .slice q7.fa q7.fn q7.fc, .slice q7.ba q7.bn q7.bc] 34 (0, 0)) := by rw [hW7]; exact heap_alloc_new w7 _
          have hbb : Below wr.heap.size wr W7 := hb7.trans (hb77.mono hb7.size)
          have B7 : Vl (Below w.heap.size w W7) := BJ.out.trans (hbb.mono BJ.out.size)
          have A7 := vl (A2.out.below hbb)
          obtain ⟨nb, hnb⟩ : ∃ nb, nb = w7.heap.size := ⟨_, rfl⟩
          rw [← hnb] at Z7 s77
          have HS : Vl (∀ wx, Below W7.heap.size W7 wx → (((wx.cell? ⟨nb, 0, none⟩ = some (.string q7.m) ∧ wx.cell? ⟨nb, 1, none⟩ = some (.string q7.p)) ∧ (wx.cell? ⟨nb, 2, none⟩ = some (.string q7.h) ∧ wx.cell? ⟨nb, 3, none⟩ = some (.slice q7.fa q7.fn q7.fc) ∧ wx.cell? ⟨nb, 4, none⟩ = some (.slice q7.ba q7.bn q7.bc))) ∧ ((wx.cell? ⟨g, off + j * 5, none⟩ = some (.string (F j).m) ∧ wx.cell? ⟨g, off + j * 5 + 1, none⟩ = some (.string (F j).p)) ∧ (wx.cell? ⟨g, off + j * 5 + 2, none⟩ = some (.string (F j).h) ∧ wx.cell? ⟨g, off + j * 5 + 3, none⟩ = some (.slice (F j).fa (F j).fn (F j).fc) ∧ wx.cell? ⟨g, off + j * 5 + 4, none⟩ = some (.slice (F j).ba (F j).bn (F j).bc))))) := fun wx hb => by
            have hx := (hb.block nb (by omega)).trans Z7
            refine ⟨?_, ((HRW.out.below (B7.out.trans (hb.mono B7.out.size))).hel j hjl).1⟩
            refine ⟨⟨?_, ?_⟩, ?_, ?_, ?_⟩ <;> simp [World.cell?, hx]
          have HLK := vl (sreq_like q7 (F j) W7.drew ((hq7.below hb77).below ((Below.refl _ _).drew)) (((HRW.out.below B7.out).hel j hjl).2.below ((Below.refl _ _).drew)) hr7)
          have HSD : Vl (∀ wx, Below W7.drew.heap.size W7.drew wx → Below W7.heap.size W7 wx) := fun wx hb => (Below.refl _ _).drew.trans hb
          have QD := vl (HS.out W7.drew ((Below.refl _ _).drew))
          obtain ⟨⟨⟨y0, y1⟩, y2, y3, y4⟩, ⟨y5, y6⟩, y7, y8, y9⟩ := HS.out W7 (Below.refl _ _)
          have HW7 := vl hW7
          have HNB := vl hnb
          unfold RqM.val at HLK ⊢
          clear hW7 hnb hb7 hb77 hbb hq7 hr7 H3 Z7 A2
          go_wp2_with fail
          rw [← HW7.out, ← HNB.out]
          go_region_held3 (fun wx => (((wx.cell? ⟨nb, 0, none⟩ = some (.string q7.m) ∧ wx.cell? ⟨nb, 1, none⟩ = some (.string q7.p)) ∧ (wx.cell? ⟨nb, 2, none⟩ = some (.string q7.h) ∧ wx.cell? ⟨nb, 3, none⟩ = some (.slice q7.fa q7.fn q7.fc) ∧ wx.cell? ⟨nb, 4, none⟩ = some (.slice q7.ba q7.bn q7.bc))) ∧ ((wx.cell? ⟨g, off + j * 5, none⟩ = some (.string (F j).m) ∧ wx.cell? ⟨g, off + j * 5 + 1, none⟩ = some (.string (F j).p)) ∧ (wx.cell? ⟨g, off + j * 5 + 2, none⟩ = some (.string (F j).h) ∧ wx.cell? ⟨g, off + j * 5 + 3, none⟩ = some (.slice (F j).fa (F j).fn (F j).fc) ∧ wx.cell? ⟨g, off + j * 5 + 4, none⟩ = some (.slice (F j).ba (F j).bn (F j).bc)))))
            (first | (with_reducible exact QD.out) | (with_reducible exact HS.out w8 (HSD.out w8 hb8)))
            ((go_at_call 23; refine HLK.out.mono ?_; rintro e w8 ⟨rfl, hb8⟩))
          have B8 : Vl (Below w.heap.size w w8) := B7.out.trans ((HSD.out w8 hb8).mono B7.out.size)
          have A8 := vl (A7.out.below (HSD.out w8 hb8))
          clear hb8 HLK HSD HS QD y0 y1 y2 y3 y4 y5 y6 y7 y8 y9 B7 A7
          go_wp2
          exact ⟨⟨j + 1, some ⟨gd, o, none⟩, ld - N, cd - N, by simp, by go_num, by omega, by omega, A8, B8⟩, by simp [intOf]; omega⟩
        · obtain rfl : j = i := by omega
          have hld0 : ld = 0 := by
            have := AJ.out.len
            rw [left_end] at this
            exact this.symm
          subst hld0
          by_cases e1 : (j : Int) < (len : Int)
          · have e2 : ¬ (j : Int) < 10 := by omega
            go_wp2
            go_ret
            exact ⟨by simp, BJ.out⟩
          · go_wp2
            go_ret
            exact ⟨by simp, BJ.out⟩
/-- No request at all. -/
theorem nrow_none (D : NLd) (hA : NAskSaid D) (a : Option Addr) (cap : Nat) (w : World) (hd : D.P w) :
    Calls Tryd.prog 7 #[.slice a 0 cap] w fun e w' => e = .returned (.bool true) ∧ Below w.heap.size w w' := by
  have H0 := vl (hA q00 w hd (q00_in w))
  rw [q00_e] at H0
  unfold RqM.val q00 at H0
  simp only [errW_zero] at H0
  clear hA hd
  go_enter Tryd.func7, Tryd.ntmps7
  go_wp2_with fail
  refine H0.out.mono ?_
  rintro e w1 ⟨v1, rfl, ho1, hb1⟩
  have cv := ho1.text
  change _ = Result.ok (Value.string (strOfNums (askOut q00.rq))) w1 at cv
  rw [q00_l] at cv
  have B1 := vl hb1
  clear H0 ho1 hb1
  go_wp2
  go_loop [5, 6] (fun b i => b = .slice none 0 0 ∧ i = .int .i64 0) (fun _ _ => 0)
  case atStart => exact ⟨rfl, rfl⟩
  case round =>
    obtain ⟨rfl, rfl⟩ := hrel
    go_wp2
    go_loop [5, 9] (fun b i => b = .slice none 0 0 ∧ i = .int .i64 0) (fun _ _ => 0)
    case atStart => exact ⟨rfl, rfl⟩
    case round =>
      obtain ⟨rfl, rfl⟩ := hrel
      go_wp2
      go_ret
      exact ⟨by simp, B1.out⟩
theorem nrow_ok (D : NLd) (hA : NAskSaid D) (hR : NReadAskSaid D) (a : Option Addr) (len cap : Nat) (F : Nat → RqM) (w : World) (h : RqArg w a len cap F) (hd : D.P w) :
    Calls Tryd.prog 7 #[.slice a len cap] w fun e w' => e = .returned (.bool true) ∧ Below w.heap.size w w' := by
  rcases h with rfl | ⟨g, off, rfl, hr⟩
  · exact nrow_none D hA a cap w hd
  · rcases Nat.eq_zero_or_pos len with rfl | h0
    · exact nrow_none D hA _ cap w hd
    · exact nrow_row D hA hR g off len cap F w hr h0 hd
end Go.Proofs.YtgjolljhjagngafDoor
