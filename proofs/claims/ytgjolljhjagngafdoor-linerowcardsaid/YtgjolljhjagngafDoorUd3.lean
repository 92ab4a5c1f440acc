/-
  CONTRACTS of the Go functions chunk.checkLineEnd and chunk.readSize. No claim by itself.
-/
import Derived.Test.YtgjolljhjagngafDoorRunch
import Derived.Laws.Externs
import Derived.Laws.StandIn
namespace Go.Proofs.YtgjolljhjagngafDoor
open Go.RowKit
set_option maxRecDepth 100000
set_option maxHeartbeats 4000000 in
theorem ucle_any (a : Option Addr) (len cap : Nat) (Z : List Int) (w : World) (hA : Arg w a len cap Z) (hl : len ≤ 281474976710656) :
    Calls Tryd.prog 103 #[.slice a len cap] w fun e w' => e = .returned (errW (mt Z).1) ∧ Below w.heap.size w w' := by
  have hlen := hA.len
  have HA := vl hA
  have HD : Vl (Z.drop 0 = Z) := rfl
  clear hA
  go_enter Tryd.func103, Tryd.ntmps103
  go_wp2_with fail
  go_loopw [4] (fun i wr => ∃ k : Nat, i = .int .i64 k ∧ k ≤ 2 ∧ Vl (MtAt Z 0 k) ∧ Vl (Below w.heap.size w wr)) (fun i _ => 2 - (intOf i).toNat)
  case atStart => exact ⟨0, rfl, by omega, ⟨by omega, fun h => by omega, fun h => by omega⟩, Below.refl _ _⟩
  case round =>
    obtain ⟨k, rfl, hk, HK, HB⟩ := hrel
    by_cases hk2 : k = 2
    · subst hk2
      have HV : Vl (errW (mt Z).1 = .nilIface) := by
        have := mt_right HK.out
        rw [HD.out] at this
        show errW _ = _
        rw [this]
        rfl
      go_wp2
      go_ret
      exact ⟨by rw [HV.out]; rfl, HB.out⟩
    have hk1 : (k : Int) < 2 := by omega
    by_cases hz : k < len
    case neg =>
      have hz' : (len : Int) ≤ (k : Int) := by omega
      have HV : Vl (errW (mt Z).1 = .iface 58 (.int .i64 8)) := by
        have := mt_short HK.out (by omega) (by omega)
        rw [HD.out] at this
        show errW _ = _
        rw [this]
        rfl
      go_wp2
      go_ret
      exact ⟨by rw [HV.out]; rfl, HB.out⟩
    obtain ⟨g, off, rfl, hr⟩ : ∃ g off, a = some ⟨g, off, none⟩ ∧ Row wr g off len cap Z := by
      rcases (HA.out.below HB.out) with ⟨h0, _⟩ | h0
      · omega
      · exact h0
    have hc := hr.hcell k hz
    obtain ⟨y, hy⟩ : ∃ y, Z.getD k 0 = y := ⟨_, rfl⟩
    rw [hy] at hc
    have HY := vl hy
    have hz' : ¬ ((len : Int) ≤ (k : Int)) := by omega
    have hz2 : (k : Int) < (len : Int) := by omega
    clear hy hr
    obtain rfl | rfl : k = 0 ∨ k = 1 := by omega
    · have hc0 : wr.cell? ⟨g, off, none⟩ = some (.int .u8 y) := hc
      have hz1 : 0 < len := by omega
      have hz3 : ¬ (len = 0) := by omega
      clear hc hk1 hk2
      by_cases hy : y = 13
      · subst hy
        have HM : Vl (MtAt Z 0 1) := ⟨by omega, fun _ => HY.out, fun h => by omega⟩
        go_wp2_with fail
        go_quiet (fail)
        go_wp2
        exact ⟨⟨1, rfl, by omega, HM.out, dN_below HB.out _⟩, by simp [intOf]⟩
      · have hyb : (y != ((({ data := #[13, 10] } : ByteArray)[0]'(by decide)).toNat : Int)) = true := by
          show (y != 13) = true
          simpa using hy
        have HV : Vl (errW (mt Z).1 = .iface 58 (.int .i64 2)) := by
          have := mt_wrong HK.out (by omega) (by omega) (by rw [Nat.zero_add, HY.out]; exact hy)
          rw [HD.out] at this
          show errW _ = _
          rw [this]
          rfl
        go_wp2_with fail
        go_quiet (fail)
        go_wp2
        go_ret
        exact ⟨by rw [HV.out]; rfl, dN_below HB.out _⟩
    · have hc0 : wr.cell? ⟨g, off + 1, none⟩ = some (.int .u8 y) := hc
      have hz1 : 1 < len := by omega
      clear hc hk1 hk2
      by_cases hy : y = 10
      · subst hy
        have HM : Vl (MtAt Z 0 2) := ⟨by omega, fun _ => HK.out.2.1 (by omega), fun _ => HY.out⟩
        go_wp2_with fail
        go_quiet (fail)
        go_wp2
        exact ⟨⟨2, rfl, by omega, HM.out, dN_below HB.out _⟩, by simp [intOf]⟩
      · have hyb : (y != ((({ data := #[13, 10] } : ByteArray)[1]'(by decide)).toNat : Int)) = true := by
          show (y != 10) = true
          simpa using hy
        have HV : Vl (errW (mt Z).1 = .iface 58 (.int .i64 2)) := by
          have := mt_wrong HK.out (by omega) (by omega) (by rw [Nat.zero_add, HY.out]; exact hy)
          rw [HD.out] at this
          show errW _ = _
          rw [this]
          rfl
        go_wp2_with fail
        go_quiet (fail)
        go_wp2
        go_ret
        exact ⟨by rw [HV.out]; rfl, dN_below HB.out _⟩
theorem dig_fin : ∀ c : Fin 256, firstIdx digitsS ((c.val : Int)).toNat.toUInt8 = dig (c.val : Int) := by decide +kernel
theorem first_dig (c : Int) (h0 : 0 ≤ c) (h1 : c < 256) : firstIdx digitsS c.toNat.toUInt8 = dig c := by
  have h := dig_fin ⟨c.toNat, by omega⟩
  have e : ((c.toNat : Nat) : Int) = c := by omega
  simp only [e] at h
  exact h
theorem isl_dig (c : Int) (h0 : 0 ≤ c) (h1 : c < 256) (w : World) :
    Calls Tryd.prog 123 #[.string digitsS, .int .u8 c] w fun e w' => e = .returned (.int .i64 (dig c)) ∧ w = w' := by
  go_enter Tryd.func123, Tryd.ntmps123
  have hx := @run_callFunc_indexByte Tryd.prog 129 _ Tryd.func129 (by kernel_rfl) (by kernel_rfl) (by kernel_rfl) (by kernel_rfl)
  have hr : ∀ W : World, (Extern.BytealgIndexByte.indexByte #[.string digitsS, .int .u8 c]).run Tryd.prog W = .ok (.int .i64 (dig c)) W := fun W => by rw [run_indexByte_string, first_dig c h0 h1]
  go_wp2_with fail
  go_ret
  exact ⟨rfl, rfl⟩
theorem idx_dig (c : Int) (h0 : 0 ≤ c) (h1 : c < 256) (w : World) :
    Calls Tryd.prog 115 #[.string digitsS, .int .u8 c] w fun e w' => e = .returned (.int .i64 (dig c)) ∧ w = w' := by
  go_enter Tryd.func115, Tryd.ntmps115
  go_wp2_with fail
  refine (isl_dig c h0 h1 _).mono ?_
  rintro _ _ ⟨rfl, rfl⟩
  go_wp2
  go_ret
  exact ⟨rfl, rfl⟩
theorem dig_bd (c : Int) : -1 ≤ dig c ∧ dig c ≤ 15 := by
  unfold dig
  split
  · omega
  · split <;> omega
/-- What is read of a size: the number, how many bytes, the error. -/
def rsV (m : Int) (Z : List Int) : Value := .tuple #[.int .i64 (if (rdN m 0 0 Z).1 = 0 then (rdN m 0 0 Z).2.1 else 0), .int .i64 (if (rdN m 0 0 Z).1 = 0 then (Z.length : Int) - ((rdN m 0 0 Z).2.2.length : Int) else 0), errW (rdN m 0 0 Z).1]
theorem rsV_bad {m : Int} {Z : List Int} {x : Int} (h : (rdN m 0 0 Z).1 = x) (hx : x ≠ 0) : rsV m Z = .tuple #[.int .i64 0, .int .i64 0, .iface 58 (.int .i64 x)] := by
  unfold rsV errW
  rw [h, if_neg hx, if_neg hx, if_neg hx]
set_option maxHeartbeats 4000000 in
theorem urds_any (a : Option Addr) (len cap : Nat) (Z : List Int) (M : Nat) (w : World) (hA : Arg w a len cap Z) (hl : len ≤ 281474976710656) (hM : M ≤ 8000) :
    Calls Tryd.prog 102 #[.slice a len cap, .int .i64 ((8000 - M : Nat) : Int)] w fun e w' => e = .returned (rsV M Z) ∧ Below w.heap.size w w' := by
  have hlen := hA.len
  have HA := vl hA
  obtain ⟨R, hR⟩ : ∃ R, R = 8000 - M := ⟨_, rfl⟩
  rw [← hR]
  have HR := vl hR
  have hRb : R ≤ 8000 := by omega
  clear hA hR
  go_enter Tryd.func102, Tryd.ntmps102
  go_wp2_with fail
  go_loopw [4, 13] (fun x y wr => ∃ n k : Nat, x = .int .i64 n ∧ y = .int .i64 k ∧ k ≤ len ∧ n ≤ 8000 ∧ (k = 0 → n = 0) ∧ (2 ≤ k → 1 ≤ n) ∧ Vl (rdN M 0 0 Z = rdN M k n (Z.drop k)) ∧ Vl (Below w.heap.size w wr)) (fun _ y _ => len - (intOf y).toNat)
  case atStart => exact ⟨0, 0, rfl, rfl, by omega, by omega, fun _ => rfl, fun h => by omega, rfl, Below.refl _ _⟩
  case round =>
    obtain ⟨n, k, rfl, rfl, hk, hn, hk0, hk2, HX, HB⟩ := hrel
    by_cases hz : k < len
    case neg =>
      have hz' : ¬ ((k : Int) < (len : Int)) := by omega
      have HV : Vl (rsV M Z = .tuple #[.int .i64 0, .int .i64 0, .iface 58 (.int .i64 8)]) := rsV_bad (by rw [HX.out]; exact rd_end (by omega)) (by decide)
      go_wp2
      go_ret3
      exact ⟨by rw [HV.out]; rfl, HB.out⟩
    obtain ⟨g, off, rfl, hr⟩ : ∃ g off, a = some ⟨g, off, none⟩ ∧ Row wr g off len cap Z := by
      rcases (HA.out.below HB.out) with ⟨h0, _⟩ | h0
      · omega
      · exact h0
    have hc := hr.hcell k hz
    have hby := hr.hbyte k
    have hzl : k < Z.length := by omega
    have L0 := vl (fun h => rd_stop0 (m := M) (k := k) (n := n) (Z := Z) (q := k) hzl h)
    have L1 := vl (fun h => rd_stop (m := M) (k := k) (n := n) (Z := Z) (q := k) hzl h)
    have L2 := vl (fun h => rd_zero (m := M) (k := k) (n := n) (Z := Z) (q := k) hzl h)
    have L3 := vl (fun h => rd_over (m := M) (k := k) (n := n) (Z := Z) (q := k) hzl h)
    have L4 := vl (fun h => rd_on (m := M) (k := k) (n := n) (Z := Z) (q := k) hzl h)
    obtain ⟨y, hy⟩ : ∃ y, Z.getD k 0 = y := ⟨_, rfl⟩
    simp only [hy] at hc hby L0 L1 L2 L3 L4
    have hz' : (k : Int) < (len : Int) := by omega
    have HI := vl (idx_dig y hby.1 hby.2 wr)
    have hdb := dig_bd y
    obtain ⟨d, hd⟩ : ∃ d, dig y = d := ⟨_, rfl⟩
    rw [hd] at HI hdb
    simp only [hd] at L0 L1 L2 L3 L4
    clear hy hr hd hzl
    unfold digitsS at HI
    by_cases hd0 : d < 0
    · by_cases hk00 : k = 0
      · subst hk00
        have HV : Vl (rsV M Z = .tuple #[.int .i64 0, .int .i64 0, .iface 58 (.int .i64 2)]) := rsV_bad (by rw [HX.out]; exact L0.out hd0 rfl) (by decide)
        have hc0 : wr.cell? ⟨g, off, none⟩ = some (.int .u8 y) := hc
        clear L0 L1 L2 L3 L4 hc
        go_wp2_with fail
        refine HI.out.mono ?_
        rintro e w2 ⟨rfl, rfl⟩
        go_wp2
        go_ret3
        exact ⟨by rw [HV.out]; rfl, HB.out⟩
      · have HV : Vl (rsV M Z = .tuple #[.int .i64 n, .int .i64 k, .nilIface]) := by
          have h := HX.out.trans (L1.out hd0 hk00)
          show rsV M Z = _
          unfold rsV errW
          rw [h]
          simp
          omega
        have hkp : (0 : Int) < (k : Int) := by omega
        clear L0 L1 L2 L3 L4
        go_wp2_with fail
        refine HI.out.mono ?_
        rintro e w2 ⟨rfl, rfl⟩
        go_wp2
        go_ret3
        exact ⟨by rw [HV.out]; rfl, HB.out⟩
    have hd1 : 0 ≤ d := by omega
    obtain ⟨D, rfl⟩ : ∃ D : Nat, d = D := ⟨d.toNat, by omega⟩
    by_cases hnl : k = 1 ∧ n = 0
    · have HV : Vl (rsV M Z = .tuple #[.int .i64 0, .int .i64 0, .iface 58 (.int .i64 2)]) := rsV_bad (by rw [HX.out]; exact L2.out hd0 ⟨hnl.1, by omega⟩) (by decide)
      obtain ⟨rfl, rfl⟩ := hnl
      clear L0 L1 L2 L3 L4
      go_wp2_with fail
      refine HI.out.mono ?_
      rintro e w2 ⟨rfl, rfl⟩
      go_wp2
      go_ret3
      exact ⟨by rw [HV.out]; rfl, HB.out⟩
    have hor : k = 0 ∨ (0 < k ∧ n ≠ 0) := by omega
    have hnl' : ¬ (k = 1 ∧ (n : Int) = 0) := by omega
    by_cases hov : R < n * 16 + D
    · have HV : Vl (rsV M Z = .tuple #[.int .i64 0, .int .i64 0, .iface 58 (.int .i64 4)]) := rsV_bad (by rw [HX.out]; exact L3.out hd0 hnl' (by have := HR.out; omega)) (by decide)
      have hov' : (R : Int) < (n : Int) * 16 + (D : Int) := by omega
      clear L0 L1 L2 L3 L4 hnl hnl' hk2
      rcases hor with rfl | ⟨hkp, hn0⟩
      · have hc0 : wr.cell? ⟨g, off, none⟩ = some (.int .u8 y) := hc
        obtain rfl := hk0 rfl
        have hov0 : (R : Int) < (D : Int) := by omega
        clear hc hk0 hov' hov
        go_wp2_with fail
        refine HI.out.mono ?_
        rintro e w2 ⟨rfl, rfl⟩
        go_wp2
        go_ret3
        exact ⟨by rw [HV.out]; rfl, HB.out⟩
      · have hkp' : (0 : Int) < (k : Int) := by omega
        have hn0' : ¬ ((n : Int) = 0) := by omega
        go_wp2_with fail
        refine HI.out.mono ?_
        rintro e w2 ⟨rfl, rfl⟩
        go_wp2
        go_ret3
        exact ⟨by rw [HV.out]; rfl, HB.out⟩
    · have HX2 : Vl (rdN M 0 0 Z = rdN M (k + 1) ((n * 16 + D : Nat) : Int) (Z.drop (k + 1))) := by
        show _ = _
        rw [HX.out, L4.out hd0 hnl' (by have := HR.out; omega)]
        simp
      have hov' : ¬ ((R : Int) < (n : Int) * 16 + (D : Int)) := by omega
      clear L0 L1 L2 L3 L4 hnl hnl' hk2
      rcases hor with rfl | ⟨hkp, hn0⟩
      · have hc0 : wr.cell? ⟨g, off, none⟩ = some (.int .u8 y) := hc
        obtain rfl := hk0 rfl
        have HX3 : Vl (rdN M 0 0 Z = rdN M 1 ((D : Nat) : Int) (Z.drop 1)) := by
          have h := HX2.out
          rw [show (0 * 16 + D : Nat) = D by omega] at h
          exact h
        have hov0 : ¬ ((R : Int) < (D : Int)) := by omega
        have hov1 : D ≤ R := by omega
        clear hc hk0 hov' hov
        go_wp2_with fail
        refine HI.out.mono ?_
        rintro e w2 ⟨rfl, rfl⟩
        go_wp2
        exact ⟨⟨D, 1, rfl, rfl, by omega, by omega, fun h => by omega, fun h => by omega, HX3.out, HB.out⟩, by simp [intOf]; omega⟩
      · have hkp' : (0 : Int) < (k : Int) := by omega
        have hn0' : ¬ ((n : Int) = 0) := by omega
        go_wp2_with fail
        refine HI.out.mono ?_
        rintro e w2 ⟨rfl, rfl⟩
        go_wp2
        go_roundw
        case rel => exact ⟨n * 16 + D, k + 1, by go_num, by go_num, by omega, by omega, fun h => by omega, (fun _ => by have : 1 ≤ n := by omega
                                                                                                                        omega), HX2.out, HB.out⟩
        case measure => simp [intOf]; omega
end Go.Proofs.YtgjolljhjagngafDoor
