/-
  BODIES IN PIECES: the document's Unchunk. No claim by itself.
-/
import Derived.Deep.DeepCutAuto
import Derived.Deep.CutBlock
import Derived.Laws.Externs
import Derived.Laws.StandIn
import Derived.Handy
import Derived.BigQuiet
import Derived.Deep.QuietTactic
import Derived.BigRegion
import Derived.Lib.AppendZerosOnto
import Derived.Lib.SliceRun
import Derived.Lib.Walk
import Derived.WalkKit
import Derived.LaidEql
import Derived.Stop.Asserts
import Derived.RowKitTokens
import Derived.LoopN
import Derived.Test.YtkaihfminlincafGreatDoorRmt
import Derived.Test.YtkaihfminlincafGreatDoorRchk2
import Derived.Test.YtkaihfminlincafGreatDoorUenc
import Derived.Test.YtkaihfminlincafGreatDoorNmath2
import Derived.Test.YtkaihfminlincafGreatDoorNdv7
import Derived.Test.YtkaihfminlincafGreatDoorNdv9
namespace Go.Proofs.YtkaihfminlincafGreatDoor
open Go.RowKit
set_option maxRecDepth 100000
section
variable {m : Int} {k : Nat} {n : Int} {Z : List Int} {q : Nat}
theorem rd_end (h : Z.length ≤ q) : (rdN m k n (Z.drop q)).1 = 8 := by rw [List.drop_eq_nil_of_le h]; simp [rdN]
theorem rd_stop0 (h : q < Z.length) (hd : dig (Z.getD q 0) < 0) (hk : k = 0) : (rdN m k n (Z.drop q)).1 = 2 := by rw [drop_at h, rdN, if_pos hd, if_pos hk]
theorem rd_stop (h : q < Z.length) (hd : dig (Z.getD q 0) < 0) (hk : k ≠ 0) : rdN m k n (Z.drop q) = (0, n, Z.drop q) := by rw [drop_at h, rdN, if_pos hd, if_neg hk]
theorem rd_zero (h : q < Z.length) (hd : ¬ dig (Z.getD q 0) < 0) (hk : k = 1 ∧ n = 0) : (rdN m k n (Z.drop q)).1 = 2 := by rw [drop_at h, rdN, if_neg hd, if_pos hk]
theorem rd_over (h : q < Z.length) (hd : ¬ dig (Z.getD q 0) < 0) (hk : ¬ (k = 1 ∧ n = 0)) (ho : 8000 < m + (n * 16 + dig (Z.getD q 0))) : (rdN m k n (Z.drop q)).1 = 4 := by rw [drop_at h, rdN, if_neg hd, if_neg hk, if_pos ho]
theorem rd_on (h : q < Z.length) (hd : ¬ dig (Z.getD q 0) < 0) (hk : ¬ (k = 1 ∧ n = 0)) (ho : ¬ 8000 < m + (n * 16 + dig (Z.getD q 0))) : rdN m k n (Z.drop q) = rdN m (k + 1) (n * 16 + dig (Z.getD q 0)) (Z.drop (q + 1)) := by rw [drop_at h, rdN, if_neg hd, if_neg hk, if_neg ho]
end
/-- How far it was read. -/
structure UnS (Z acc : List Int) (p : Nat) : Prop where
  un : unF (Z.length + 1) [] Z = unF (Z.length + 1) acc (Z.drop p)
  le : p ≤ Z.length
  room : acc.length ≤ 8000
theorem UnS.start (Z : List Int) : UnS Z [] 0 := ⟨by rw [List.drop_zero], by omega, by simp⟩
theorem UnS.fault {Z acc : List Int} {p : Nat} (h : UnS Z acc p) {e : Int} (he : e ≠ 0) (hu : unF (Z.length + 1) acc (Z.drop p) = (e, [], [])) : unchF Z = (e, [], 0) := by
  unfold unchF
  rw [h.un, hu]
  simp [he]
theorem UnS.done {Z acc : List Int} {p q : Nat} (h : UnS Z acc p) (hq : q ≤ Z.length) (hu : unF (Z.length + 1) acc (Z.drop p) = (0, acc, Z.drop q)) : unchF Z = (0, acc, (q : Int)) := by
  unfold unchF
  rw [h.un, hu]
  simp
  omega
theorem UnS.next {Z acc : List Int} {p q : Nat} (h : UnS Z acc p) {n : Int} {r r2 : List Int} (hp : Pc acc (Z.drop p) n r r2 (Z.drop q)) (hn : n ≠ 0) (hq : q ≤ Z.length) (hr : (acc ++ r2.take n.toNat).length ≤ 8000) : UnS Z (acc ++ r2.take n.toNat) q := by
  refine ⟨?_, hq, hr⟩
  rw [h.un, unF_go hp hn]
  have l := (pc_len hp).1
  have l1 : (Z.drop q).length ≤ Z.length := by simp
  simp only [List.length_drop] at l
  exact unF_fuel _ _ _ _ (by simp; omega) (by simp; omega)
/-- What a digit is, by a byte's place. -/
theorem dig_A {c : Int} (h : c < 48) : dig c = -1 := by unfold dig; rw [if_neg (by omega), if_neg (by omega)]
theorem dig_B {c : Int} (h : 48 ≤ c) (h2 : c ≤ 57) : dig c = c - 48 := by unfold dig; rw [if_neg (by omega), if_pos (by omega)]
theorem dig_C {c : Int} (h : 57 < c) (h2 : c < 97) : dig c = -1 := by unfold dig; rw [if_neg (by omega), if_neg (by omega)]
theorem dig_D {c : Int} (h : 97 ≤ c) (h2 : c ≤ 102) : dig c = c - 87 := by unfold dig; rw [if_pos (by omega)]
theorem dig_E {c : Int} (h : 102 < c) : dig c = -1 := by unfold dig; rw [if_neg (by omega), if_neg (by omega)]
def UnV (Z : List Int) (w : World) (e : Ending) (w' : World) : Prop := ∃ v, e = .returned (.tuple #[v, .int .i64 (unchF Z).2.2, .int .i64 (unchF Z).1]) ∧ UOwn w' w.heap.size v (unchF Z).2.1 ∧ Below w.heap.size w w'
theorem unV_fault {Z : List Int} {w w' : World} {e : Int} (h : unchF Z = (e, [], 0)) (hb : Below w.heap.size w w') : UnV Z w (.returned (.tuple #[.slice none 0 0, .int .i64 0, .int .i64 e])) w' := by
  unfold UnV
  rw [h]
  exact ⟨_, rfl, Or.inl ⟨rfl, rfl⟩, hb⟩
theorem unV_done {Z acc : List Int} {w w' : World} {v : Value} {q : Int} (h : unchF Z = (0, acc, q)) (ho : UOwn w' w.heap.size v acc) (hb : Below w.heap.size w w') : UnV Z w (.returned (.tuple #[v, .int .i64 q, .int .i64 0])) w' := by
  unfold UnV
  rw [h]
  exact ⟨_, rfl, ho, hb⟩
end Go.Proofs.YtkaihfminlincafGreatDoor
/-
  CONTRACTS of the Go functions chunk.checkLineEnd and chunk.readSize. No claim by itself.
-/
namespace Go.Proofs.YtkaihfminlincafGreatDoor
open Go.RowKit
set_option maxRecDepth 100000
set_option maxHeartbeats 4000000 in
theorem ucle_any (a : Option Addr) (len cap : Nat) (Z : List Int) (w : World) (hA : Arg w a len cap Z) (hl : len ≤ 281474976710656) :
    Calls Tryz.prog 96 #[.slice a len cap] w fun e w' => e = .returned (errW (mt Z).1) ∧ Below w.heap.size w w' := by
  have hlen := hA.len
  have HA := vl hA
  have HD : Vl (Z.drop 0 = Z) := rfl
  clear hA
  go_enter Tryz.func96, Tryz.ntmps96
  go_wp2_with fail
  go_loopw [4] (fun i wr => ∃ k : Nat, i = .int .i64 k ∧ k ≤ 2 ∧ Vl (MtAt Z 0 k) ∧ Vl (Below w.heap.size w wr)) (fun i _ => 2 - (intOf i).toNat)
  case atStart => exact ⟨0, rfl, by omega, ⟨by omega, fun h => by omega, fun h => by omega⟩, Below.refl _ _⟩
  case round =>
    obtain ⟨k, rfl, hk, HK, HB⟩ := hrel
    by_cases hk2 : k = 2
    · subst hk2
      have HV : Vl (errW (mt Z).1 = .nilIface) := by
        have := mt_right HK.out
        rw [HD.out] at this
        show errW _ = _
        rw [this]
        rfl
      go_wp2
      go_ret
      exact ⟨by rw [HV.out]; rfl, HB.out⟩
    have hk1 : (k : Int) < 2 := by omega
    by_cases hz : k < len
    case neg =>
      have hz' : (len : Int) ≤ (k : Int) := by omega
      have HV : Vl (errW (mt Z).1 = .iface 57 (.int .i64 8)) := by
        have := mt_short HK.out (by omega) (by omega)
        rw [HD.out] at this
        show errW _ = _
        rw [this]
        rfl
      go_wp2
      go_ret
      exact ⟨by rw [HV.out]; rfl, HB.out⟩
    obtain ⟨g, off, rfl, hr⟩ : ∃ g off, a = some ⟨g, off, none⟩ ∧ Row wr g off len cap Z := by
      rcases (HA.out.below HB.out) with ⟨h0, _⟩ | h0
      · omega
      · exact h0
    have hc := hr.hcell k hz
    obtain ⟨y, hy⟩ : ∃ y, Z.getD k 0 = y := ⟨_, rfl⟩
    rw [hy] at hc
    have HY := vl hy
    have hz' : ¬ ((len : Int) ≤ (k : Int)) := by omega
    have hz2 : (k : Int) < (len : Int) := by omega
    clear hy hr
    obtain rfl | rfl : k = 0 ∨ k = 1 := by omega
    · have hc0 : wr.cell? ⟨g, off, none⟩ = some (.int .u8 y) := hc
      have hz1 : 0 < len := by omega
      have hz3 : ¬ (len = 0) := by omega
      clear hc hk1 hk2
      by_cases hy : y = 13
      · subst hy
        have HM : Vl (MtAt Z 0 1) := ⟨by omega, fun _ => HY.out, fun h => by omega⟩
        go_wp2_with fail
        go_quiet (fail)
        go_wp2
        exact ⟨⟨1, rfl, by omega, HM.out, dN_below HB.out _⟩, by simp [intOf]⟩
      · have hyb : (y != ((({ data := #[13, 10] } : ByteArray)[0]'(by decide)).toNat : Int)) = true := by
          show (y != 13) = true
          simpa using hy
        have HV : Vl (errW (mt Z).1 = .iface 57 (.int .i64 2)) := by
          have := mt_wrong HK.out (by omega) (by omega) (by rw [Nat.zero_add, HY.out]; exact hy)
          rw [HD.out] at this
          show errW _ = _
          rw [this]
          rfl
        go_wp2_with fail
        go_quiet (fail)
        go_wp2
        go_ret
        exact ⟨by rw [HV.out]; rfl, dN_below HB.out _⟩
    · have hc0 : wr.cell? ⟨g, off + 1, none⟩ = some (.int .u8 y) := hc
      have hz1 : 1 < len := by omega
      clear hc hk1 hk2
      by_cases hy : y = 10
      · subst hy
        have HM : Vl (MtAt Z 0 2) := ⟨by omega, fun _ => HK.out.2.1 (by omega), fun _ => HY.out⟩
        go_wp2_with fail
        go_quiet (fail)
        go_wp2
        exact ⟨⟨2, rfl, by omega, HM.out, dN_below HB.out _⟩, by simp [intOf]⟩
      · have hyb : (y != ((({ data := #[13, 10] } : ByteArray)[1]'(by decide)).toNat : Int)) = true := by
          show (y != 10) = true
          simpa using hy
        have HV : Vl (errW (mt Z).1 = .iface 57 (.int .i64 2)) := by
          have := mt_wrong HK.out (by omega) (by omega) (by rw [Nat.zero_add, HY.out]; exact hy)
          rw [HD.out] at this
          show errW _ = _
          rw [this]
          rfl
        go_wp2_with fail
        go_quiet (fail)
        go_wp2
        go_ret
        exact ⟨by rw [HV.out]; rfl, dN_below HB.out _⟩
theorem dig_fin : ∀ c : Fin 256, firstIdx digitsS ((c.val : Int)).toNat.toUInt8 = dig (c.val : Int) := by decide +kernel
theorem first_dig (c : Int) (h0 : 0 ≤ c) (h1 : c < 256) : firstIdx digitsS c.toNat.toUInt8 = dig c := by
  have h := dig_fin ⟨c.toNat, by omega⟩
  have e : ((c.toNat : Nat) : Int) = c := by omega
  simp only [e] at h
  exact h
theorem isl_dig (c : Int) (h0 : 0 ≤ c) (h1 : c < 256) (w : World) :
    Calls Tryz.prog 100 #[.string digitsS, .int .u8 c] w fun e w' => e = .returned (.int .i64 (dig c)) ∧ w = w' := by
  go_enter Tryz.func100, Tryz.ntmps100
  have hx := @run_callFunc_indexByte Tryz.prog 101 _ Tryz.func101 (by kernel_rfl) (by kernel_rfl) (by kernel_rfl) (by kernel_rfl)
  have hr : ∀ W : World, (Extern.BytealgIndexByte.indexByte #[.string digitsS, .int .u8 c]).run Tryz.prog W = .ok (.int .i64 (dig c)) W := fun W => by rw [run_indexByte_string, first_dig c h0 h1]
  go_wp2_with fail
  go_ret
  exact ⟨rfl, rfl⟩
theorem idx_dig (c : Int) (h0 : 0 ≤ c) (h1 : c < 256) (w : World) :
    Calls Tryz.prog 99 #[.string digitsS, .int .u8 c] w fun e w' => e = .returned (.int .i64 (dig c)) ∧ w = w' := by
  go_enter Tryz.func99, Tryz.ntmps99
  go_wp2_with fail
  refine (isl_dig c h0 h1 _).mono ?_
  rintro _ _ ⟨rfl, rfl⟩
  go_wp2
  go_ret
  exact ⟨rfl, rfl⟩
theorem dig_bd (c : Int) : -1 ≤ dig c ∧ dig c ≤ 15 := by
  unfold dig
  split
  · omega
  · split <;> omega
/-- What is read of a size: the number, how many bytes, the error. -/
def rsV (m : Int) (Z : List Int) : Value := .tuple #[.int .i64 (if (rdN m 0 0 Z).1 = 0 then (rdN m 0 0 Z).2.1 else 0), .int .i64 (if (rdN m 0 0 Z).1 = 0 then (Z.length : Int) - ((rdN m 0 0 Z).2.2.length : Int) else 0), errW (rdN m 0 0 Z).1]
theorem rsV_bad {m : Int} {Z : List Int} {x : Int} (h : (rdN m 0 0 Z).1 = x) (hx : x ≠ 0) : rsV m Z = .tuple #[.int .i64 0, .int .i64 0, .iface 57 (.int .i64 x)] := by
  unfold rsV errW
  rw [h, if_neg hx, if_neg hx, if_neg hx]
set_option maxHeartbeats 4000000 in
theorem urds_any (a : Option Addr) (len cap : Nat) (Z : List Int) (M : Nat) (w : World) (hA : Arg w a len cap Z) (hl : len ≤ 281474976710656) (hM : M ≤ 8000) :
    Calls Tryz.prog 95 #[.slice a len cap, .int .i64 ((8000 - M : Nat) : Int)] w fun e w' => e = .returned (rsV M Z) ∧ Below w.heap.size w w' := by
  have hlen := hA.len
  have HA := vl hA
  obtain ⟨R, hR⟩ : ∃ R, R = 8000 - M := ⟨_, rfl⟩
  rw [← hR]
  have HR := vl hR
  have hRb : R ≤ 8000 := by omega
  clear hA hR
  go_enter Tryz.func95, Tryz.ntmps95
  go_wp2_with fail
  go_loopw [4, 13] (fun x y wr => ∃ n k : Nat, x = .int .i64 n ∧ y = .int .i64 k ∧ k ≤ len ∧ n ≤ 8000 ∧ (k = 0 → n = 0) ∧ (2 ≤ k → 1 ≤ n) ∧ Vl (rdN M 0 0 Z = rdN M k n (Z.drop k)) ∧ Vl (Below w.heap.size w wr)) (fun _ y _ => len - (intOf y).toNat)
  case atStart => exact ⟨0, 0, rfl, rfl, by omega, by omega, fun _ => rfl, fun h => by omega, rfl, Below.refl _ _⟩
  case round =>
    obtain ⟨n, k, rfl, rfl, hk, hn, hk0, hk2, HX, HB⟩ := hrel
    by_cases hz : k < len
    case neg =>
      have hz' : ¬ ((k : Int) < (len : Int)) := by omega
      have HV : Vl (rsV M Z = .tuple #[.int .i64 0, .int .i64 0, .iface 57 (.int .i64 8)]) := rsV_bad (by rw [HX.out]; exact rd_end (by omega)) (by decide)
      go_wp2
      go_ret3
      exact ⟨by rw [HV.out]; rfl, HB.out⟩
    obtain ⟨g, off, rfl, hr⟩ : ∃ g off, a = some ⟨g, off, none⟩ ∧ Row wr g off len cap Z := by
      rcases (HA.out.below HB.out) with ⟨h0, _⟩ | h0
      · omega
      · exact h0
    have hc := hr.hcell k hz
    have hby := hr.hbyte k
    have hzl : k < Z.length := by omega
    have L0 := vl (fun h => rd_stop0 (m := M) (k := k) (n := n) (Z := Z) (q := k) hzl h)
    have L1 := vl (fun h => rd_stop (m := M) (k := k) (n := n) (Z := Z) (q := k) hzl h)
    have L2 := vl (fun h => rd_zero (m := M) (k := k) (n := n) (Z := Z) (q := k) hzl h)
    have L3 := vl (fun h => rd_over (m := M) (k := k) (n := n) (Z := Z) (q := k) hzl h)
    have L4 := vl (fun h => rd_on (m := M) (k := k) (n := n) (Z := Z) (q := k) hzl h)
    obtain ⟨y, hy⟩ : ∃ y, Z.getD k 0 = y := ⟨_, rfl⟩
    simp only [hy] at hc hby L0 L1 L2 L3 L4
    have hz' : (k : Int) < (len : Int) := by omega
    have HI := vl (idx_dig y hby.1 hby.2 wr)
    have hdb := dig_bd y
    obtain ⟨d, hd⟩ : ∃ d, dig y = d := ⟨_, rfl⟩
    rw [hd] at HI hdb
    simp only [hd] at L0 L1 L2 L3 L4
    clear hy hr hd hzl
    unfold digitsS at HI
    by_cases hd0 : d < 0
    · by_cases hk00 : k = 0
      · subst hk00
        have HV : Vl (rsV M Z = .tuple #[.int .i64 0, .int .i64 0, .iface 57 (.int .i64 2)]) := rsV_bad (by rw [HX.out]; exact L0.out hd0 rfl) (by decide)
        have hc0 : wr.cell? ⟨g, off, none⟩ = some (.int .u8 y) := hc
        clear L0 L1 L2 L3 L4 hc
        go_wp2_with fail
        refine HI.out.mono ?_
        rintro e w2 ⟨rfl, rfl⟩
        go_wp2
        go_ret3
        exact ⟨by rw [HV.out]; rfl, HB.out⟩
      · have HV : Vl (rsV M Z = .tuple #[.int .i64 n, .int .i64 k, .nilIface]) := by
          have h := HX.out.trans (L1.out hd0 hk00)
          show rsV M Z = _
          unfold rsV errW
          rw [h]
          simp
          omega
        have hkp : (0 : Int) < (k : Int) := by omega
        clear L0 L1 L2 L3 L4
        go_wp2_with fail
        refine HI.out.mono ?_
        rintro e w2 ⟨rfl, rfl⟩
        go_wp2
        go_ret3
        exact ⟨by rw [HV.out]; rfl, HB.out⟩
    have hd1 : 0 ≤ d := by omega
    obtain ⟨D, rfl⟩ : ∃ D : Nat, d = D := ⟨d.toNat, by omega⟩
    by_cases hnl : k = 1 ∧ n = 0
    · have HV : Vl (rsV M Z = .tuple #[.int .i64 0, .int .i64 0, .iface 57 (.int .i64 2)]) := rsV_bad (by rw [HX.out]; exact L2.out hd0 ⟨hnl.1, by omega⟩) (by decide)
      obtain ⟨rfl, rfl⟩ := hnl
      clear L0 L1 L2 L3 L4
      go_wp2_with fail
      refine HI.out.mono ?_
      rintro e w2 ⟨rfl, rfl⟩
      go_wp2
      go_ret3
      exact ⟨by rw [HV.out]; rfl, HB.out⟩
    have hor : k = 0 ∨ (0 < k ∧ n ≠ 0) := by omega
    have hnl' : ¬ (k = 1 ∧ (n : Int) = 0) := by omega
    by_cases hov : R < n * 16 + D
    · have HV : Vl (rsV M Z = .tuple #[.int .i64 0, .int .i64 0, .iface 57 (.int .i64 4)]) := rsV_bad (by rw [HX.out]; exact L3.out hd0 hnl' (by have := HR.out; omega)) (by decide)
      have hov' : (R : Int) < (n : Int) * 16 + (D : Int) := by omega
      clear L0 L1 L2 L3 L4 hnl hnl' hk2
      rcases hor with rfl | ⟨hkp, hn0⟩
      · have hc0 : wr.cell? ⟨g, off, none⟩ = some (.int .u8 y) := hc
        obtain rfl := hk0 rfl
        have hov0 : (R : Int) < (D : Int) := by omega
        clear hc hk0 hov' hov
        go_wp2_with fail
        refine HI.out.mono ?_
        rintro e w2 ⟨rfl, rfl⟩
        go_wp2
        go_ret3
        exact ⟨by rw [HV.out]; rfl, HB.out⟩
      · have hkp' : (0 : Int) < (k : Int) := by omega
        have hn0' : ¬ ((n : Int) = 0) := by omega
        go_wp2_with fail
        refine HI.out.mono ?_
        rintro e w2 ⟨rfl, rfl⟩
        go_wp2
        go_ret3
        exact ⟨by rw [HV.out]; rfl, HB.out⟩
    · have HX2 : Vl (rdN M 0 0 Z = rdN M (k + 1) ((n * 16 + D : Nat) : Int) (Z.drop (k + 1))) := by
        show _ = _
        rw [HX.out, L4.out hd0 hnl' (by have := HR.out; omega)]
        simp
      have hov' : ¬ ((R : Int) < (n : Int) * 16 + (D : Int)) := by omega
      clear L0 L1 L2 L3 L4 hnl hnl' hk2
      rcases hor with rfl | ⟨hkp, hn0⟩
      · have hc0 : wr.cell? ⟨g, off, none⟩ = some (.int .u8 y) := hc
        obtain rfl := hk0 rfl
        have HX3 : Vl (rdN M 0 0 Z = rdN M 1 ((D : Nat) : Int) (Z.drop 1)) := by
          have h := HX2.out
          rw [show (0 * 16 + D : Nat) = D by omega] at h
          exact h
        have hov0 : ¬ ((R : Int) < (D : Int)) := by omega
        have hov1 : D ≤ R := by omega
        clear hc hk0 hov' hov
        go_wp2_with fail
        refine HI.out.mono ?_
        rintro e w2 ⟨rfl, rfl⟩
        go_wp2
        exact ⟨⟨D, 1, rfl, rfl, by omega, by omega, fun h => by omega, fun h => by omega, HX3.out, HB.out⟩, by simp [intOf]; omega⟩
      · have hkp' : (0 : Int) < (k : Int) := by omega
        have hn0' : ¬ ((n : Int) = 0) := by omega
        go_wp2_with fail
        refine HI.out.mono ?_
        rintro e w2 ⟨rfl, rfl⟩
        go_wp2
        go_roundw
        case rel => exact ⟨n * 16 + D, k + 1, by go_num, by go_num, by omega, by omega, fun h => by omega, (fun _ => by have : 1 ≤ n := by omega
                                                                                                                        omega), HX2.out, HB.out⟩
        case measure => simp [intOf]; omega
end Go.Proofs.YtkaihfminlincafGreatDoor
/-
  CONTRACT of the Go function chunk.readPiece. No claim by itself.
-/
namespace Go.Proofs.YtkaihfminlincafGreatDoor
open Go.RowKit
set_option maxRecDepth 100000
/-- A piece at the beginning of bytes: where its size ends, how many bytes it has. -/
structure PAt (M : Nat) (Z : List Int) (q n : Nat) : Prop where
  h1 : rdN M 0 0 Z = (0, (n : Int), Z.drop q)
  h2 : mt (Z.drop q) = (0, Z.drop (q + 2))
  h3 : q + 2 + n ≤ Z.length
  h4 : mt (Z.drop (q + 2 + n)) = (0, Z.drop (q + 2 + n + 2))
  h5 : q + 2 + n + 2 ≤ Z.length
  h6 : M + n ≤ 8000
theorem PAt.pc {bd Z : List Int} {M q n : Nat} (h : PAt M Z q n) (hM : bd.length = M) : Pc bd Z n (Z.drop q) (Z.drop (q + 2)) (Z.drop (q + 2 + n + 2)) := by
  have h3 := h.h3
  exact ⟨by rw [hM]; exact h.h1, h.h2, by rw [List.length_drop]; omega, by rw [Int.toNat_natCast, List.drop_drop]; exact h.h4⟩
/-- What is told of a piece. -/
def RpTold (M : Nat) (Z : List Int) (a : Option Addr) (cap : Nat) (r : Value) : Prop :=
  (∃ x, x ≠ 0 ∧ (∀ (bd : List Int) (g : Nat), bd.length = M → unF (g + 1) bd Z = (x, [], [])) ∧ r = .tuple #[.agg #[.slice none 0 0, .int .i64 0], .iface 57 (.int .i64 x)]) ∨
  (∃ q n g off, PAt M Z q n ∧ a = some ⟨g, off, none⟩ ∧ r = .tuple #[.agg #[.slice (some ⟨g, off + (q + 2), none⟩) n (cap - (q + 2)), .int .i64 ((q + 2 + n + 2 : Nat) : Int)], .nilIface])
theorem rd_room (m : Int) : ∀ (b : List Int) (k : Nat) (n : Int) {v : Int} {r : List Int}, rdN m k n b = (0, v, r) → m + n ≤ 8000 → m + v ≤ 8000 ∧ ∃ q, q ≤ b.length ∧ r = b.drop q ∧ (k = 0 → 1 ≤ q) := by
  intro b
  induction b with
  | nil => intro k n v r h; simp [rdN] at h
  | cons c t ih =>
    intro k n v r h hm
    unfold rdN at h
    split at h
    · split at h
      · simp at h
      · rename_i hk
        simp at h
        obtain ⟨rfl, rfl⟩ := h
        exact ⟨hm, 0, by omega, rfl, fun e => absurd e hk⟩
    · split at h
      · simp at h
      · split at h
        · simp at h
        · obtain ⟨i1, q, i2, i3, _⟩ := ih _ _ h (by omega)
          exact ⟨i1, q + 1, by simp; omega, by rw [i3]; rfl, fun _ => by omega⟩
theorem pb_cell {w : World} {B : Nat} {x y : Value} (h : w.heap[B]? = some (.cells #[x, y] 109 (0, 0))) : w.cell? ⟨B, 0, none⟩ = some x ∧ w.cell? ⟨B, 1, none⟩ = some y ∧ w.frozen? ⟨B, 0, none⟩ = false ∧ w.frozen? ⟨B, 1, none⟩ = false := by simp [World.cell?, World.frozen?, h]
theorem pb_set0 {w : World} {B : Nat} {x y : Value} (h : w.heap[B]? = some (.cells #[x, y] 109 (0, 0))) (a : Value) : (w.setCell ⟨B, 0, none⟩ a).heap[B]? = some (.cells #[a, y] 109 (0, 0)) := by
  simp [World.setCell, Array.getElem?_modify, h]
theorem pb_set1 {w : World} {B : Nat} {x y : Value} (h : w.heap[B]? = some (.cells #[x, y] 109 (0, 0))) (a : Value) : (w.setCell ⟨B, 1, none⟩ a).heap[B]? = some (.cells #[x, a] 109 (0, 0)) := by
  simp [World.setCell, Array.getElem?_modify, h]
theorem zero_piece (w : World) : (zeroValue 109).run Tryz.prog w = .ok (.agg #[.slice none 0 0, .int .i64 0]) w := by kernel_rfl
set_option maxHeartbeats 4000000 in
theorem urdp_any (a : Option Addr) (len cap : Nat) (Z : List Int) (M : Nat) (w : World) (hA : Arg w a len cap Z) (hl : len ≤ 281474976710656) (hM : M ≤ 8000) :
    Calls Tryz.prog 88 #[.slice a len cap, .int .i64 ((8000 - M : Nat) : Int)] w fun e w' => ∃ r, e = .returned r ∧ RpTold M Z a cap r ∧ Below w.heap.size w w' := by
  have hlen := hA.len
  have HA := vl hA
  obtain ⟨W1, hW1⟩ : ∃ W1, W1 = w.alloc (.cells #[.slice none 0 0, .int .i64 0] 109) := ⟨_, rfl⟩
  have hb1 : Below w.heap.size w W1 := by rw [hW1]; exact (Below.refl _ _).alloc (Nat.le_refl _) _
  have hh1 : W1.heap[w.heap.size]? = some (.cells #[.slice none 0 0, .int .i64 0] 109 (0, 0)) := by rw [hW1]; exact heap_alloc_new w _
  have hs1 : w.heap.size < W1.heap.size := by rw [hW1]; simp
  have H1 := vl (urds_any a len cap Z M W1 (hA.below hb1) hl hM)
  have HB1 := vl hb1
  have HH1 := vl hh1
  clear hA hb1 hh1
  obtain ⟨R, hR⟩ : ∃ R, R = 8000 - M := ⟨_, rfl⟩
  rw [← hR] at H1 ⊢
  clear hR
  obtain ⟨G, hG⟩ : ∃ G, G = w.heap.size := ⟨_, rfl⟩
  rw [← hG] at HH1 hs1
  have hGw : w.heap.size ≤ G := Nat.le_of_eq hG.symm
  go_enter Tryz.func88, Tryz.ntmps88
  go_wp2_with fail
  rw [← hW1, ← hG]
  clear hW1 hG
  refine H1.out.mono ?_
  rintro e w2 ⟨rfl, hb2⟩
  have HH2 : Vl (w2.heap[G]? = some (.cells #[.slice none 0 0, .int .i64 0] 109 (0, 0))) := (hb2.block _ hs1).trans HH1.out
  have HB2 : Vl (Below w.heap.size w w2) := HB1.out.trans (hb2.mono HB1.out.size)
  clear H1 hb2 HH1 HB1 hs1
  obtain ⟨c0, c1, f0, f1⟩ := pb_cell HH2.out
  by_cases e1 : (rdN M 0 0 Z).1 = 0
  case neg =>
    obtain ⟨x, hx⟩ : ∃ x, (rdN M 0 0 Z).1 = x := ⟨_, rfl⟩
    rw [hx] at e1
    rw [rsV_bad hx e1]
    have HT : Vl (RpTold M Z a cap (.tuple #[.agg #[.slice none 0 0, .int .i64 0], .iface 57 (.int .i64 x)])) := Or.inl ⟨x, e1, fun bd g hbd => unF_f1 (by rw [hbd]; exact hx) e1, rfl⟩
    clear hx
    have d0 := (pb_cell (pb_set1 (pb_set0 HH2.out (.slice none 0 0)) (.int .i64 0))).1
    have d1 := (pb_cell (pb_set1 (pb_set0 HH2.out (.slice none 0 0)) (.int .i64 0))).2.1
    go_wp2
    refine bodyPost_ret (v := .tuple #[.agg #[.slice none 0 0, .int .i64 0], .iface 57 (.int .i64 x)]) (by simp [results, Tryz.results88, go_sem, d0, d1]; try rfl) rfl ?_
    exact ⟨_, rfl, HT.out, (HB2.out.setCell (p := ⟨G, 0, none⟩) hGw _).setCell (p := ⟨G, 1, none⟩) hGw _⟩
  obtain ⟨x0, v, r, hx⟩ : ∃ x0 v r, rdN M 0 0 Z = (x0, v, r) := ⟨_, _, _, rfl⟩
  obtain rfl : x0 = 0 := by rw [hx] at e1; exact e1
  obtain ⟨hv1, q, hq, rfl, hq1⟩ := rd_room _ _ _ _ hx (by omega)
  have hq1 := hq1 rfl
  obtain ⟨n, rfl⟩ : ∃ n : Nat, v = n := ⟨v.toNat, by have := (rdN_len _ _ _ _ hx).2 (by omega); omega⟩
  have hrv : rsV M Z = .tuple #[.int .i64 n, .int .i64 q, .nilIface] := by
    unfold rsV errW
    rw [hx]
    simp
    omega
  rw [hrv]
  have HX := vl hx
  clear hrv hx e1
  obtain ⟨g, off, rfl, hr2⟩ : ∃ g off, a = some ⟨g, off, none⟩ ∧ Row w2 g off len cap Z := by
    rcases HA.out.below HB2.out with ⟨h0, _⟩ | h0
    · omega
    · exact h0
  have hcp := hr2.hcap
  have hmx := hr2.hmax
  unfold maxLen at hmx
  obtain ⟨o1, ho1, hr21⟩ := u_cut hr2 q (len - q) (by omega)
  rw [List.take_of_length_le (by rw [List.length_drop]; omega)] at hr21
  have HC1 := vl (ucle_any _ _ _ _ w2 (Or.inr ⟨g, o1, rfl, hr21⟩) (by omega))
  have HR2 := vl hr2
  have hq' : (q : Int) ≤ (len : Int) := by omega
  clear hr2 hr21
  go_wp2_with fail
  refine HC1.out.mono ?_
  rintro e w3 ⟨rfl, hb3⟩
  have HH3 : Vl (w3.heap[G]? = some (.cells #[.slice none 0 0, .int .i64 0] 109 (0, 0))) := (hb3.block _ (Array.getElem?_eq_some_iff.1 HH2.out).1).trans HH2.out
  have HB3 : Vl (Below w.heap.size w w3) := HB2.out.trans (hb3.mono HB2.out.size)
  have HR3 := vl (HR2.out.below hb3)
  clear HC1 hb3 HH2 HB2 HR2 c0 c1 f0 f1 ho1
  obtain ⟨c0, c1, f0, f1⟩ := pb_cell HH3.out
  obtain ⟨x2, r2, hx2⟩ : ∃ x2 r2, mt (Z.drop q) = (x2, r2) := ⟨_, _, rfl⟩
  have e2 : (mt (Z.drop q)).1 = x2 := by rw [hx2]
  by_cases h2 : x2 = 0
  case neg =>
    rw [e2, show errW x2 = .iface 57 (.int .i64 x2) by unfold errW; rw [if_neg h2]]
    have HT : Vl (RpTold M Z (some ⟨g, off, none⟩) cap (.tuple #[.agg #[.slice none 0 0, .int .i64 0], .iface 57 (.int .i64 x2)])) := Or.inl ⟨x2, h2, fun bd g hbd => unF_f2 (by rw [hbd]; exact HX.out) e2 h2, rfl⟩
    clear hx2 e2
    have d0 := (pb_cell (pb_set1 (pb_set0 HH3.out (.slice none 0 0)) (.int .i64 0))).1
    have d1 := (pb_cell (pb_set1 (pb_set0 HH3.out (.slice none 0 0)) (.int .i64 0))).2.1
    go_wp2
    refine bodyPost_ret (v := .tuple #[.agg #[.slice none 0 0, .int .i64 0], .iface 57 (.int .i64 x2)]) (by simp [results, Tryz.results88, go_sem, d0, d1]; try rfl) rfl ?_
    exact ⟨_, rfl, HT.out, (HB3.out.setCell (p := ⟨G, 0, none⟩) hGw _).setCell (p := ⟨G, 1, none⟩) hGw _⟩
  subst h2
  rw [e2]
  have hz := mt_ok hx2
  have hzl : q + 2 ≤ len := by
    have := congrArg List.length hz
    rw [List.length_drop] at this
    simp at this
    omega
  have hr2 : r2 = Z.drop (q + 2) := by
    have := congrArg (List.drop 2) hz
    rw [List.drop_drop] at this
    exact this.symm
  subst hr2
  have HX2 := vl hx2
  have hee : errW 0 = .nilIface := rfl
  rw [hee]
  clear hx2 e2 hz hee
  by_cases h3 : q + 2 + n ≤ len
  case neg =>
    have HT : Vl (RpTold M Z (some ⟨g, off, none⟩) cap (.tuple #[.agg #[.slice none 0 0, .int .i64 0], .iface 57 (.int .i64 8)])) := Or.inl ⟨8, by decide, fun bd g hbd => unF_f3 (by rw [hbd]; exact HX.out) HX2.out (by rw [List.length_drop]; omega), rfl⟩
    have h3' : (len : Int) < (q : Int) + 2 + (n : Int) := by omega
    have d0 := (pb_cell (pb_set1 (pb_set0 HH3.out (.slice none 0 0)) (.int .i64 0))).1
    have d1 := (pb_cell (pb_set1 (pb_set0 HH3.out (.slice none 0 0)) (.int .i64 0))).2.1
    go_wp2
    refine bodyPost_ret (v := .tuple #[.agg #[.slice none 0 0, .int .i64 0], .iface 57 (.int .i64 8)]) (by simp [results, Tryz.results88, go_sem, d0, d1]; try rfl) rfl ?_
    exact ⟨_, rfl, HT.out, (HB3.out.setCell (p := ⟨G, 0, none⟩) hGw _).setCell (p := ⟨G, 1, none⟩) hGw _⟩
  obtain ⟨p, hp⟩ : ∃ p, p = q + 2 := ⟨_, rfl⟩
  have hpi : (q : Int) + 2 = (p : Int) := by omega
  obtain ⟨t, ht⟩ : ∃ t, t = p + n := ⟨_, rfl⟩
  have hti : (p : Int) + (n : Int) = (t : Int) := by omega
  have HP0 := vl hp
  rw [← hp] at h3 hzl
  clear hp
  obtain ⟨o4, ho4, hr4⟩ := u_cut HR3.out t (len - t) (by omega)
  rw [List.take_of_length_le (by rw [List.length_drop]; omega)] at hr4
  have HC4 := vl (ucle_any _ _ _ _ w3 (Or.inr ⟨g, o4, rfl, hr4⟩) (by omega))
  have HT0 := vl ht
  have htl : (t : Int) ≤ (len : Int) := by omega
  have htl' : ¬ ((len : Int) < (t : Int)) := by omega
  clear hr4 ht
  go_wp2_with fail
  refine HC4.out.mono ?_
  rintro e w4 ⟨rfl, hb4⟩
  have HH4 : Vl (w4.heap[G]? = some (.cells #[.slice none 0 0, .int .i64 0] 109 (0, 0))) := (hb4.block _ (Array.getElem?_eq_some_iff.1 HH3.out).1).trans HH3.out
  have HB4 : Vl (Below w.heap.size w w4) := HB3.out.trans (hb4.mono HB3.out.size)
  have HR4 := vl (HR3.out.below hb4)
  clear HC4 hb4 HH3 HB3 HR3 c0 c1 f0 f1 ho4
  obtain ⟨c0, c1, f0, f1⟩ := pb_cell HH4.out
  obtain ⟨x4, r4, hx4⟩ : ∃ x4 r4, mt (Z.drop t) = (x4, r4) := ⟨_, _, rfl⟩
  have e4 : (mt (Z.drop t)).1 = x4 := by rw [hx4]
  by_cases h4 : x4 = 0
  case neg =>
    rw [e4, show errW x4 = .iface 57 (.int .i64 x4) by unfold errW; rw [if_neg h4]]
    have HT : Vl (RpTold M Z (some ⟨g, off, none⟩) cap (.tuple #[.agg #[.slice none 0 0, .int .i64 0], .iface 57 (.int .i64 x4)])) := Or.inl ⟨x4, h4, fun bd g hbd => unF_f4 (by rw [hbd]; exact HX.out) HX2.out (by rw [List.length_drop, ← HP0.out]; omega) (by rw [Int.toNat_natCast, List.drop_drop, ← HP0.out, ← HT0.out]; exact e4) h4, rfl⟩
    clear hx4 e4
    have d0 := (pb_cell (pb_set1 (pb_set0 HH4.out (.slice none 0 0)) (.int .i64 0))).1
    have d1 := (pb_cell (pb_set1 (pb_set0 HH4.out (.slice none 0 0)) (.int .i64 0))).2.1
    go_wp2
    refine bodyPost_ret (v := .tuple #[.agg #[.slice none 0 0, .int .i64 0], .iface 57 (.int .i64 x4)]) (by simp [results, Tryz.results88, go_sem, d0, d1]; try rfl) rfl ?_
    exact ⟨_, rfl, HT.out, (HB4.out.setCell (p := ⟨G, 0, none⟩) hGw _).setCell (p := ⟨G, 1, none⟩) hGw _⟩
  subst h4
  rw [e4]
  have hz4 := mt_ok hx4
  have hzl4 : t + 2 ≤ len := by
    have := congrArg List.length hz4
    rw [List.length_drop] at this
    simp at this
    omega
  have hr4 : r4 = Z.drop (t + 2) := by
    have := congrArg (List.drop 2) hz4
    rw [List.drop_drop] at this
    exact this.symm
  subst hr4
  have HPA : Vl (PAt M Z q n) := by
    refine ⟨HX.out, HX2.out, ?_, ?_, ?_, by have := hv1; omega⟩
    · rw [← HP0.out]; omega
    · rw [← HP0.out, ← HT0.out]; exact hx4
    · rw [← HP0.out, ← HT0.out]; omega
  have hee : errW 0 = .nilIface := rfl
  rw [hee]
  obtain ⟨o5, ho5, hr5⟩ := u_cut HR4.out p n (by omega)
  rw [if_neg (show ¬ (cap = p) by omega)] at ho5
  obtain rfl : o5 = off + p := by simp at ho5; exact ho5.symm
  clear ho5
  have HR5 := vl hr5
  have htp : t - p = n := by omega
  have htp2 : (p : Int) ≤ (t : Int) := by omega
  have htc : (t : Int) ≤ (cap : Int) := by omega
  clear hx4 e4 hz4 hee hr5
  have d0 := (pb_cell (pb_set1 (pb_set0 HH4.out (.slice (some ⟨g, off + p, none⟩) n (cap - p))) (.int .i64 ((t : Int) + 2)))).1
  have d1 := (pb_cell (pb_set1 (pb_set0 HH4.out (.slice (some ⟨g, off + p, none⟩) n (cap - p))) (.int .i64 ((t : Int) + 2)))).2.1
  go_wp2
  refine bodyPost_ret (v := .tuple #[.agg #[.slice (some ⟨g, off + p, none⟩) n (cap - p), .int .i64 ((t : Int) + 2)], .nilIface]) (by simp [results, Tryz.results88, go_sem, d0, d1]; try rfl) rfl ?_
  refine ⟨_, rfl, Or.inr ⟨q, n, g, off, HPA.out, rfl, ?_⟩, (HB4.out.setCell (p := ⟨G, 0, none⟩) hGw _).setCell (p := ⟨G, 1, none⟩) hGw _⟩
  rw [← HP0.out, ← HT0.out]
  simp
end Go.Proofs.YtkaihfminlincafGreatDoor
/-
  CONTRACTS of the Go function chunk.pieces, and of what it hands back. No claim by itself.
-/
namespace Go.Proofs.YtkaihfminlincafGreatDoor
open Go Go.RowKit Go.Shelf
set_option maxRecDepth 100000
attribute [local go_sem] Oper.semAt_some
/-- A piece that is handed over: where it lies, how many bytes it takes, its error, its bytes. -/
structure PE where
  sl : Value
  used : Nat
  er : Value
  P : List Int
structure PV (w : World) (x : PE) : Prop where
  small : x.P.length ≤ 8000
  used : x.used ≤ 281474976710656
  kind : (x.er = .nilIface ∧ ∃ o c, x.sl = .slice (some o) x.P.length c ∧ Arg w (some o) x.P.length c x.P) ∨ (∃ e : Int, e ≠ 0 ∧ x.er = .iface 57 (.int .i64 e) ∧ x.sl = .slice none 0 0 ∧ x.P = [] ∧ x.used = 0)
abbrev PX (w : World) := { x : PE // PV w x }
def pxV (w : World) (x : PX w) : Array Value := #[.agg #[x.1.sl, .int .i64 (x.1.used : Int)], x.1.er]
def allP {w : World} (l : List (PX w)) : List Int := (l.map fun x => x.1.P).flatten
def sumU {w : World} : List (PX w) → Nat
  | [] => 0
  | x :: r => x.1.used + sumU r
theorem allP_snoc {w : World} (l : List (PX w)) (x : PX w) : allP (l ++ [x]) = allP l ++ x.1.P := by simp [allP]
theorem sumU_snoc {w : World} (l : List (PX w)) (x : PX w) : sumU (l ++ [x]) = sumU l + x.1.used := by
  induction l with
  | nil => simp [sumU]
  | cons y r ih => simp only [List.cons_append, sumU, ih]; omega
/-- What a round keeps: what lay below n₀, and each piece's own two cells. -/
structure KpP (n₀ : Nat) (W W' : World) : Prop where
  below : Below n₀ W W'
  keep : ∀ (k : Nat) (a : Option Addr) (n c : Nat) (y : Value), W.heap[k]? = some (.cells #[.slice a n c, y] 109 (0, 0)) → W'.heap[k]? = some (.cells #[.slice a n c, y] 109 (0, 0))
theorem KpP.refl (n₀ : Nat) (W : World) : KpP n₀ W W := ⟨Below.refl _ _, fun _ _ _ _ _ h => h⟩
theorem KpP.trans {n₀ : Nat} {A B C : World} (h : KpP n₀ A B) (k : KpP n₀ B C) : KpP n₀ A C := ⟨h.below.trans k.below, fun i a n c y hi => k.keep i a n c y (h.keep i a n c y hi)⟩
theorem KpP.put {n₀ : Nat} {w : World} (hn : n₀ ≤ w.heap.size) (W : World) (l : Nat) (o o' : Obj) (hl : w.heap.size ≤ l) (h : W.heap[l]? = some o) (h1 : o.isCells = false) (h2 : o.isWalk = false) : KpP n₀ W (W.putObj l o') :=
  ⟨belowK_b hn W l o o' hl h h1 h2, fun k a n c y hk => (World.putObj_heap_other (fun e => by subst e; rw [hk] at h; cases h; cases h1)).trans hk⟩
/-- All pieces have come. -/
def PAll (w : World) (Z : List Int) (xs : List (PX w)) : Prop := ∃ q y, xs = q ++ [y] ∧ ((y.1.er = .nilIface ∧ unchF Z = (0, allP xs, (sumU xs : Int))) ∨ (∃ e : Int, e ≠ 0 ∧ y.1.er = .iface 57 (.int .i64 e) ∧ unchF Z = (e, [], 0)))
/-- Some have. -/
def PSome (w : World) (Z : List Int) (xs : List (PX w)) : Prop := ∃ q y, xs = q ++ [y] ∧ ∀ e : Int, e ≠ 0 → y.1.er = .iface 57 (.int .i64 e) → unchF Z = (e, [], 0)
theorem below_grown {W W' : World} (h : Below W.heap.size W W') : W.grownBy W' none := ⟨h.os, h.tape, h.output, h.size, fun k hk _ => h.block k hk⟩
theorem abides_below {β : Type} {B : Nat} {J : β → World → Prop} (hJ : AbidesFrom B J) {s : β} {W W' : World} (h : J s W) (hb : Below W.heap.size W W') : J s W' := hJ s W W' none h (below_grown hb) (fun r e => by cases e)
theorem Arg.cut {w : World} {g off len cap : Nat} {Z : List Int} (h : Arg w (some ⟨g, off, none⟩) len cap Z) (h1 : 1 ≤ len) : Row w g off len cap Z := by
  rcases h with ⟨h0, _⟩ | ⟨g', off', he, hr⟩
  · omega
  · cases he; exact hr
/-- The pieces, one by one. -/
theorem pieces_call (a : Option Addr) (len cap : Nat) (w : World) :
    Calls Tryz.prog 78 #[.slice a len cap] w fun e w' => e = .returned (.func (.func 87) #[] #[.pointer (some ⟨w.heap.size, 0, none⟩)]) ∧ w' = w.alloc (.cells #[.slice a len cap] 23) := by
  go_enter Tryz.func78, Tryz.ntmps78
  go_wp2
  go_ret
  exact ⟨rfl, rfl⟩
/-- A piece's cells, laid anew. -/
def laidP (w : World) (x y : Value) : World := w.alloc (.cells #[x, y] 109)
theorem laidP_at (w : World) (x y : Value) : (laidP w x y).heap[w.heap.size]? = some (.cells #[x, y] 109 (0, 0)) := heap_alloc_new w _
theorem laidP_below (w : World) (x y : Value) : Below w.heap.size w (laidP w x y) := (Below.refl _ _).alloc (Nat.le_refl _) _
set_option maxHeartbeats 4000000 in
theorem pieces_in (n : Nat) (hn : 1 ≤ n) (l Bb : Nat) (w : World) (a : Option Addr) (len cap : Nat) (Z : List Int) (hA : Arg w a len cap Z) (hl : len ≤ 281474976710656) (B : Nat) (J Jx : List (PX w) → World → Prop) (hJ : AbidesFrom B J)
    (hY : ∀ pre x W, J pre W → pre.length < 8002 → YieldAt Fence.wide (n - 1) Tryz.prog l (pxV w x) W fun e W' =>
      (e = .returned (.bool true) ∧ J (pre ++ [x]) W' ∧ KpP w.heap.size W W') ∨ (e = .returned (.bool false) ∧ Jx (pre ++ [x]) W'))
    (W : World) (hBW : Below w.heap.size w W) (hB : Boxed W Bb 23 (.slice a len cap)) (h0 : J [] W) :
    CallsIn Fence.wide n Tryz.prog 87 #[.func (.yield l) #[] #[], .pointer (some ⟨Bb, 0, none⟩)] W fun e W' => (∃ v, e = .returned v) ∧
      ((∃ ys, PAll w Z ys ∧ J ys W') ∨ (∃ pre, PSome w Z pre ∧ Jx pre W')) := by
  have hlen := hA.len
  have cB := hB.cell
  have HA := vl hA
  have HBW := vl hBW
  have HJ := vl hJ
  have HY := vl hY
  have H0 := vl h0
  clear hA hBW hB hJ hY h0
  refine callsIn_of_wp Tryz.func87 rfl trivial ?_ rfl
  simp only [Tryz.ntmps87, List.size_toArray, List.length_cons, List.length_nil, Nat.reduceAdd, Nat.reduceSub, Array.replicate_succ, Array.replicate_zero, List.push_toArray, List.append_toArray, List.nil_append, List.cons_append]
  gi_wp2
  gi_loopw [3, 4] (fun x y wr => ∃ (pre : List (PX w)) (av : Option Addr) (cv p M : Nat), x = .slice av (len - p) cv ∧ y = .int .i64 ((8000 - M : Nat) : Int) ∧ p ≤ len ∧ M ≤ 8000 ∧ pre.length ≤ M ∧
      Vl (Arg w av (len - p) cv (Z.drop p)) ∧ Vl (UnS Z (allP pre) p ∧ (allP pre).length = M ∧ sumU pre = p) ∧ Vl (J pre wr) ∧ Vl (Below w.heap.size w wr)) (fun x _ _ => match x with | .slice _ n _ => n | _ => 0)
  case atStart => exact ⟨[], a, cap, 0, 0, rfl, rfl, by omega, by omega, by simp, HA.out, ⟨UnS.start Z, rfl, rfl⟩, H0.out, HBW.out⟩
  case round =>
    obtain ⟨pre, av, cv, p, M, rfl, rfl, hp, hM, hpl, HAv, HU, HJ1, HB1⟩ := hrel
    have H1 := vl (urdp_any av (len - p) cv (Z.drop p) M wr (HAv.out.below HB1.out) (by omega) hM)
    clear cB
    gi_wp2_with fail
    refine ⟨trivial, ?_⟩
    refine (callsIn_wide.2 H1.out).mono ?_
    rintro e w2 ⟨r, rfl, ht, hb2⟩
    have HJ2 := vl (abides_below HJ.out HJ1.out hb2)
    have HB2 : Vl (Below w.heap.size w w2) := HB1.out.trans (hb2.mono HB1.out.size)
    clear H1 hb2 HJ1 HB1
    obtain ⟨c0, c1, f0, f1⟩ := pb_cell (show (w2.alloc (.cells #[.slice none 0 0, .int .i64 0] 109)).heap[w2.heap.size]? = _ from heap_alloc_new w2 _)
    rcases ht with ⟨x, hx0, hun, rfl⟩ | ⟨q, nn, g, off, hpa, rfl, rfl⟩
    · have HF : Vl (unchF Z = (x, [], 0)) := HU.out.1.fault hx0 (hun _ _ HU.out.2.1)
      obtain ⟨X, hX⟩ : ∃ X : PX w, X.1 = ⟨.slice none 0 0, 0, .iface 57 (.int .i64 x), []⟩ := ⟨⟨⟨.slice none 0 0, 0, .iface 57 (.int .i64 x), []⟩, by simp, by simp, Or.inr ⟨x, hx0, rfl, rfl, rfl, rfl⟩⟩, rfl⟩
      have HJ3 := vl (abides_below HJ.out HJ2.out (laidP_below w2 (.slice none 0 0) (.int .i64 0)))
      obtain ⟨fn, tmps, assign, body, hy, hR⟩ := HY.out pre X _ HJ3.out (by omega)
      have hpx : pxV w X = #[.agg #[.slice none 0 0, .int .i64 0], .iface 57 (.int .i64 x)] := by unfold pxV; rw [hX]; rfl
      rw [hpx] at hy
      have d0 := (pb_cell (laidP_at w2 (.slice none 0 0) (.int .i64 0))).1
      have d1 := (pb_cell (laidP_at w2 (.slice none 0 0) (.int .i64 0))).2.1
      have HR := vl hR
      have HX := vl hX
      clear hun hpx hR HJ3 HJ2 hX
      unfold laidP at d0 d1 hy HR
      gi_wp2
      refine HR.out.mono ?_
      rintro e W4 (⟨rfl, hJ4, hk4⟩ | ⟨rfl, hJ4⟩)
      · have HJ4 := vl hJ4
        clear hJ4 hk4
        gi_wp2
        refine bodyPost_ret (results_none rfl _ _ _) rfl ?_
        exact ⟨⟨_, rfl⟩, Or.inl ⟨_, ⟨pre, X, rfl, Or.inr ⟨x, hx0, by rw [HX.out], HF.out⟩⟩, HJ4.out⟩⟩
      · have HJ4 := vl hJ4
        clear hJ4
        gi_wp2
        refine bodyPost_ret (results_none rfl _ _ _) rfl ?_
        exact ⟨⟨_, rfl⟩, Or.inr ⟨_, ⟨pre, X, rfl, fun e he h => by rw [HX.out] at h; cases h; exact HF.out⟩, HJ4.out⟩⟩
    · have h5 := hpa.h5
      have h6 := hpa.h6
      rw [List.length_drop, hlen] at h5
      have HPA := vl hpa
      have HRW := vl (HAv.out.cut (by omega))
      have hcv := HRW.out.hcap
      obtain ⟨u, hu⟩ : ∃ u, u = q + 2 + nn + 2 := ⟨_, rfl⟩
      rw [← hu] at h5 ⊢
      have hprow : Row w g (off + (q + 2)) nn (cv - (q + 2)) (((Z.drop p).drop (q + 2)).take nn) := by
        obtain ⟨o6, ho6, hr6⟩ := u_cut HRW.out (q + 2) nn (by omega)
        rw [if_neg (show ¬ (cv = q + 2) by omega)] at ho6
        obtain rfl : o6 = off + (q + 2) := by simp at ho6; exact ho6.symm
        exact hr6
      have hPl := hprow.hlen
      obtain ⟨P, hP⟩ : ∃ P, P = ((Z.drop p).drop (q + 2)).take nn := ⟨_, rfl⟩
      rw [← hP] at hprow hPl
      obtain ⟨X, hX⟩ : ∃ X : PX w, X.1 = ⟨.slice (some ⟨g, off + (q + 2), none⟩) nn (cv - (q + 2)), u, .nilIface, P⟩ := ⟨⟨⟨.slice (some ⟨g, off + (q + 2), none⟩) nn (cv - (q + 2)), u, .nilIface, P⟩, by show P.length ≤ 8000; omega, by show u ≤ _; omega, Or.inl ⟨rfl, _, _, by show _ = Value.slice _ P.length _; rw [hPl], by show Arg w _ P.length _ P; rw [hPl]; exact Or.inr ⟨_, _, rfl, hprow⟩⟩⟩, rfl⟩
      obtain ⟨sl, hsl⟩ : ∃ sl, sl = some (⟨g, off + (q + 2), none⟩ : Addr) := ⟨_, rfl⟩
      obtain ⟨sc, hsc⟩ : ∃ sc, sc = cv - (q + 2) := ⟨_, rfl⟩
      rw [← hsl, ← hsc] at hX ⊢
      clear hsl hsc hprow
      have HJ3 := vl (abides_below HJ.out HJ2.out (laidP_below w2 (.slice sl nn sc) (.int .i64 u)))
      have HB3 : Vl (Below w.heap.size w (laidP w2 (.slice sl nn sc) (.int .i64 u))) := HB2.out.trans ((laidP_below _ _ _).mono HB2.out.size)
      obtain ⟨fn, tmps, assign, body, hy, hR⟩ := HY.out pre X _ HJ3.out (by omega)
      have hpx : pxV w X = #[.agg #[.slice sl nn sc, .int .i64 (u : Int)], .nilIface] := by unfold pxV; rw [hX]
      rw [hpx] at hy
      have d0 := (pb_cell (laidP_at w2 (.slice sl nn sc) (.int .i64 u))).1
      have d1 := (pb_cell (laidP_at w2 (.slice sl nn sc) (.int .i64 u))).2.1
      have HL := vl (laidP_at w2 (.slice sl nn sc) (.int .i64 u))
      have HR := vl hR
      have HX := vl hX
      have HUE := vl hu
      have HPE := vl hP
      obtain ⟨GB, hGB⟩ : ∃ GB, GB = w2.heap.size := ⟨_, rfl⟩
      clear hpx hR HJ3 HJ2 hX hu hP hpa
      unfold laidP at d0 d1 hy HR
      gi_wp2
      refine HR.out.mono ?_
      rintro e W4 (⟨rfl, hJ4, hk4⟩ | ⟨rfl, hJ4⟩)
      · have hk := hk4.keep _ _ _ _ _ HL.out
        obtain ⟨e0, e1, _, _⟩ := pb_cell hk
        have HJ4 := vl hJ4
        have HB4 : Vl (Below w.heap.size w W4) := HB3.out.trans hk4.below
        clear hJ4 hk4 hk hGB d0 d1 hy
        by_cases hn0 : nn = 0
        · subst hn0
          gi_wp2
          refine bodyPost_ret (results_none rfl _ _ _) rfl ?_
          refine ⟨⟨_, rfl⟩, Or.inl ⟨_, ⟨pre, X, rfl, Or.inl ⟨by rw [HX.out], ?_⟩⟩, HJ4.out⟩⟩
          have hpc := HPA.out.pc HU.out.2.1
          have he3 : (Z.drop p).drop (q + 2 + 0 + 2) = Z.drop (p + u) := by rw [List.drop_drop, HUE.out]
          rw [he3] at hpc
          have hd := HU.out.1.done (q := p + u) (by omega) (unF_end hpc)
          rw [allP_snoc, sumU_snoc, HX.out, HU.out.2.2, hd]
          show (_ : Int × List Int × Int) = _
          have hPn : P = [] := List.eq_nil_of_length_eq_zero hPl
          rw [hPn, List.append_nil]
        · have hn0' : ¬ ((nn : Int) = 0) := by omega
          obtain ⟨o7, ho7, hr7⟩ := u_cut HRW.out u (len - p - u) (by omega)
          have HR7 : Vl (Arg w (some ⟨g, o7, none⟩) (len - (p + u)) (cv - u) (Z.drop (p + u))) := by
            rw [List.take_of_length_le (by simp; omega), List.drop_drop, show len - p - u = len - (p + u) by omega] at hr7
            exact Or.inr ⟨_, _, rfl, hr7⟩
          have HU7 : Vl (UnS Z (allP (pre ++ [X])) (p + u) ∧ (allP (pre ++ [X])).length = M + nn ∧ sumU (pre ++ [X]) = p + u) := by
            have hpc := HPA.out.pc HU.out.2.1
            have he3 : (Z.drop p).drop (q + 2 + nn + 2) = Z.drop (p + u) := by rw [List.drop_drop, HUE.out]
            rw [he3] at hpc
            have hal : allP (pre ++ [X]) = allP pre ++ ((Z.drop p).drop (q + 2)).take nn := by rw [allP_snoc, HX.out, ← HPE.out]
            have hle : (allP (pre ++ [X])).length = M + nn := by rw [hal, List.length_append, HU.out.2.1, ← HPE.out, hPl]
            have hnx := HU.out.1.next hpc (by omega) (by omega) (by rw [Int.toNat_natCast, ← hal, hle]; omega)
            rw [Int.toNat_natCast, ← hal] at hnx
            exact ⟨hnx, hle, by rw [sumU_snoc, HX.out, HU.out.2.2]⟩
          have hu1 : (u : Int) ≤ ((len - p : Nat) : Int) := by omega
          have hu2 : (u : Int) ≤ (cv : Int) := by omega
          clear hr7
          gi_wp2_with fail
          refine wpIn_wide.2 ?_
          go_quiet (fail)
          go_wp2
          have hmi : ((8000 - M : Nat) : Int) - (nn : Int) = ((8000 - (M + nn) : Nat) : Int) := by omega
          refine ⟨⟨pre ++ [X], some ⟨g, o7, none⟩, cv - u, p + u, M + nn, by rw [show len - p - u = len - (p + u) by omega], by rw [hmi], by omega, by omega, by rw [List.length_append]; simp; omega, HR7.out, HU7.out, abides_below HJ.out HJ4.out (dN_below (Below.refl _ _) _), dN_below HB4.out _⟩, ?_⟩
          show len - p - u < len - p
          have := HUE.out
          omega
      · have HJ4 := vl hJ4
        clear hJ4
        gi_wp2
        refine bodyPost_ret (results_none rfl _ _ _) rfl ?_
        exact ⟨⟨_, rfl⟩, Or.inr ⟨_, ⟨pre, X, rfl, fun e he h => by rw [HX.out] at h; cases h⟩, HJ4.out⟩⟩
/-- What chunk.pieces hands back gives the pieces, in their order. -/
theorem pieces_stops (n : Nat) (hn : 1 ≤ n) (Bb : Nat) (w : World) (a : Option Addr) (len cap : Nat) (Z : List Int) (hA : Arg w a len cap Z) (hl : len ≤ 281474976710656) (W0 : World) (hb0 : Below w.heap.size w W0) (hB : Boxed W0 Bb 23 (.slice a len cap)) :
    SeqStopsK Fence.wide n Tryz.prog 87 #[.pointer (some ⟨Bb, 0, none⟩)] (pxV w) (KpP w.heap.size) (PAll w Z) (PSome w Z) 8002 W0 := fun l J Jx W hW hJ _ hY h0 =>
  pieces_in n hn l Bb w a len cap Z hA hl W.heap.size J Jx hJ hY W (hb0.trans (hW.mono hb0.size)) ((hW.block _ hB.lt).trans hB) h0
end Go.Proofs.YtkaihfminlincafGreatDoor
/-
  CONTRACT of the Go function chunk.Decode. No claim by itself.
-/
namespace Go.Proofs.YtkaihfminlincafGreatDoor
open Go Go.RowKit Go.Shelf
set_option maxRecDepth 100000
attribute [local go_sem] Oper.semAt_some
/-- What holds behind the pieces xs. -/
def UdI (w : World) (xs : List (PX w)) (W : World) : Prop :=
  (∃ v, Boxed W w.heap.size 23 v ∧ W.ownsRow (w.heap.size + 4) 5 1 v (allP xs).length ((allP xs).map (Value.int .u8))) ∧
  (Boxed W (w.heap.size + 1) 3 (.int .i64 (sumU xs : Int)) ∧ Boxed W (w.heap.size + 2) 29 .nilIface) ∧ (∀ y ∈ xs, y.1.er = .nilIface) ∧ w.heap.size + 4 ≤ W.heap.size ∧ Below w.heap.size w W
/-- What holds where an error came. -/
def UdX (w : World) (c : Code) (xs : List (PX w)) (W : World) : Prop :=
  c = .ret ∧ (∃ q y e, xs = q ++ [y] ∧ e ≠ 0 ∧ y.1.er = .iface 57 (.int .i64 e) ∧ Boxed W (w.heap.size + 2) 29 (.iface 57 (.int .i64 e))) ∧
  (Boxed W w.heap.size 23 (.slice none 0 0) ∧ Boxed W (w.heap.size + 1) 3 (.int .i64 0)) ∧ Below w.heap.size w W
theorem ubx_own {X Y : World} {row : Option Nat} {B b : Nat} {t : TypeId} {v : Value} (h : Boxed X B t v) (hg : X.grownBy Y row) (hr : ∀ r, row = some r → b ≤ r ∧ ∃ o : Obj, X.heap[r]? = some o ∧ o.isCells = false) : Boxed Y B t v :=
  boxed_own (β := Unit) B t (fun _ => v) () X Y row h hg (fun r e => (hr r e).2)
theorem uowns_turn {X Y : World} {row : Option Nat} {b s k : Nat} {e : TypeId} {v : Value} {xs : List Value} (hr : X.ownsRow b e s v k xs) (hg : X.grownBy Y row) (hrow : ∀ r, row = some r → ∃ o : Obj, X.heap[r]? = some o ∧ o.isCells = false) : Y.ownsRow b e s v k xs := by
  refine hr.kept hg ?_
  rcases hr.2 with ⟨rfl, _⟩ | ⟨g, cap, cur, rfl, _, hgb, _⟩
  · exact .inl rfl
  · refine .inr fun e' => ?_
    obtain ⟨o, ho, hc⟩ := hrow g (by simpa [Value.ownBlock] using e'.symm)
    rw [hgb] at ho; cases ho; cases hc
theorem allP_len {w : World} (l : List (PX w)) : (allP l).length ≤ 8000 * l.length := by
  induction l with
  | nil => simp [allP]
  | cons x r ih =>
    have e : allP (x :: r) = x.1.P ++ allP r := by simp [allP]
    have := x.2.small
    rw [e, List.length_append, List.length_cons]
    omega
theorem sumU_le {w : World} (l : List (PX w)) : sumU l ≤ 281474976710656 * l.length := by
  induction l with
  | nil => simp [sumU]
  | cons x r ih =>
    have := x.2.used
    rw [sumU, List.length_cons]
    omega
theorem arg_news {w : World} {o : Addr} {n c : Nat} {P : List Int} (h : Arg w (some o) n c P) : ∀ j u, (P.map (Value.int .u8))[j]? = some u → w.cell? (o.add j) = some u := by
  rcases h with ⟨_, rfl⟩ | ⟨g, off, he, hr⟩
  · intro j u hj; simp at hj
  · cases he; exact u_news hr
theorem not_row2 {W : World} {k base size n : Nat} {cs : Array Value} {t e : TypeId} {fr : Nat × Nat} {v : Value} {xs : List Value} (h : W.heap[k]? = some (.cells cs t fr)) (hte : t ≠ e) (hr : W.ownsRow base e size v n xs) : some k ≠ v.ownBlock := by
  intro he
  obtain ⟨_, ⟨rfl, _⟩ | ⟨g, cap, cur, rfl, _, hc, _⟩⟩ := hr
  · cases he
  · cases he
    rw [h] at hc
    cases hc
    exact hte rfl
theorem owns_shape {W : World} {base size n : Nat} {e : TypeId} {v : Value} {xs : List Value} (hr : W.ownsRow base e size v n xs) : ∃ a m c, v = .slice a m c := by
  obtain ⟨_, ⟨rfl, _⟩ | ⟨g, cap, cur, rfl, _, hc, _⟩⟩ := hr
  · exact ⟨_, _, _, rfl⟩
  · exact ⟨_, _, _, rfl⟩
theorem owns_others {W W' : World} {base size n : Nat} {e : TypeId} {v : Value} {xs : List Value} (hr : W.ownsRow base e size v n xs) (hg : W.grownBy W' v.ownBlock) : KeepsOthers W W' :=
  KeepsOthers.of_grownBy hg fun j o hj ho => by
    obtain ⟨_, ⟨rfl, _⟩ | ⟨g, cap, cur, rfl, _, hc, _⟩⟩ := hr
    · cases hj
    · cases hj
      rw [hc] at ho
      cases ho
      rfl
theorem owns_base {W : World} {base size n : Nat} {e : TypeId} {v : Value} {xs : List Value} (hr : W.ownsRow base e size v n xs) (k : Nat) (hk : v.ownBlock = some k) : base ≤ k := by
  obtain ⟨_, ⟨rfl, _⟩ | ⟨g, cap, cur, rfl, hb, _⟩⟩ := hr
  · cases hk
  · cases hk; exact hb
set_option maxHeartbeats 4000000 in
theorem udec_in (a : Option Addr) (len cap : Nat) (Z : List Int) (w : World) (hA : Arg w a len cap Z) (hl : len ≤ 281474976710656) :
    CallsIn Fence.wide 9 Tryz.prog 65 #[.slice a len cap] w fun e w' => ∃ v, e = .returned (.tuple #[v, .int .i64 (unchF Z).2.2, errW (unchF Z).1]) ∧ UOwn w' w.heap.size v (unchF Z).2.1 ∧ Below w.heap.size w w' := by
  obtain ⟨i0, hi, hz0, hz1, hz2⟩ := info_parts u_info5
  have HA := vl hA
  have HI := vl hi
  have HZ : Vl (i0.zero = some (.int .u8 0) ∧ i0.size = 1 ∧ i0.bytes = 1) := ⟨hz0, hz1, hz2⟩
  clear hA hi hz0 hz1 hz2
  refine callsIn_of_wp_marks Tryz.func65 rfl trivial ?_ rfl
  simp only [Tryz.ntmps65, List.size_toArray, List.length_cons, List.length_nil, Nat.reduceAdd, Nat.reduceSub, Array.replicate_succ, Array.replicate_zero, List.push_toArray, List.append_toArray, List.nil_append, List.cons_append]
  gi_wp2_with (refine ⟨trivial, ?_⟩; gi_at_call 78; refine (callsIn_wide.2 (pieces_call _ _ _ _)).mono ?_; rintro e w' ⟨rfl, rfl⟩)
  have b0 := (((Boxed.new w 23 (.slice none 0 0)).alloc (Obj.cells #[Value.int IntKind.i64 0] 3)).alloc (Obj.cells #[Value.nilIface] 29)).alloc (Obj.cells #[Value.slice a len cap] 23)
  have b1 := ((Boxed.new (w.alloc (Obj.cells #[Value.slice none 0 0] 23)) 3 (.int .i64 0)).alloc (Obj.cells #[Value.nilIface] 29)).alloc (Obj.cells #[Value.slice a len cap] 23)
  have b2 := (Boxed.new ((w.alloc (Obj.cells #[Value.slice none 0 0] 23)).alloc (Obj.cells #[Value.int IntKind.i64 0] 3)) 29 .nilIface).alloc (Obj.cells #[Value.slice a len cap] 23)
  have bB := Boxed.new (((w.alloc (Obj.cells #[Value.slice none 0 0] 23)).alloc (Obj.cells #[Value.int IntKind.i64 0] 3)).alloc (Obj.cells #[Value.nilIface] 29)) 23 (.slice a len cap)
  have hB0 : Below w.heap.size w ((((w.alloc (Obj.cells #[Value.slice none 0 0] 23)).alloc (Obj.cells #[Value.int IntKind.i64 0] 3)).alloc (Obj.cells #[Value.nilIface] 29)).alloc (Obj.cells #[Value.slice a len cap] 23)) := ((((Below.refl _ w).alloc (Nat.le_refl _) _).alloc (by simp) _).alloc (by simp; omega) _).alloc (by simp; omega) _
  have hsz : ((((w.alloc (Obj.cells #[Value.slice none 0 0] 23)).alloc (Obj.cells #[Value.int IntKind.i64 0] 3)).alloc (Obj.cells #[Value.nilIface] 29)).alloc (Obj.cells #[Value.slice a len cap] 23)).heap.size = w.heap.size + 4 := by simp
  simp only [World.size_alloc] at b1 b2 bB
  obtain ⟨W0, hW0⟩ : ∃ W0, ((((w.alloc (Obj.cells #[Value.slice none 0 0] 23)).alloc (Obj.cells #[Value.int IntKind.i64 0] 3)).alloc (Obj.cells #[Value.nilIface] 29)).alloc (Obj.cells #[Value.slice a len cap] 23)) = W0 := ⟨_, rfl⟩
  rw [hW0] at b0 b1 b2 bB hB0 hsz ⊢
  clear hW0
  refine wpIn_rangeFunc_ownH (N := 8002) rfl (by decide) (gf := 87) (lb := #[.pointer (some ⟨w.heap.size + 1 + 1 + 1, 0, none⟩)]) rfl trivial (enters_of Tryz.func87 (by kernel_rfl) rfl)
    (pieces_stops 8 (by decide) (w.heap.size + 1 + 1 + 1) w a len cap Z HA.out hl W0 hB0 bB)
    KpP.trans (fun W l o o' h1 h2 h3 h4 => KpP.put (w := W0) (by omega) W l o o' h1 h2 h3 h4) (Below.refl _ _) (fun _ => rfl)
    (UdI w) (UdX w)
    ?hI ?hIx ⟨⟨_, b0, World.ownsRow_nil _ _ _ _⟩, ⟨b1, b2⟩, (fun y hy => by cases hy), by omega, hB0⟩
    (fun x a' X => ∃ B, w.heap.size + 4 ≤ B ∧ a' = { tmps := #[Value.slice a len cap, undef, Value.pointer (some ⟨w.heap.size, 0, none⟩), Value.pointer (some ⟨w.heap.size + 1, 0, none⟩), Value.pointer (some ⟨w.heap.size + 1 + 1, 0, none⟩), Value.pointer (some ⟨B, 0, none⟩), x.1.er, Value.slice a len cap, Value.func (Fn.func 87) #[] #[Value.pointer (some ⟨w.heap.size + 1 + 1 + 1, 0, none⟩)], .agg #[x.1.sl, .int .i64 (x.1.used : Int)], x.1.er, undef, undef, undef, undef, undef, undef, undef, undef, undef, undef, undef, undef, undef], defers := [] } ∧ X.heap[B]? = some (.cells #[x.1.sl, .int .i64 (x.1.used : Int)] 109 (0, 0)))
    ?hAx ?assign ?body ?done ?stop
  case hI =>
    rintro s X Y row ⟨⟨v, h1, h2⟩, ⟨h3, h4⟩, h5, h7, hbl⟩ hgr hr
    exact ⟨⟨v, ubx_own h1 hgr hr, uowns_turn h2 hgr (fun r e => (hr r e).2)⟩, ⟨ubx_own h3 hgr hr, ubx_own h4 hgr hr⟩, h5, Nat.le_trans h7 hgr.size, (ownFrom_below (β := Unit) (Nat.le_refl _) (by omega)) () X Y row hbl hgr hr⟩
  case hIx =>
    rintro c s X Y row ⟨hc, ⟨q, y, e, h1, h2, h3, h4⟩, ⟨h5, h6⟩, hbl⟩ hgr hr
    exact ⟨hc, ⟨q, y, e, h1, h2, h3, ubx_own h4 hgr hr⟩, ⟨ubx_own h5 hgr hr, ubx_own h6 hgr hr⟩, (ownFrom_below (β := Unit) (Nat.le_refl _) (by omega)) () X Y row hbl hgr hr⟩
  case hAx =>
    rintro x a' s X Y row ⟨B, hB, ha, hT⟩ hgr hr
    refine ⟨B, hB, ha, (hgr.block B (Array.getElem?_eq_some_iff.1 hT).1 (fun e => ?_)).trans hT⟩
    obtain ⟨_, o, ho, hc⟩ := hr B e.symm
    rw [hT] at ho; cases ho; cases hc
  case assign =>
    intro l pre x X K hI hK
    have hsl : ∃ a n c, x.1.sl = .slice a n c := by
      rcases x.2.kind with ⟨_, o, c, h, _⟩ | ⟨_, _, _, h, _⟩
      · exact ⟨_, _, _, h⟩
      · exact ⟨_, _, _, h⟩
    obtain ⟨sa, sn, sc, hsl⟩ := hsl
    have HI1 := vl hI
    have HKK := vl hK
    have HXS := vl hsl
    clear hI hK
    dsimp only [pxV]
    rw [hsl]
    clear hsl
    gi_wp2
    have hal := World.grownBy_alloc X (.cells #[.slice sa sn sc, .int .i64 (x.1.used : Int)] 109) none
    have hbl : Below X.heap.size X (X.alloc (.cells #[.slice sa sn sc, .int .i64 (x.1.used : Int)] 109)) := (Below.refl _ X).alloc (Nat.le_refl _) _
    obtain ⟨⟨v, h1, h2⟩, ⟨h3, h4⟩, h5, h7, h6⟩ := HI1.out
    have h6s := h6.size
    have hlt := h4.lt
    refine HKK.out _ _ ((others_of_below hbl).from _) ⟨hbl.mono h6s, fun k a n c y hk => (hbl.block k (Array.getElem?_eq_some_iff.1 hk).1).trans hk⟩ ⟨⟨v, h1.alloc _, h2.alloc _⟩, ⟨h3.alloc _, h4.alloc _⟩, h5, by simp; omega, h6.alloc (by omega) _⟩ ⟨X.heap.size, ?_, ?_, ?_⟩
    · exact h7
    · rw [HXS.out]
    · rw [HXS.out]; exact heap_alloc_new _ _
  case body =>
    rintro l pre x a' X hl1 hl2 ⟨⟨v, bV, hown⟩, ⟨bU, bE⟩, hall, hX4, hBX⟩ ⟨B, hB, rfl, hT⟩ hlt
    have cV := bV.cell
    have fV := bV.frozen
    have cU := bU.cell
    have fU := bU.frozen
    have cE := bE.cell
    have fE := bE.frozen
    have HALL := vl hall
    have HBV := vl bV
    have HBU := vl bU
    have HBE := vl bE
    have HBX := vl hBX
    have HOWN := vl hown
    have HT := vl hT
    have HV := vl x.2
    clear hall bV bU bE hBX hown hT b0 b1 b2 bB hB0
    rcases HV.out.kind with ⟨her, o, c, hsl, hAx⟩ | ⟨e, he0, her, hsl, hP0, hu0⟩
    · have HAX := vl (arg_news (hAx.below HBX.out))
      have HER := vl her
      have HP := vl (allP_snoc pre x)
      have HS := vl (sumU_snoc pre x)
      have hpl := allP_len pre
      have hul := sumU_le pre
      have hP8 := HV.out.small
      have hU8 := HV.out.used
      obtain ⟨PL, hPL⟩ : ∃ PL, PL = allP pre := ⟨_, rfl⟩
      obtain ⟨U, hU⟩ : ∃ U, U = sumU pre := ⟨_, rfl⟩
      obtain ⟨P, hP⟩ : ∃ P, P = x.1.P := ⟨_, rfl⟩
      obtain ⟨u, hu⟩ : ∃ u, u = x.1.used := ⟨_, rfl⟩
      rw [← hPL] at HOWN HP hpl
      rw [← hU] at HBU HS hul cU
      rw [← hP] at HAX HP hP8 hsl
      rw [← hu] at HS hU8 HT ⊢
      rw [hsl] at HT ⊢
      rw [her]
      obtain ⟨t0, t1, _, _⟩ := pb_cell HT.out
      clear hPL hU hP hu hsl her hAx HA
      gi_wp2_with (gi_at_builtin; refine wpListIn_append_own _ rfl _ _ 23 rfl (w.heap.size + 4) 5 i0 (.int .u8 0) 1 1 Tryz.underlying23 HI.out HZ.out.1 HZ.out.2.1 HZ.out.2.2 rfl (by decide) v PL.length _ rfl HOWN.out o P.length c (P.map (Value.int .u8)) rfl (by simp) HAX.out (u_one P) (by unfold maxLen; omega) (by omega) hX4 ?_)
      intro v3 w3 hown3 hgrow3 _
      obtain ⟨sa, sn, sc, rfl⟩ := owns_shape hown3
      have bV3 : Boxed w3 w.heap.size 23 v := HBV.out.kept hgrow3 (HBV.out.not_row (by decide) HOWN.out)
      have bU3 : Boxed w3 (w.heap.size + 1) 3 (.int .i64 U) := HBU.out.kept hgrow3 (HBU.out.not_row (by decide) HOWN.out)
      have bE3 : Boxed w3 (w.heap.size + 2) 29 .nilIface := HBE.out.kept hgrow3 (HBE.out.not_row (by decide) HOWN.out)
      have hT3 : w3.heap[B]? = some (.cells #[.slice (some o) P.length c, .int .i64 u] 109 (0, 0)) := (hgrow3.block B (Array.getElem?_eq_some_iff.1 HT.out).1 (not_row2 HT.out (by decide) HOWN.out)).trans HT.out
      have hT4 : (w3.setCell ⟨w.heap.size, 0, none⟩ (.slice sa sn sc)).heap[B]? = some (.cells #[.slice (some o) P.length c, .int .i64 u] 109 (0, 0)) := (Below.heap_setCell _ _ _ _ (by show B ≠ w.heap.size; omega)).trans hT3
      obtain ⟨_, t3, _, _⟩ := pb_cell hT4
      have cV3 := bV3.cell
      have fV3 := bV3.frozen
      have bU4 := bU3.other (B' := w.heap.size) (by omega) (.slice sa sn sc)
      have cU4 := bU4.cell
      have fU4 := bU4.frozen
      have HFIN : Vl (KeepsFrom (w.heap.size + 4) X ((w3.setCell ⟨w.heap.size, 0, none⟩ (.slice sa sn sc)).setCell ⟨w.heap.size + 1, 0, none⟩ (.int .i64 ((U : Int) + (u : Int)))) ∧ KpP w.heap.size X ((w3.setCell ⟨w.heap.size, 0, none⟩ (.slice sa sn sc)).setCell ⟨w.heap.size + 1, 0, none⟩ (.int .i64 ((U : Int) + (u : Int)))) ∧ UdI w (pre ++ [x]) ((w3.setCell ⟨w.heap.size, 0, none⟩ (.slice sa sn sc)).setCell ⟨w.heap.size + 1, 0, none⟩ (.int .i64 ((U : Int) + (u : Int))))) := by
        have hb3 : Below w.heap.size X w3 := u_below_grown (Below.refl _ _) hgrow3 (by omega) (fun k hk => by have := owns_base HOWN.out k hk; omega)
        have hb5 : Below w.heap.size X ((w3.setCell ⟨w.heap.size, 0, none⟩ (.slice sa sn sc)).setCell ⟨w.heap.size + 1, 0, none⟩ (.int .i64 ((U : Int) + (u : Int)))) := (hb3.setCell (p := ⟨w.heap.size, 0, none⟩) (Nat.le_refl _) _).setCell (p := ⟨w.heap.size + 1, 0, none⟩) (by show w.heap.size ≤ w.heap.size + 1; omega) _
        refine ⟨(((owns_others HOWN.out hgrow3).trans (KeepsOthers.setCell _ _ _)).trans (KeepsOthers.setCell _ _ _)).from _, ⟨hb5, fun k a n c y hk => ?_⟩, ⟨_, (bV3.set _).other (by omega) _, ?_⟩, ⟨?_, (bE3.other (by omega) _).other (by omega) _⟩, fun y hy => ?_, Nat.le_trans hX4 hb5.size, HBX.out.trans hb5⟩
        · have hk3 : w3.heap[k]? = some (.cells #[.slice a n c, y] 109 (0, 0)) := (hgrow3.block k (Array.getElem?_eq_some_iff.1 hk).1 (not_row2 hk (by decide) HOWN.out)).trans hk
          have k0 : k ≠ w.heap.size := by
            rintro rfl
            rw [show w3.heap[w.heap.size]? = _ from bV3] at hk3
            simp at hk3
          have k1 : k ≠ w.heap.size + 1 := by
            rintro rfl
            rw [show w3.heap[w.heap.size + 1]? = _ from bU3] at hk3
            simp at hk3
          rw [Below.heap_setCell _ _ _ _ (by exact k1), Below.heap_setCell _ _ _ _ (by exact k0)]
          exact hk3
        · rw [HP.out, List.length_append, List.map_append]
          have h1 := hown3.kept (grownBy_setCell' w3 w.heap.size (.slice sa sn sc)) (.inr (bV3.not_row (by decide) hown3).symm)
          exact h1.kept (grownBy_setCell' _ (w.heap.size + 1) _) (.inr (bU4.not_row (by decide) h1).symm)
        · rw [HS.out]
          have := bU4.set (.int .i64 ((U : Int) + (u : Int)))
          simpa using this
        · rcases List.mem_append.1 hy with h | h
          · exact HALL.out y h
          · rw [List.mem_singleton.1 h]; exact HER.out
      clear hown3 hgrow3 bV3 bU3 bE3 hT3 hT4 bU4
      gi_wp2
      obtain ⟨z1, z2, z3⟩ := HFIN.out
      exact ⟨by rw [hsz]; exact z1, z2, z3⟩
    · rw [her]
      have HER := vl her
      gi_wp2
      refine ⟨(((KeepsOthers.setCell _ _ _).trans (KeepsOthers.setCell _ _ _)).trans (KeepsOthers.setCell _ _ _)).from _, rfl, ⟨pre, x, e, rfl, he0, HER.out, ((HBE.out.other (by omega) _).other (by omega) _).set _⟩, ⟨((HBV.out.set _).other (by omega) _).other (by omega) _, ((HBU.out.other (by omega) _).set _).other (by omega) _⟩, ((HBX.out.setCell (Nat.le_refl _) _).setCell (by show w.heap.size ≤ w.heap.size + 1; omega) _).setCell (by show w.heap.size ≤ w.heap.size + 1 + 1; omega) _⟩
  case done =>
    rintro D xs X hD hS ⟨⟨v, bV, hown⟩, ⟨bU, bE⟩, hall, hX4, hBX⟩ hX
    obtain ⟨sa, sn, sc, rfl⟩ := owns_shape hown
    have cV := bV.cell
    have fV := bV.frozen
    have cU := bU.cell
    have fU := bU.frozen
    have cE := bE.cell
    have fE := bE.frozen
    have HS := vl hS
    have HALL := vl hall
    have HBV := vl bV
    have HBU := vl bU
    have HBE := vl bE
    have HBX := vl hBX
    have HOWN := vl hown
    have HX := vl hX
    have HD := vl hD
    clear hS hall bV bU bE hBX hown hX hD b0 b1 b2 bB hB0
    gi_wp2_with fail
    refine wpIn_wide.2 ?_
    go_region
    obtain ⟨X6, hX6⟩ : ∃ X6, X6 = (((X.setCell ⟨w.heap.size, 0, none⟩ (.slice sa sn sc)).setCell ⟨w.heap.size + 1, 0, none⟩ (.int .i64 (sumU xs : Int))).setCell ⟨w.heap.size + 1 + 1, 0, none⟩ .nilIface).drew := ⟨_, rfl⟩
    have e0 : Boxed X6 w.heap.size 23 (.slice sa sn sc) := by rw [hX6]; exact ((HBV.out.set _).other (by omega) _).other (by omega) _
    have e1 : Boxed X6 (w.heap.size + 1) 3 (.int .i64 (sumU xs : Int)) := by rw [hX6]; exact ((HBU.out.other (by omega) _).set _).other (by omega) _
    have e2 : Boxed X6 (w.heap.size + 1 + 1) 29 .nilIface := by rw [hX6]; exact ((HBE.out.other (by omega) _).other (by omega) _).set _
    have hK6 : KeepsOthers X X6 := by rw [hX6]; exact (((KeepsOthers.setCell _ _ _).trans (KeepsOthers.setCell _ _ _)).trans (KeepsOthers.setCell _ _ _)).trans (KeepsOthers.drew _)
    have hB6 : Below w.heap.size w X6 := by rw [hX6]; exact (((HBX.out.setCell (p := ⟨w.heap.size, 0, none⟩) (Nat.le_refl _) _).setCell (p := ⟨w.heap.size + 1, 0, none⟩) (by show w.heap.size ≤ w.heap.size + 1; omega) _).setCell (p := ⟨w.heap.size + 1 + 1, 0, none⟩) (by show w.heap.size ≤ w.heap.size + 1 + 1; omega) _).drew
    have hO6 : X6.ownsRow (w.heap.size + 4) 5 1 (.slice sa sn sc) (allP xs).length ((allP xs).map (Value.int .u8)) := by
      have h1 := HOWN.out.kept (grownBy_setCell' X w.heap.size (.slice sa sn sc)) (.inr (HBV.out.not_row (by decide) HOWN.out).symm)
      have h2 := h1.kept (grownBy_setCell' _ (w.heap.size + 1) (.int .i64 (sumU xs : Int))) (.inr ((HBU.out.other (by omega) _).not_row (by decide) h1).symm)
      have h3 := h2.kept (grownBy_setCell' _ (w.heap.size + 1 + 1) .nilIface) (.inr (((HBE.out.other (by omega) _).other (by omega) _).not_row (by decide) h2).symm)
      rw [hX6]
      exact uowns_turn h3 (grown_drew _) (fun r e => by cases e)
    rw [← hX6]
    clear hX6
    gi_wp2
    have hX2 : X6.heap[D]? = some (.deferred (some [])) := hK6.same D _ HX.out rfl
    refine ⟨by simp, .inl ⟨_, _, rfl, run_takeDeferred (b := D) (ds := []) hX2, ?_⟩⟩
    have hD := HD.out
    have k0 := (show Boxed (X6.putObj D (.deferred none)) w.heap.size 23 (.slice sa sn sc) from (World.putObj_heap_other (by omega)).trans e0).cell
    have k1 := (show Boxed (X6.putObj D (.deferred none)) (w.heap.size + 1) 3 (.int .i64 (sumU xs : Int)) from (World.putObj_heap_other (by omega)).trans e1).cell
    have k2 := (show Boxed (X6.putObj D (.deferred none)) (w.heap.size + 1 + 1) 29 .nilIface from (World.putObj_heap_other (by omega)).trans e2).cell
    have hun : unchF Z = (0, allP xs, (sumU xs : Int)) := by
      obtain ⟨q, y, hq, ⟨_, h⟩ | ⟨e, he0, hy, _⟩⟩ := HS.out
      · exact h
      · have := HALL.out y (by rw [hq]; simp)
        rw [hy] at this
        cases this
    refine ⟨.tuple #[.slice sa sn sc, .int .i64 (sumU xs : Int), .nilIface], by simp [results, Tryz.results65, go_sem, k0, k1, k2], .slice sa sn sc, ?_, ?_, ?_⟩
    · rw [hun]; rfl
    · rw [hun]
      refine UOwn.mono (UOwn.of (uowns_turn hO6 (grownBy_putObj' _ D _) (fun r e' => ?_))) (b := w.heap.size) (by omega)
      cases e'
      exact ⟨_, hX2, rfl⟩
    · exact hB6.trans (belowK_b (w := W0) (by omega) _ D _ _ hD hX2 rfl rfl)
  case stop =>
    rintro D c pre X hD ⟨q', y', hq', hsp⟩ ⟨rfl, ⟨q, y, e, rfl, he0, hy, b2'⟩, ⟨b0', b1'⟩, hBX⟩ hX
    gi_wp2
    refine ⟨by simp, .inl ⟨_, _, rfl, run_takeDeferred (b := D) (ds := []) hX, ?_⟩⟩
    have k0 := (show Boxed (X.putObj D (.deferred none)) w.heap.size 23 (.slice none 0 0) from (World.putObj_heap_other (by omega)).trans b0').cell
    have k1 := (show Boxed (X.putObj D (.deferred none)) (w.heap.size + 1) 3 (.int .i64 0) from (World.putObj_heap_other (by omega)).trans b1').cell
    have k2 := (show Boxed (X.putObj D (.deferred none)) (w.heap.size + 1 + 1) 29 (.iface 57 (.int .i64 e)) from (World.putObj_heap_other (by omega)).trans b2').cell
    obtain ⟨rfl, hy'⟩ := List.append_inj' hq' rfl
    cases hy'
    have hun := hsp e he0 hy
    refine ⟨.tuple #[.slice none 0 0, .int .i64 0, .iface 57 (.int .i64 e)], by simp [results, Tryz.results65, go_sem, k0, k1, k2], .slice none 0 0, ?_, ?_, ?_⟩
    · rw [hun]; unfold errW; rw [if_neg he0]
    · rw [hun]; exact Or.inl ⟨rfl, rfl⟩
    · exact hBX.trans (belowK_b (w := W0) (by omega) _ D _ _ hD hX rfl rfl)
/-- chunk.Decode, whole. -/
theorem udec_any : UDecSaid := fun a len cap Z w hA hl => callsIn_wide.1 (udec_in a len cap Z w hA hl)
end Go.Proofs.YtkaihfminlincafGreatDoor
/-
  MESSAGES AS LINES: the mathematics of the document's ReadTell. No claim by itself.
-/
namespace Go.Proofs.YtkaihfminlincafGreatDoor
theorem dig_pos {c : Int} (h : ¬ dig c < 0) : 0 ≤ dig c := by omega
theorem rdN_is (m : Int) : ∀ (b : List Int) (k : Nat) (n v : Int) (r : List Int), rdN m k n b = (0, v, r) → 0 ≤ n → m + n ≤ 8000 → 0 ≤ v ∧ m + v ≤ 8000 ∧ r <:+ b := by
  intro b
  induction b with
  | nil => intro k n v r h; simp [rdN] at h
  | cons c q ih =>
    intro k n v r h hn hm
    rw [rdN] at h
    by_cases h1 : dig c < 0
    · rw [if_pos h1] at h
      by_cases h2 : k = 0
      · rw [if_pos h2] at h; simp at h
      · rw [if_neg h2] at h
        simp only [Prod.mk.injEq, true_and] at h
        obtain ⟨rfl, rfl⟩ := h
        exact ⟨hn, hm, List.suffix_refl _⟩
    · rw [if_neg h1] at h
      by_cases h2 : k = 1 ∧ n = 0
      · rw [if_pos h2] at h; simp at h
      · rw [if_neg h2] at h
        by_cases h3 : 8000 < m + (n * 16 + dig c)
        · rw [if_pos h3] at h; simp at h
        · rw [if_neg h3] at h
          have := ih _ _ _ _ h (by omega) (by omega)
          exact ⟨this.1, this.2.1, this.2.2.trans (List.suffix_cons _ _)⟩
theorem mt_is {b r : List Int} (h : mt b = (0, r)) : r <:+ b := by
  match b with
  | [] => simp [mt] at h
  | [c] =>
    rw [mt] at h
    split at h <;> simp at h
  | c :: d :: q =>
    rw [mt] at h
    by_cases hc : c = 13
    · rw [if_pos hc] at h
      by_cases hd : d = 10
      · rw [if_pos hd] at h
        simp only [Prod.mk.injEq, true_and] at h
        subst h
        exact (List.suffix_cons _ _).trans (List.suffix_cons _ _)
      · rw [if_neg hd] at h; simp at h
    · rw [if_neg hc] at h; simp at h
/-- What comes of pieces: a tail is left, the body is of its bytes, not too great; or a fault and nothing. -/
theorem unF_is : ∀ (f : Nat) (body b : List Int), body.length ≤ 8000 → (∃ e, e ≠ 0 ∧ unF f body b = (e, [], [])) ∨ (∃ B r, unF f body b = (0, B, r) ∧ r <:+ b ∧ B.length ≤ 8000 ∧ ∀ x ∈ B, x ∈ body ∨ x ∈ b) := by
  intro f
  induction f with
  | zero => intro body b _; exact Or.inl ⟨8, by simp, rfl⟩
  | succ f ih =>
    intro body b hb
    rcases unF_cases body b with ⟨e, he, h⟩ | ⟨n, r, r2, r3, h⟩
    · exact Or.inl ⟨e, he, h f⟩
    · have s1 := rdN_is _ _ _ _ _ _ h.h1 (by omega) (by omega)
      have s2 := mt_is h.h2
      have s4 := mt_is h.h4
      have s3 : r3 <:+ b := s4.trans ((List.drop_suffix _ _).trans (s2.trans s1.2.2))
      by_cases hn : n = 0
      · subst hn
        exact Or.inr ⟨body, r3, unF_end h, s3, hb, fun x hx => Or.inl hx⟩
      · rw [unF_go h hn]
        have hl := h.h3
        have hlen : (body ++ r2.take n.toNat).length ≤ 8000 := by
          simp only [List.length_append, List.length_take]
          omega
        rcases ih (body ++ r2.take n.toNat) r3 hlen with h5 | ⟨B, q, h5, h6, h7, h8⟩
        · exact Or.inl h5
        · refine Or.inr ⟨B, q, h5, h6.trans s3, h7, fun x hx => ?_⟩
          rcases h8 x hx with h9 | h9
          · rcases List.mem_append.1 h9 with h10 | h10
            · exact Or.inl h10
            · exact Or.inr ((s2.trans s1.2.2).subset (List.mem_of_mem_take h10))
          · exact Or.inr (s3.subset h9)
theorem suf_drop {r b : List Int} (h : r <:+ b) : r = b.drop (b.length - r.length) := by
  obtain ⟨t, rfl⟩ := h
  simp
/-- What comes of pieces, by both words. -/
theorem unch_is (b : List Int) : (∃ e, e ≠ 0 ∧ unchF b = (e, [], 0) ∧ unchP b = (e, [], [])) ∨ (∃ (B : List Int) (u : Nat), unchF b = (0, B, (u : Int)) ∧ unchP b = (0, B, b.drop u) ∧ u ≤ b.length ∧ B.length ≤ 8000 ∧ ∀ x ∈ B, x ∈ b) := by
  rcases unF_is (b.length + 1) [] b (by simp) with ⟨e, he, h⟩ | ⟨B, r, h, hs, hB, hx⟩
  · left
    refine ⟨e, he, ?_, ?_⟩
    · unfold unchF; rw [h]; simp [he]
    · unfold unchP; rw [h]
  · right
    have hl := hs.length_le
    refine ⟨B, b.length - r.length, ?_, ?_, by omega, hB, fun x hm => ?_⟩
    · unfold unchF; rw [h]; simp; omega
    · unfold unchP; rw [h]; simp only []; rw [← suf_drop hs]
    · rcases hx x hm with h1 | h1
      · cases h1
      · exact h1
end Go.Proofs.YtkaihfminlincafGreatDoor
/-
  CONTRACT of the Go function bytes.Clone. No claim by itself.
-/
namespace Go.Proofs.YtkaihfminlincafGreatDoor
open Go Go.RowKit Go.Shelf
set_option maxRecDepth 100000
/-- Nothing is cloned as nothing. -/
theorem clone_none (n c : Nat) (w : World) :
    Calls Tryz.prog 57 #[.slice none n c] w fun e w' => e = .returned (.slice none 0 0) ∧ w = w' := by
  have q : ∀ (w : World) (a : Option Addr) (n c n' c' : Nat), (binOp .eql 23 (.slice a n c) (.slice none n' c')).run Tryz.prog w = .ok (.bool a.isNone) w := fun w a n c n' c' => Lib.run_eql_slice_nil w _ _ a n c n' c' Tryz.underlying23
  go_enter Tryz.func57, Tryz.ntmps57
  go_wp2
  go_ret
  exact ⟨rfl, rfl⟩
theorem info5 : (Tryz.prog.info? 5).map (fun i => (i.zero, i.size, i.bytes)) = some (some (.int .u8 0), 1, 1) := by kernel_rfl
set_option maxHeartbeats 2000000 in
theorem clone_some (a : Addr) (n c : Nat) (Z : List Int) (w : World) (hZ : Z.length = n) (hbig : n ≤ 140737488355328) (hc : n = 0 ∨ ∃ g off, a = ⟨g, off, none⟩ ∧ Row w g off n c Z) :
    Calls Tryz.prog 57 #[.slice (some a) n c] w fun e w' => ∃ g' c', e = .returned (.slice (some ⟨g', 0, none⟩) n c') ∧ w'.ownsRow w.heap.size 5 1 (.slice (some ⟨g', 0, none⟩) n c') n (Z.map (Value.int .u8)) ∧ Below w.heap.size w w' := by
  have q : ∀ (w : World) (a : Option Addr) (n c n' c' : Nat), (binOp .eql 23 (.slice a n c) (.slice none n' c')).run Tryz.prog w = .ok (.bool a.isNone) w := fun w a n c n' c' => Lib.run_eql_slice_nil w _ _ a n c n' c' Tryz.underlying23
  obtain ⟨i0, hi, hz0, hz1, hz2⟩ := info_parts info5
  have A : Vl (∀ j u, (Z.map (Value.int .u8))[j]? = some u → (w.alloc (.cells #[] 5)).cell? (a.add j) = some u) := by
    intro j u hj
    have hjn : j < Z.length := by
      have := (List.getElem?_eq_some_iff.1 hj).1
      simpa using this
    rcases hc with h0 | ⟨g, off, rfl, hr⟩
    · omega
    · have hb := hr.below ((Below.refl _ w).alloc (Nat.le_refl _) (.cells #[] 5))
      have hx := hb.hcell j (by omega)
      have e : (Z.map (Value.int .u8))[j]? = some (Value.int .u8 (Z.getD j 0)) := by simp [List.getD, List.getElem?_eq_getElem hjn]
      rw [e] at hj
      have hplain : (⟨g, off, none⟩ : Addr).add j = ⟨g, off + j, none⟩ := by unfold Addr.add; split <;> simp_all
      rw [hplain, hx]; exact hj
  clear hc
  go_enter Tryz.func57, Tryz.ntmps57
  go_wp2_with (at_builtin; refine wpList_append_own _ rfl _ _ 23 rfl w.heap.size 5 i0 (.int .u8 0) 1 1 Tryz.underlying23 hi hz0 hz1 hz2 rfl (by decide) _ _ _ rfl (World.ownsRow_made w #[] 0 (Nat.le_refl _) (Nat.zero_le _) rfl) a n c (Z.map (Value.int .u8)) rfl ?qc1 ?qc2 ?qc3 ?qc4 ?qc5 ?qc6 ?_)
  case qc1 => simp; omega
  case qc2 => exact A.out
  case qc3 => intro u hu; obtain ⟨x, _, rfl⟩ := List.mem_map.1 hu; rfl
  case qc4 => unfold maxLen; omega
  case qc5 => omega
  case qc6 => simp
  intro v' w1 hown hgrow hnil
  go_wp2
  go_ret
  have hnn : v' ≠ .slice none 0 0 := by
    first | exact hnil | (intro e; exact absurd (hnil.1 e).1 (by simp))
  have hB : Below w.heap.size w w1 := ((Below.refl _ w).alloc (Nat.le_refl _) _).grown hgrow (by simp) (by intro k hk; simp [Value.ownBlock] at hk; omega)
  have hown' : w1.ownsRow w.heap.size 5 1 v' n (Z.map (Value.int .u8)) := by simpa using hown
  obtain ⟨q1, ⟨q2, _⟩ | ⟨g', c', cur, rfl, q3⟩⟩ := hown'
  · exact absurd q2 hnn
  · exact ⟨g', c', rfl, ⟨q1, Or.inr ⟨g', c', cur, rfl, q3⟩⟩, hB⟩
/-- Bytes, cloned. -/
theorem clone_arg (a : Option Addr) (n c : Nat) (Z : List Int) (w : World) (hA : Arg w a n c Z) (hnil : a = none → n = 0) (hbig : n ≤ 140737488355328) :
    Calls Tryz.prog 57 #[.slice a n c] w fun e w' => ∃ v, e = .returned v ∧ UOwn w' w.heap.size v Z ∧ Below w.heap.size w w' := by
  have hz := hA.len
  match a with
  | none =>
    have hn := hnil rfl
    refine (clone_none n c w).mono ?_
    rintro e w' ⟨rfl, rfl⟩
    exact ⟨_, rfl, Or.inl ⟨rfl, List.eq_nil_of_length_eq_zero (by omega)⟩, Below.refl _ _⟩
  | some x =>
    refine (clone_some x n c Z w hz hbig ?_).mono ?_
    · rcases hA with ⟨h0, _⟩ | ⟨g, off, he, hr⟩
      · exact Or.inl h0
      · cases he
        exact Or.inr ⟨g, off, rfl, hr⟩
    · rintro e w' ⟨g', c', rfl, ho, hb⟩
      refine ⟨_, rfl, UOwn.of (by rw [hz]; exact ho), hb⟩
end Go.Proofs.YtkaihfminlincafGreatDoor
/-
  MESSAGES AS LINES: the developers' reader: body, rest. No claim by itself.
-/
namespace Go.Proofs.YtkaihfminlincafGreatDoor
open Go Go.RowKit Go.Shelf
set_option maxRecDepth 100000
theorem body_no (lb : Nat) (a : Option Addr) (len cap : Nat) (p bad n : Int) (w : World) (h : RM w lb a len cap p bad) (hb : bad ≠ 0) (hn : -4611686018427387904 ≤ n ∧ n ≤ 4611686018427387904) (hp : 0 ≤ p ∧ p ≤ 281474976710656) (hl : len ≤ ULim) :
    Calls Tryz.prog 19 #[rptr lb, .int .i64 n] w fun e w' => e = .returned (.slice none 0 0) ∧ Below w.heap.size w w' := by
  have c0 := h.c0
  have c1 := h.c1
  have c2 := h.c2
  rw [errW_ne hb] at c2
  unfold ULim at hl
  have HF : Vl (∀ m, Calls Tryz.prog 55 #[rptr lb, errW 8] (w.drewN m) fun x w' => x = .returned (.tuple #[]) ∧ (w.drewN m) = w') := fun m => nfail_no lb a len cap p bad 8 (w.drewN m) (h.kept ((n_drew w m).block _ h.lt)) hb
  have HC : Vl (∀ m, (w.drewN m).cell? ⟨lb, 2, none⟩ = some (.iface 57 (.int .i64 bad))) := fun m => by
    have := (h.kept ((n_drew w m).block _ h.lt)).c2
    rw [errW_ne hb] at this
    exact this
  rw [show errW 8 = .iface 57 (.int .i64 8) from errW_ne (by omega)] at HF
  unfold rptr at HF ⊢
  clear h
  by_cases hg : (len : Int) - p < n
  · go_enter Tryz.func19, Tryz.ntmps19
    go_wp2_with fail
    go_quiet (fail)
    go_wp2_with fail
    refine (HF.out nq).mono ?_
    rintro e w1 ⟨rfl, rfl⟩
    have d2 := HC.out nq
    go_wp2
    go_ret
    exact ⟨rfl, n_drew w nq⟩
  · have hg' : decide ((len : Int) - p < n) = false := decide_eq_false hg
    go_enter Tryz.func19, Tryz.ntmps19
    go_wp2_with fail
    go_quiet (fail)
    have d2 := HC.out nq
    go_wp2
    go_ret
    exact ⟨rfl, n_drew w nq⟩
/-- What body answers where nothing was wrong. -/
def BodyT (w0 wx w' : World) (lb : Nat) (a : Option Addr) (len cap : Nat) (Z : List Int) (q n : Nat) (e : Ending) : Prop :=
  (q + n ≤ len ∧ ∃ v, e = .returned v ∧ UOwn w' wx.heap.size v ((Z.drop q).take n) ∧ RS w0 w' lb a len cap Z (q + n) 0) ∨ (len < q + n ∧ e = .returned (.slice none 0 0) ∧ RS w0 w' lb a len cap Z q 8)
set_option maxHeartbeats 2000000 in
theorem body_go (w0 : World) (lb : Nat) (a : Option Addr) (len cap : Nat) (Z : List Int) (q n : Nat) (wx : World) (h : RS w0 wx lb a len cap Z q 0) (hnil : a = none → len = 0) (hn : n ≤ 140737488355328) :
    Calls Tryz.prog 19 #[rptr lb, .int .i64 (n : Int)] wx fun e w' => BodyT w0 wx w' lb a len cap Z q n e ∧ Tr lb wx w' := by
  have c0 := h.mem.c0
  have c1 := h.mem.c1
  have c2 := h.mem.c2
  rw [errW_0] at c2
  have hle := h.le
  have hm := h.most
  unfold ULim at hm
  have hcap := h.arg.cap
  by_cases hg : len < q + n
  · have hg' : (len : Int) - (q : Int) < (n : Int) := by omega
    have HF : Vl (∀ m, Calls Tryz.prog 55 #[rptr lb, .iface 57 (.int .i64 8)] (wx.drewN m) fun x w' => x = .returned (.tuple #[]) ∧ RS w0 w' lb a len cap Z q 8 ∧ Tr lb (wx.drewN m) w') := fun m => by simpa using fail_rs w0 lb a len cap Z q 0 8 (wx.drewN m) (h.on (n_drew wx m)) (by omega)
    unfold rptr at HF ⊢
    clear h
    go_enter Tryz.func19, Tryz.ntmps19
    go_wp2_with fail
    go_quiet (fail)
    go_wp2_with fail
    refine (HF.out nq).mono ?_
    rintro e w1 ⟨rfl, hs, ht⟩
    have d2 := hs.mem.c2
    rw [errW_ne (by omega)] at d2
    have HS := vl hs
    have HT : Vl (Tr lb wx w1) := (Tr.of (n_drew wx nq)).trans ht
    clear hs ht HF c0 c1 c2
    go_wp2
    go_ret
    exact ⟨Or.inr ⟨hg, rfl, HS.out⟩, HT.out⟩
  · have hg' : ¬ (len : Int) - (q : Int) < (n : Int) := by omega
    have hg2 : decide ((len : Int) - (q : Int) < (n : Int)) = false := decide_eq_false hg'
    have HS := vl h
    unfold rptr
    clear h
    go_enter Tryz.func19, Tryz.ntmps19
    go_wp2_with fail
    go_quiet (fail)
    have hS1 := HS.out.on (n_drew wx nq)
    have HT1 : Vl (Tr lb wx (wx.drewN nq)) := Tr.of (n_drew wx nq)
    obtain ⟨W1, hW1⟩ : ∃ W1, wx.drewN nq = W1 := ⟨_, rfl⟩
    rw [hW1] at hS1 HT1 ⊢
    clear hW1 c0 c1 c2
    have d1 := hS1.mem.c1
    have d2 := hS1.mem.c2
    rw [errW_0] at d2
    have f1 := hS1.mem.f1
    have hS2 := hS1.at (q := q + n) (by omega)
    have HT2 : Vl (Tr lb wx (W1.setCell ⟨lb, 1, none⟩ (.int .i64 ((q + n : Nat) : Int)))) := HT1.out.set
    rw [show ((q + n : Nat) : Int) = (q : Int) + n by omega] at hS2 HT2
    have HS2 := vl hS2
    have e0 := hS2.mem.c0
    have e1 := hS2.mem.c1
    rw [show ((q + n : Nat) : Int) = (q : Int) + n by omega] at e1
    clear hS1 HT1 hS2
    go_wp2_with fail
    obtain ⟨W2, hW2⟩ : ∃ W2, W1.setCell ⟨lb, 1, none⟩ (.int .i64 ((q : Int) + n)) = W2 := ⟨_, rfl⟩
    rw [hW2] at HS2 HT2 e0 e1 ⊢
    clear hW2 d1 d2 f1
    have hA2 := (HS2.out.on (Below.refl _ W2).drew).now.part q n (by omega)
    have HCL := vl (clone_arg (cutA a cap q) n (cap - q) ((Z.drop q).take n) W2.drew hA2 (fun hx => by
      unfold cutA at hx
      have : a = none := by
        split at hx
        · exact hx
        · cases a with
          | none => rfl
          | some x => cases hx
      have := hnil this
      omega) hn)
    have hct := run_cut a len cap q (q + n) (by omega) (by omega)
    rw [show q + n - q = n by omega, show ((q + n : Nat) : Int) = (q : Int) + n by omega] at hct
    have hsub : IntKind.i64.wrap ((q : Int) + (n : Int) - (n : Int)) = (q : Int) := by rw [IntKind.wrap_i64]; omega
    have hsub2 : IntKind.i64.wrap (q : Int) = (q : Int) := by rw [IntKind.wrap_i64]; omega
    have hlt : lb < W2.heap.size := HS2.out.lt
    have HZ : Vl (∀ w1, Below W2.drew.heap.size W2.drew w1 → w1.cell? ⟨lb, 0, none⟩ = some (.slice a len cap) ∧ w1.cell? ⟨lb, 1, none⟩ = some (.int .i64 ((q : Int) + n))) := fun w1 hb => ⟨(hb.cell (p := ⟨lb, 0, none⟩) hlt).trans e0, (hb.cell (p := ⟨lb, 1, none⟩) hlt).trans e1⟩
    generalize cutA a cap q = ca at *
    clear hA2
    go_region_held3 (fun w1 => w1.cell? ⟨lb, 0, none⟩ = some (.slice a len cap) ∧ w1.cell? ⟨lb, 1, none⟩ = some (.int .i64 ((q : Int) + n)))
      (first | go_keep | (exact HZ.out _ hb))
      ((go_at_call 57; refine HCL.out.mono ?_; rintro e w3 ⟨v, rfl, ho, hb⟩))
    have HS3 := vl ((HS2.out.on ((Below.refl _ W2).drew.trans hb)))
    have HT3 : Vl (Tr lb wx w3) := HT2.out.on ((Below.refl _ W2).drew.trans hb)
    have HO := vl (ho.mono (b := wx.heap.size) (HT2.out.size))
    clear HCL HZ hb ho hct e0 e1 hsub hsub2 hg2 hg'
    go_wp2
    go_ret
    exact ⟨Or.inl ⟨by omega, v, rfl, HO.out, HS3.out⟩, HT3.out⟩
end Go.Proofs.YtkaihfminlincafGreatDoor
/-
  CONTRACT of the Go function errors.Is at api.Errno. No claim by itself.
-/
namespace Go.Proofs.YtkaihfminlincafGreatDoor
open Go Go.RowKit Go.Extern.Stop Go.Stop Go.Extern
set_option maxRecDepth 100000
theorem isTypeOf (v : Value) (w : World) : (Extern.ReflectliteType.typeOf #[.iface 57 v]).run Tryz.prog w = .ok (.iface 111 (.agg #[.pointer (some ⟨5, 57, none⟩)])) w := by kernel_rfl
theorem callComp (w : World) : (callFunc 125 #[.agg #[.pointer (some ⟨5, 57, none⟩)]]).run Tryz.prog w = .ok (.value (.bool true)) w := by
  rw [@run_callFunc_extern Tryz.prog 125 _ (Extern.ReflectliteType.method fun t => do Go.Extern.Rtype.noPackHeld "Comparable" t; pure (.bool (← typeInfo t).comparable)) Tryz.func125 (by kernel_rfl) (by kernel_rfl) (by kernel_rfl) (by kernel_rfl)]
  kernel_rfl
theorem isMethodComparable (v : Value) (w : World) : (Go.method 276 111 v "Comparable").run Tryz.prog w = .ok (125, v) w := by kernel_rfl
theorem noIsE (v : Value) (xT : TypeId) (w : World) : (Instr.typeAssert (.iface 57 v) xT 113 true).run Tryz.prog w = .ok (.tuple #[.nilIface, .bool false]) w := run_typeAssert_lacksB Tryz.underlying113 (by kernel_rfl) (by kernel_rfl) v xT w
theorem noUnwrapE (v : Value) (xT : TypeId) (w : World) : (Instr.typeAssert (.iface 57 v) xT 116 true).run Tryz.prog w = .ok (.tuple #[.nilIface, .bool false]) w := run_typeAssert_lacksB Tryz.underlying116 (by kernel_rfl) (by kernel_rfl) v xT w
theorem noUnwrapsE (v : Value) (xT : TypeId) (w : World) : (Instr.typeAssert (.iface 57 v) xT 117 true).run Tryz.prog w = .ok (.tuple #[.nilIface, .bool false]) w := run_typeAssert_lacksB Tryz.underlying117 (by kernel_rfl) (by kernel_rfl) v xT w
theorem eComp : (Tryz.prog.info? 57).map (·.comparable) = some true := by kernel_rfl
theorem eqIn_errno (d : Nat) (e : Int) (w : World) : (Op.equalIn (d + 2) 29 (.iface 57 (.int .i64 e)) (.iface 57 (.int .i64 8))).run Tryz.prog w = .ok (decide (e = 8)) w := by
  obtain ⟨i, hi, hc⟩ := Option.map_eq_some_iff.1 eComp
  simp [Op.equalIn, run_underlying Tryz.underlying29, run_underlying Tryz.underlying57, typeInfo, hi, hc]
  rw [Bool.eq_iff_iff]
  simp
theorem eql_errno (e : Int) (w : World) : (binOp .eql 29 (.iface 57 (.int .i64 e)) (.iface 57 (.int .i64 8))).run Tryz.prog w = .ok (.bool (decide (e = 8))) w := by
  simp only [binOp]
  simp [Op.equal, Op.maxDepth, eqIn_errno 9998]
theorem nis_any (e : Int) (w : World) : Calls Tryz.prog 58 #[errW e, .iface 57 (.int .i64 8)] w fun x w' => x = .returned (.bool (decide (e = 8))) ∧ w = w' := by
  by_cases h0 : e = 0
  · subst h0
    rw [errW_0]
    have hn := run_eql_iface_nil_left (P := Tryz.prog) w 57 (.int .i64 8) Tryz.underlying29
    go_enter Tryz.func58, Tryz.ntmps58
    go_wp2
    go_ret
    exact ⟨rfl, rfl⟩
  · rw [errW_ne h0]
    have h8 := @run_callFunc_extern Tryz.prog 69 _ Extern.ReflectliteType.typeOf Tryz.func69 (by kernel_rfl) (by kernel_rfl) (by kernel_rfl) (by kernel_rfl)
    have tT := isTypeOf
    have cT := callComp
    have mR := isMethodComparable
    have nE := noIsE
    have uE := noUnwrapE
    have vE := noUnwrapsE
    have heq := eql_errno e
    by_cases h : e = 8
    · rw [decide_eq_true h]
      rw [decide_eq_true h] at heq
      clear h h0
      go_enter Tryz.func58, Tryz.ntmps58
      go_wp2
      refine wp_loop_rounds 1 ?_
      rw [rounds_succ]
      go_wp2
      go_ret
      exact ⟨rfl, rfl⟩
    · rw [decide_eq_false h]
      rw [decide_eq_false h] at heq
      clear h h0
      go_enter Tryz.func58, Tryz.ntmps58
      go_wp2
      refine wp_loop_rounds 1 ?_
      rw [rounds_succ]
      go_wp2
      go_ret
      exact ⟨rfl, rfl⟩
end Go.Proofs.YtkaihfminlincafGreatDoor
/-
  MESSAGES AS LINES: the developers' reader: fault, rest, pieces. No claim by itself.
-/
namespace Go.Proofs.YtkaihfminlincafGreatDoor
open Go Go.RowKit Go.Shelf
set_option maxRecDepth 100000
theorem fault_any (lb : Nat) (a : Option Addr) (len cap : Nat) (p bad : Int) (w : World) (h : RM w lb a len cap p bad) :
    Calls Tryz.prog 20 #[rptr lb] w fun e w' => e = .returned (errW (if bad = 8 ∧ 20000 < len then 4 else bad)) ∧ w = w' := by
  have c0 := h.c0
  have c2 := h.c2
  have HN := vl (nis_any bad w)
  unfold rptr
  by_cases h1 : bad = 8
  · subst h1
    rw [decide_eq_true rfl] at HN
    rw [errW_ne (by omega)] at c2 HN
    by_cases h2 : 20000 < len
    · rw [if_pos ⟨rfl, h2⟩, errW_ne (by omega)]
      have h3 : (20000 : Int) < (len : Int) := by omega
      clear h
      go_enter Tryz.func20, Tryz.ntmps20
      go_wp2_with (go_at_call 58; refine HN.out.mono ?_; rintro e w' ⟨rfl, rfl⟩)
      go_ret
      exact ⟨rfl, rfl⟩
    · rw [if_neg (fun h => h2 h.2), errW_ne (by omega)]
      have h3 : ¬ (20000 : Int) < (len : Int) := by omega
      clear h
      go_enter Tryz.func20, Tryz.ntmps20
      go_wp2_with (go_at_call 58; refine HN.out.mono ?_; rintro e w' ⟨rfl, rfl⟩)
      go_ret
      exact ⟨rfl, rfl⟩
  · rw [decide_eq_false h1] at HN
    rw [if_neg (fun h => h1 h.1)]
    clear h1 h
    generalize errW bad = v at *
    go_enter Tryz.func20, Tryz.ntmps20
    go_wp2_with (go_at_call 58; refine HN.out.mono ?_; rintro e w' ⟨rfl, rfl⟩)
    go_ret
    exact ⟨rfl, rfl⟩
section
variable {β : Type} [Inhabited β] {G : Int × β × List Int} {w0 wx : World} {lb : Nat} {a : Option Addr} {len cap : Nat} {Z : List Int}
/-- What body answers, with a fault or without. -/
theorem body_st {f : List Int → Pz β} (n : Int) (hn : -100000 ≤ n ∧ n ≤ 140737488351232) (hnil : a = none → len = 0) (h : Dst G (bindP (bodyP n.toNat) f) w0 wx lb a len cap Z) (hpos : 0 ≤ n ∨ ∃ q bad, RS w0 wx lb a len cap Z q bad ∧ bad ≠ 0) :
    Calls Tryz.prog 19 #[rptr lb, .int .i64 n] wx fun e w' => ∃ v B, e = .returned v ∧ UOwn w' wx.heap.size v B ∧ Dst G (f B) w0 w' lb a len cap Z ∧ Tr lb wx w' ∧ (B.length ≤ 140737488351232 ∧ ∀ x ∈ B, x ∈ Z) := by
  obtain ⟨q, bad, h1, hc⟩ := h
  have hle := h1.le
  have hm := h1.most
  have hz := h1.zlen
  rcases hc with ⟨rfl, h2⟩ | ⟨h2, h3⟩
  · have hp : 0 ≤ n := by
      rcases hpos with h | ⟨q', bad', h3, h4⟩
      · exact h
      · exfalso
        have e1 := h1.mem.c2
        have e2 := h3.mem.c2
        rw [e1, errW_0, errW_ne h4] at e2
        cases e2
    obtain ⟨k, rfl⟩ : ∃ k : Nat, n = k := ⟨n.toNat, by omega⟩
    rw [Int.toNat_natCast] at h2
    refine (body_go w0 lb a len cap Z q k wx h1 hnil (by omega)).mono ?_
    rintro e w' ⟨⟨hq, v, rfl, ho, hs⟩ | ⟨hq, rfl, hs⟩, ht⟩
    · have e1 : bodyP k (Z.drop q) = (0, (Z.drop q).take k, Z.drop (q + k)) := by
        unfold bodyP
        rw [if_neg (by simp; omega), List.drop_drop]
      refine ⟨v, _, rfl, ho, ⟨q + k, 0, hs, Or.inl ⟨rfl, by rw [h2, bindP_ok e1]⟩⟩, ht, ⟨by simp; omega, fun x hx => List.mem_of_mem_drop (List.mem_of_mem_take hx)⟩⟩
    · have e1 : (bodyP k (Z.drop q)).1 = 8 := by
        unfold bodyP
        rw [if_pos (by simp; omega)]
      exact ⟨_, [], rfl, Or.inl ⟨rfl, rfl⟩, ⟨q, 8, hs, Or.inr ⟨by omega, by rw [h2, bindP_no (by rw [e1]; omega), e1]⟩⟩, ht, ⟨by simp, fun x hx => by cases hx⟩⟩
  · unfold ULim at hm
    refine (body_no lb a len cap q bad n wx h1.mem h2 (by omega) (by omega) h1.most).mono ?_
    rintro e w' ⟨rfl, hb⟩
    exact ⟨_, [], rfl, Or.inl ⟨rfl, rfl⟩, ⟨q, bad, h1.on hb, Or.inr ⟨h2, h3⟩⟩, Tr.of hb, ⟨by simp, fun x hx => by cases hx⟩⟩
set_option maxHeartbeats 2000000 in
theorem rest_st {f : List Int → Pz β} (closed : Bool) (hcl : closed = true → len ≤ 140737488351232) (hnil : a = none → len = 0) (h : Dst G (bindP (restP closed) f) w0 wx lb a len cap Z) :
    Calls Tryz.prog 35 #[rptr lb, .bool closed] wx fun e w' => ∃ v B, e = .returned v ∧ UOwn w' wx.heap.size v B ∧ Dst G (f B) w0 w' lb a len cap Z ∧ Tr lb wx w' ∧ (B.length ≤ 140737488351232 ∧ ∀ x ∈ B, x ∈ Z) := by
  obtain ⟨q, bad, h1, hc⟩ := h
  have hle := h1.le
  have hm := h1.most
  have hz := h1.zlen
  unfold ULim at hm
  have hlq : (len : Int) - (q : Int) = ((len - q : Nat) : Int) := by omega
  -- behind the test
  have tail : ∀ (bad' : Int) (W : World), RS w0 W lb a len cap Z q bad' → Tr lb wx W → ((bad' = 0 ∧ closed = true ∧ G = bindP (restP closed) f (Z.drop q)) ∨ (bad' ≠ 0 ∧ G.1 = bad')) →
      Calls Tryz.prog 19 #[rptr lb, .int .i64 ((len : Int) - (q : Int))] W.drew fun e w' => ∃ v B, e = .returned v ∧ UOwn w' wx.heap.size v B ∧ Dst G (f B) w0 w' lb a len cap Z ∧ Tr lb wx w' ∧ (B.length ≤ 140737488351232 ∧ ∀ x ∈ B, x ∈ Z) := by
    intro bad' W hS hT hcase
    have hS1 := hS.on (Below.refl _ W).drew
    have hT1 : Tr lb wx W.drew := hT.on (Below.refl _ W).drew
    rw [hlq]
    rcases hcase with ⟨rfl, hx, hg⟩ | ⟨hx, hg⟩
    · have hcl2 := hcl hx
      refine (body_go w0 lb a len cap Z q (len - q) W.drew hS1 hnil (by omega)).mono ?_
      rintro e w' ⟨⟨hq, v, rfl, ho, hs⟩ | ⟨hq, rfl, hs⟩, ht⟩
      · have e1 : restP closed (Z.drop q) = (0, Z.drop q, []) := by
          unfold restP
          rw [if_pos hx]
        rw [List.take_of_length_le (by rw [List.length_drop, hz]; omega)] at ho
        rw [show q + (len - q) = len by omega] at hs
        refine ⟨v, _, rfl, ho.mono hT1.size, ⟨len, 0, hs, Or.inl ⟨rfl, ?_⟩⟩, hT1.trans ht, ⟨by simp; omega, fun x hx => List.mem_of_mem_drop hx⟩⟩
        rw [hg, bindP_ok e1, List.drop_of_length_le (i := len) (by omega)]
      · omega
    · refine (body_no lb a len cap q bad' _ W.drew hS1.mem hx (by omega) (by omega) hS.most).mono ?_
      rintro e w' ⟨rfl, hb⟩
      exact ⟨_, [], rfl, Or.inl ⟨rfl, rfl⟩, ⟨q, bad', hS1.on hb, Or.inr ⟨hx, hg⟩⟩, hT1.on hb, ⟨by simp, fun x hx => by cases hx⟩⟩
  have TAIL := vl tail
  have H1 := vl h1
  have HC := vl hc
  clear tail
  cases closed with
  | true =>
    have HB := vl (TAIL.out bad wx h1 (Tr.refl _ _) (by
      rcases hc with ⟨e1, e2⟩ | ⟨e1, e2⟩
      · exact Or.inl ⟨e1, rfl, e2⟩
      · exact Or.inr ⟨e1, e2⟩))
    have c0 := h1.mem.c0
    have c1 := h1.mem.c1
    have hlt := h1.lt
    have HZ : Vl (∀ w1, Below wx.drew.heap.size wx.drew w1 → w1.cell? ⟨lb, 0, none⟩ = some (.slice a len cap) ∧ w1.cell? ⟨lb, 1, none⟩ = some (.int .i64 (q : Int))) := fun w1 hb => ⟨(hb.cell (p := ⟨lb, 0, none⟩) hlt).trans c0, (hb.cell (p := ⟨lb, 1, none⟩) hlt).trans c1⟩
    have hsub : IntKind.i64.wrap ((len : Int) - (q : Int)) = (len : Int) - (q : Int) := by rw [IntKind.wrap_i64]; omega
    unfold rptr at HB ⊢
    clear h1 hc hcl hlq TAIL HC
    go_enter Tryz.func35, Tryz.ntmps35
    go_wp2_with fail
    go_region_with ((go_at_call 19; refine HB.out.mono ?_; rintro e w3 ⟨v, B, rfl, ho, hd, ht, hl⟩))
    all_goals
      have HO := vl ho
      have HD := vl hd
      have HT := vl ht
      have HL := vl hl
      clear ho hd ht hl HB
      go_simp
      go_wp2
      go_ret
      exact ⟨v, B, rfl, HO.out, HD.out, HT.out, HL.out⟩
  | false =>
    have HF := vl (fail_rs w0 lb a len cap Z q bad 8 wx h1 (by omega))
    unfold rptr at HF ⊢
    clear hc hcl h1
    go_enter Tryz.func35, Tryz.ntmps35
    go_wp2_with fail
    refine HF.out.mono ?_
    rintro e w1 ⟨rfl, hs1, ht1⟩
    obtain ⟨bad1, hb1⟩ : ∃ b1, (if bad = 0 then 8 else bad) = b1 := ⟨_, rfl⟩
    rw [hb1] at hs1
    have HB := vl (TAIL.out bad1 w1 hs1 ht1 (by
      right
      rw [← hb1]
      rcases HC.out with ⟨e1, e2⟩ | ⟨e1, e2⟩
      · rw [if_pos e1]
        refine ⟨by omega, ?_⟩
        rw [e2]
        rfl
      · rw [if_neg e1]
        exact ⟨e1, e2⟩))
    have c0 := hs1.mem.c0
    have c1 := hs1.mem.c1
    have hsub : IntKind.i64.wrap ((len : Int) - (q : Int)) = (len : Int) - (q : Int) := by rw [IntKind.wrap_i64]; omega
    unfold rptr at HB
    clear hs1 ht1 hb1 HF TAIL HC hlq
    go_wp2_with fail
    go_region_with ((go_at_call 19; refine HB.out.mono ?_; rintro e w3 ⟨v, B, rfl, ho, hd, ht, hl⟩))
    all_goals
      have HO := vl ho
      have HD := vl hd
      have HT := vl ht
      have HL := vl hl
      clear ho hd ht hl HB
      go_simp
      go_wp2
      go_ret
      exact ⟨v, B, rfl, HO.out, HD.out, HT.out, HL.out⟩
end
end Go.Proofs.YtkaihfminlincafGreatDoor
