/-
  BODIES IN PIECES: the document's match, at a line end. No claim by itself.
-/
import Derived.Test.YtgjolljhjagngafDoorUapp
import Derived.BigQuiet
import Derived.Deep.QuietTactic
namespace Go.Proofs.YtgjolljhjagngafDoor
open Go.RowKit
set_option maxRecDepth 100000
theorem dN_below {B : Nat} {w w' : World} (h : Below B w w') : ∀ n, Below B w (w'.drewN n)
  | 0 => h
  | n + 1 => by
    have := dN_below h n
    exact ⟨this.os, this.tape, this.output, this.size, this.block⟩
theorem drop_at {Z : List Int} {t : Nat} (h : t < Z.length) : Z.drop t = Z.getD t 0 :: Z.drop (t + 1) := by
  rw [List.drop_eq_getElem_cons h]
  simp [List.getD, List.getElem?_eq_getElem h]
/-- How far a line end was found. -/
def MtAt (Z : List Int) (p k : Nat) : Prop := p + k ≤ Z.length ∧ (1 ≤ k → Z.getD p 0 = 13) ∧ (2 ≤ k → Z.getD (p + 1) 0 = 10)
theorem mt_short {Z : List Int} {p k : Nat} (h : MtAt Z p k) (hk : k < 2) (hl : Z.length ≤ p + k) : (mt (Z.drop p)).1 = 8 := by
  obtain ⟨h1, h2, _⟩ := h
  match k with
  | 0 => rw [List.drop_eq_nil_of_le (by omega)]; rfl
  | 1 =>
    have h2 := h2 (by omega)
    rw [drop_at (by omega), h2, List.drop_eq_nil_of_le (by omega)]
    rfl
  | k + 2 => omega
theorem mt_wrong {Z : List Int} {p k : Nat} (h : MtAt Z p k) (hk : k < 2) (hl : p + k < Z.length) (hx : Z.getD (p + k) 0 ≠ (if k = 0 then 13 else 10)) : (mt (Z.drop p)).1 = 2 := by
  obtain ⟨h1, h2, _⟩ := h
  match k with
  | 0 =>
    rw [drop_at (by omega)]
    unfold mt
    simp at hx
    simp [hx]
  | 1 =>
    have h2 := h2 (by omega)
    rw [drop_at (by omega), drop_at (by omega), h2]
    unfold mt
    simp at hx
    simp [hx]
  | k + 2 => omega
theorem mt_right {Z : List Int} {p : Nat} (h : MtAt Z p 2) : mt (Z.drop p) = (0, Z.drop (p + 2)) := by
  obtain ⟨h1, h2, h3⟩ := h
  rw [drop_at (by omega), drop_at (by omega), h2 (by omega), h3 (by omega)]
  simp [mt]
def mtV (Z : List Int) (p : Nat) : Value := .tuple #[.int .i64 (if (mt (Z.drop p)).1 = 0 then ((p + 2 : Nat) : Int) else 0), .int .i64 (mt (Z.drop p)).1]
set_option maxHeartbeats 4000000 in
theorem rmatch_any (a : Option Addr) (len cap : Nat) (Z : List Int) (p : Nat) (w : World) (hA : Arg w a len cap Z) (hp : p ≤ len) (hl : len ≤ 281474976710656) :
    Calls Tryd.prog 90 #[.slice a len cap, .int .i64 p, .string ⟨#[13, 10]⟩] w fun e w' => e = .returned (mtV Z p) ∧ Below w.heap.size w w' := by
  have hlen := hA.len
  have HA := vl hA
  clear hA
  go_enter Tryd.func90, Tryd.ntmps90
  go_wp2_with fail
  go_loopw [8] (fun i wr => ∃ k : Nat, i = .int .i64 k ∧ k ≤ 2 ∧ Vl (MtAt Z p k) ∧ Vl (Below w.heap.size w wr)) (fun i _ => 2 - (intOf i).toNat)
  case atStart => exact ⟨0, rfl, by omega, ⟨by omega, fun h => by omega, fun h => by omega⟩, Below.refl _ _⟩
  case round =>
    obtain ⟨k, rfl, hk, HK, HB⟩ := hrel
    by_cases hk2 : k = 2
    · subst hk2
      have HV : Vl (mtV Z p = .tuple #[.int .i64 ((p + 2 : Nat) : Int), .int .i64 0]) := by
        show mtV Z p = _
        unfold mtV
        rw [mt_right HK.out]
        rfl
      go_wp2
      go_ret2
      exact ⟨by rw [HV.out]; rfl, HB.out⟩
    have hk1 : (k : Int) < 2 := by omega
    by_cases hz : p + k < len
    case neg =>
      have hz' : (len : Int) ≤ (p : Int) + (k : Int) := by omega
      have HV : Vl (mtV Z p = .tuple #[.int .i64 0, .int .i64 8]) := by
        show mtV Z p = _
        unfold mtV
        rw [mt_short HK.out (by omega) (by omega)]
        rfl
      go_wp2
      go_ret2
      exact ⟨by rw [HV.out]; rfl, HB.out⟩
    obtain ⟨g, off, rfl, hr⟩ : ∃ g off, a = some ⟨g, off, none⟩ ∧ Row wr g off len cap Z := by
      rcases (HA.out.below HB.out) with ⟨h0, _⟩ | h0
      · omega
      · exact h0
    have hc := hr.hcell (p + k) hz
    have hby := hr.hbyte (p + k)
    obtain ⟨y, hy⟩ : ∃ y, Z.getD (p + k) 0 = y := ⟨_, rfl⟩
    rw [hy] at hc hby
    have HY := vl hy
    have hz' : (p : Int) + (k : Int) < (len : Int) := by omega
    clear hy hr
    obtain rfl | rfl : k = 0 ∨ k = 1 := by omega
    · have hc0 : wr.cell? ⟨g, off + p, none⟩ = some (.int .u8 y) := hc
      have hz0 : (p : Int) < (len : Int) := by omega
      have hz1 : p < len := by omega
      clear hc hz' hk1 hk2
      by_cases hy : y = 13
      · subst hy
        have HM : Vl (MtAt Z p 1) := ⟨by omega, fun _ => HY.out, fun h => by omega⟩
        go_wp2_with fail
        go_quiet (fail)
        go_wp2
        exact ⟨⟨1, rfl, by omega, HM.out, dN_below HB.out _⟩, by simp [intOf]⟩
      · have hyb : (y != ((({ data := #[13, 10] } : ByteArray)[0]'(by decide)).toNat : Int)) = true := by
          show (y != 13) = true
          simpa using hy
        have HV : Vl (mtV Z p = .tuple #[.int .i64 0, .int .i64 2]) := by
          show mtV Z p = _
          unfold mtV
          rw [mt_wrong HK.out (by omega) (by omega) (by rw [HY.out]; exact hy)]
          rfl
        go_wp2_with fail
        go_quiet (fail)
        go_wp2
        go_ret2
        exact ⟨by rw [HV.out]; rfl, dN_below HB.out _⟩
    · have hc0 : wr.cell? ⟨g, off + (p + 1), none⟩ = some (.int .u8 y) := hc
      have hz0 : (p : Int) + 1 < (len : Int) := by omega
      have hz1 : p + 1 < len := by omega
      clear hc hz' hk1 hk2
      by_cases hy : y = 10
      · subst hy
        have HM : Vl (MtAt Z p 2) := ⟨by omega, fun _ => HK.out.2.1 (by omega), fun _ => HY.out⟩
        go_wp2_with fail
        go_quiet (fail)
        go_wp2
        exact ⟨⟨2, rfl, by omega, HM.out, dN_below HB.out _⟩, by simp [intOf]⟩
      · have hyb : (y != ((({ data := #[13, 10] } : ByteArray)[1]'(by decide)).toNat : Int)) = true := by
          show (y != 10) = true
          simpa using hy
        have HV : Vl (mtV Z p = .tuple #[.int .i64 0, .int .i64 2]) := by
          show mtV Z p = _
          unfold mtV
          rw [mt_wrong HK.out (by omega) (by omega) (by rw [HY.out]; exact hy)]
          rfl
        go_wp2_with fail
        go_quiet (fail)
        go_wp2
        go_ret2
        exact ⟨by rw [HV.out]; rfl, dN_below HB.out _⟩
end Go.Proofs.YtgjolljhjagngafDoor
