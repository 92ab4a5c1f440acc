/-
  WHERETO: the document's PrintRoutes. No claim by itself.
-/
import Derived.Test.YtmjdfbbhlbecdaaDoorWh9
import Derived.BigQuiet
import Derived.Deep.QuietTactic
namespace Go.Proofs.YtmjdfbbhlbecdaaDoor
open Go Go.RowKit
set_option maxRecDepth 100000
theorem un_line2 (S x y z : ByteArray) : unums (S ++ hostS x ++ ⟨#[32]⟩ ++ y ++ ⟨#[32]⟩ ++ z ++ ⟨#[10]⟩) = unums S ++ lineR (rtO (x, y, z)) := by
  have h := un_line x y z
  rw [unums_app, unums_app, unums_app, unums_app, unums_app] at h
  rw [unums_app, unums_app, unums_app, unums_app, unums_app, unums_app, ← h]
  simp
set_option maxHeartbeats 4000000 in
theorem rprint_row (g off len cap : Nat) (L : List Rb) (w : World) (hr : RtRow w g off len cap L) (hc : chkR (rtsOf L) = 0) :
    Calls Tryd.prog 9 #[.slice (some ⟨g, off, none⟩) len cap] w fun e w' => (∃ s, e = .returned (.string s) ∧ unums s = printL (rtsOf L)) ∧ Below w.heap.size w w' := by
  have HR := vl hr
  have HE := vl hc
  have hcap := hr.hcap
  have hmax := hr.hmax
  unfold maxLen at hmax
  have HL := vl hr.hlen
  clear hr hc
  go_enter Tryd.func9, Tryd.ntmps9
  go_wp2_with fail
  go_loopw [3, 4, 5] (fun sv i _ wr => ∃ (k : Nat) (S : ByteArray), sv = .string S ∧ i = .int .i64 k ∧ k ≤ len ∧ S.size ≤ k * 1300 ∧ Vl (unums S = printL ((rtsOf L).take k)) ∧ Vl (Below w.heap.size w wr)) (fun _ i _ _ => len - (intOf i).toNat)
  case atStart => exact ⟨0, ⟨#[]⟩, rfl, rfl, by omega, by decide, rfl, Below.refl _ _⟩
  case round =>
    obtain ⟨k, S, rfl, rfl, hk, hS, HS, HB⟩ := hrel
    by_cases hlt : k < len
    · have hlt' : (k : Int) < (len : Int) := by omega
      have hk0 : (0 : Int) ≤ (k : Int) := by omega
      have hr2 := HR.out.below HB.out
      have c0 := hr2.h0 k hlt
      have c1 := hr2.h1 k hlt
      have c2 := hr2.h2 k hlt
      have HAT := vl (rts_at L k)
      have HOK := vl (lineR_len (chk_at HE.out k (by rw [rts_len, HL.out]; exact hlt)).1)
      have HST := vl (printL_at (rtsOf L) k (by rw [rts_len, HL.out]; exact hlt))
      have h20 := (chkR_le HE.out).1
      rw [rts_len, HL.out] at h20
      rw [HAT.out] at HOK HST
      generalize L.getD k rbn = f at *
      obtain ⟨x, y, z⟩ := f
      have hall : (hostS x).size + 1 + y.size + 1 + z.size + 1 ≤ 1300 := by
        have h2 := HOK.out
        rw [← un_line x y z, unums_len] at h2
        simp only [ByteArray.size_append] at h2
        have e1 : (⟨#[32]⟩ : ByteArray).size = 1 := rfl
        have e2 : (⟨#[10]⟩ : ByteArray).size = 1 := rfl
        omega
      have HNX : Vl (unums (S ++ hostS x ++ ⟨#[32]⟩ ++ y ++ ⟨#[32]⟩ ++ z ++ ⟨#[10]⟩) = printL ((rtsOf L).take (k + 1)) ∧ (S ++ hostS x ++ ⟨#[32]⟩ ++ y ++ ⟨#[32]⟩ ++ z ++ ⟨#[10]⟩).size ≤ (k + 1) * 1300) := by
        refine ⟨by rw [un_line2, HS.out, HST.out], ?_⟩
        simp only [ByteArray.size_append]
        have e1 : (⟨#[32]⟩ : ByteArray).size = 1 := rfl
        have e2 : (⟨#[10]⟩ : ByteArray).size = 1 := rfl
        omega
      have HD : Vl (∀ n, Below w.heap.size w (wr.drewN n)) := fun n => drewN_below HB.out n
      clear hr2 HOK HST HAT
      by_cases q : x.toList = []
      · have q' : (x.toList == []) = true := by simpa using q
        have hx : hostS x = ⟨#[42]⟩ := by unfold hostS; rw [if_pos q]
        rw [hx] at HNX hall
        have e42 : (ByteArray.mk #[42]).size = 1 := rfl
        have s0 : ¬ 9223372036854775807 < S.size + 1 := by omega
        have s1 : ¬ 9223372036854775807 < S.size + 1 + 1 := by omega
        have s1' : ¬ 9223372036854775807 < S.size + 2 := by omega
        have s2 : ¬ 9223372036854775807 < S.size + 1 + 1 + y.size := by omega
        have s3 : ¬ 9223372036854775807 < S.size + 1 + 1 + y.size + 1 := by omega
        have s4 : ¬ 9223372036854775807 < S.size + 1 + 1 + y.size + 1 + z.size := by omega
        have s5 : ¬ 9223372036854775807 < S.size + 1 + 1 + y.size + 1 + z.size + 1 := by omega
        clear hx hall e42
        go_wp2_with fail
        go_quiet (fail)
        go_wp2_with fail
        go_roundw
        case rel => exact ⟨k + 1, _, rfl, by go_num, by omega, HNX.out.2, HNX.out.1, HD.out _⟩
        case measure => simp [intOf]; omega
      · have q' : (x.toList == []) = false := by simpa using q
        have hx : hostS x = x := by unfold hostS; rw [if_neg q]
        rw [hx] at HNX hall
        have s0 : ¬ 9223372036854775807 < S.size + x.size := by omega
        have s1 : ¬ 9223372036854775807 < S.size + x.size + 1 := by omega
        have s2 : ¬ 9223372036854775807 < S.size + x.size + 1 + y.size := by omega
        have s3 : ¬ 9223372036854775807 < S.size + x.size + 1 + y.size + 1 := by omega
        have s4 : ¬ 9223372036854775807 < S.size + x.size + 1 + y.size + 1 + z.size := by omega
        have s5 : ¬ 9223372036854775807 < S.size + x.size + 1 + y.size + 1 + z.size + 1 := by omega
        clear hx hall
        go_wp2_with fail
        go_quiet (fail)
        go_wp2_with fail
        go_roundw
        case rel => exact ⟨k + 1, _, rfl, by go_num, by omega, HNX.out.2, HNX.out.1, HD.out _⟩
        case measure => simp [intOf]; omega
    · have hlt' : ¬ (k : Int) < (len : Int) := by omega
      have HP : Vl (unums S = printL (rtsOf L)) := by
        show _ = _
        rw [HS.out, show k = (rtsOf L).length from by rw [rts_len, HL.out]; omega, List.take_length]
      go_wp2_with fail
      go_ret
      exact ⟨⟨_, rfl, HP.out⟩, HB.out⟩
theorem rprint_any (a : Option Addr) (len cap : Nat) (L : List Rb) (w : World) (hA : RtArg w a len cap L) (hc : chkR (rtsOf L) = 0) :
    Calls Tryd.prog 9 #[.slice a len cap] w fun e w' => (∃ s, e = .returned (.string s) ∧ unums s = printL (rtsOf L)) ∧ Below w.heap.size w w' := by
  rcases hA with ⟨rfl, rfl⟩ | ⟨g, off, rfl, hr⟩
  · go_enter Tryd.func9, Tryd.ntmps9
    go_wp2_with fail
    go_loopw [3, 4, 5] (fun x i _ wr => x = .string ⟨#[]⟩ ∧ i = .int .i64 0 ∧ wr = w) (fun _ _ _ _ => 0)
    case atStart => exact ⟨rfl, rfl, rfl⟩
    case round =>
      obtain ⟨rfl, rfl, rfl⟩ := hrel
      go_wp2_with fail
      go_ret
      exact ⟨⟨_, rfl, rfl⟩, Below.refl _ _⟩
  · exact rprint_row g off len cap L w hr hc
end Go.Proofs.YtmjdfbbhlbecdaaDoor
