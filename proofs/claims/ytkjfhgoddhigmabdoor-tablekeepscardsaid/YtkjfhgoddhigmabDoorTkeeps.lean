/-
  THE WALK of the Go function tolllaw1.TableKeeps, its callees by their contracts. No claim by itself.
-/
import Derived.Test.YtkjfhgoddhigmabDoorTspec
import Derived.Test.YtkjfhgoddhigmabDoorTrsize
import Derived.Deep.QuietTactic
import Derived.BigQuiet
import Derived.Deep.RegionHeld3
namespace Go.Proofs.YtkjfhgoddhigmabDoor
open Go.RowKit
/-- What is known of a field that was asked to be added. -/
structure Added (A : List (ByteArray × ByteArray)) (n v : ByteArray) (max : Int) (ok : Bool) (B : List (ByteArray × ByteArray)) (x y : Nat) : Prop where
  hok : ok = decide ((fsize (n, v) : Int) ≤ max)
  hx : x ≠ 0 → 1 ≤ x ∧ x ≤ 12 + B.length ∧ (alwaysL ++ B).getD (x - 1) fnone = (n, v)
  hy : y ≠ 0 → 1 ≤ y ∧ y ≤ 12 + B.length ∧ ((alwaysL ++ B).getD (y - 1) fnone).1 = n
  hT : ok = true → 1 ≤ B.length ∧ (alwaysL ++ B).getD 12 fnone = (n, v) ∧ 1 ≤ x ∧ 1 ≤ y ∧ y ≤ x
  hN : ok = false → B = []
theorem added (A : List (ByteArray × ByteArray)) (n v : ByteArray) (max : Int) :
    Added A n v max (addL A (n, v) max).1 (addL A (n, v) max).2 (fnd (isF n v) (alwaysL ++ (addL A (n, v) max).2) 0) (fnd (isN n) (alwaysL ++ (addL A (n, v) max).2) 0) := by
  have hlen : ∀ B : List (ByteArray × ByteArray), (alwaysL ++ B).length = 12 + B.length := fun B => by rw [List.length_append, always_len]
  refine ⟨?_, ?_, ?_, ?_, ?_⟩
  · unfold addL
    by_cases h : max < (fsize (n, v) : Int)
    · rw [if_pos h]; simp; omega
    · rw [if_neg h]; simp; omega
  · intro h
    obtain ⟨h1, h2, h3⟩ := fnd_zero _ _ _ h
    rw [hlen] at h2
    rw [Nat.sub_zero] at h3
    exact ⟨by omega, by omega, isF_eq h3⟩
  · intro h
    obtain ⟨h1, h2, h3⟩ := fnd_zero _ _ _ h
    rw [hlen] at h2
    rw [Nat.sub_zero] at h3
    exact ⟨by omega, by omega, isN_eq h3⟩
  · intro h
    have hb : (addL A (n, v) max).2 = (n, v) :: A.take (keepN A (max - fsize (n, v)) A.length) := by
      unfold addL at h ⊢
      by_cases h1 : max < (fsize (n, v) : Int)
      · rw [if_pos h1] at h; cases h
      · rw [if_neg h1]
    generalize (addL A (n, v) max).2 = B at *
    have hB : 1 ≤ B.length := by rw [hb]; simp
    have hat : (alwaysL ++ B).getD 12 fnone = (n, v) := by
      rw [hb]; rfl
    have hf := finds_at B 12 (by omega)
    simp only [hat] at hf
    have hy : 1 ≤ fnd (isN n) (alwaysL ++ B) 0 := by
      have := fnd_hit (isN n) (alwaysL ++ B) 0 12 (by rw [hlen]; omega) (by rw [hat]; simp [isN])
      omega
    exact ⟨hB, hat, hf.1, hy, hf.2.2.2.1⟩
  · intro h
    unfold addL at h ⊢
    by_cases h1 : max < (fsize (n, v) : Int)
    · rw [if_pos h1]
    · rw [if_neg h1] at h; cases h
set_option maxRecDepth 100000 in
set_option maxHeartbeats 8000000 in
theorem tkeeps_ok {D : TabD} (T : TabKeeps D) (hNew : TNewSaid D) (hAdd : TAddSaid D) (hGet : TGetSaid D) (hFind : TFindSaid D) (hLen : TLenSaid D) (hSize : TSizeSaid D) (hLenQ : TLenQuiet D) (hSizeQ : TSizeQuiet D)
    (max : Int) (a : Option Addr) (len cap : Nat) (L : List (ByteArray × ByteArray)) (w : World) (hal : Alw w) (hA : FArg w a len cap L) (hl : len ≤ 4611686018427387904) (hL : ∀ t, (L.getD t fnone).1.size + (L.getD t fnone).2.size ≤ 1152921504606846976) :
    Calls Tryd.prog 4 #[.int .i64 max, .slice a len cap] w fun e w' => e = .returned (.bool true) ∧ Below w.heap.size w w' := by
  have heq : ∀ (a b : ByteArray) (w : World), (binOp .neq 36 (.agg #[.string a, .string b]) (.agg #[.string a, .string b])).run Tryd.prog w = .ok (.bool false) w := fun a b w => by rw [run_neqF]; simp
  have hgd := eqGuardF
  have HA : Hid (∀ wx, Below w.heap.size w wx → FArg wx a len cap L) := fun wx hb => hA.below hb
  have HL : Hid (∀ t, (L.getD t fnone).1.size + (L.getD t fnone).2.size ≤ 1152921504606846976) := hL
  have HAL : Hid (Alw w) := hal
  clear hA hL hal
  go_enter Tryd.func4, Tryd.ntmps4
  go_wp2_with fail
  refine (hNew 100 w HAL.out).mono ?_
  rintro e w1 ⟨hb1, ⟨_, _, t1, S1, rfl, hD1, hS1⟩ | ⟨hm, v, rfl⟩⟩
  · have hF0 : Fit 100 [] := Fit.nil (by decide) (by decide)
    have hs1 := hb1.size
    have hadd := hAdd t1 100 [] S1 ⟨#[97]⟩ ⟨#[98]⟩ w1 hD1 hF0 (by decide)
    have ea : addL [] (⟨#[97]⟩, ⟨#[98]⟩) 100 = (true, [(⟨#[97]⟩, ⟨#[98]⟩)]) := by decide +kernel
    rw [ea] at hadd
    unfold tval at hadd ⊢
    go_wp2_with fail
    refine hadd.mono ?_
    rintro e w2 ⟨rfl, hoff, S2, hD2, hS2⟩
    have hB2 := Below.off hb1 hoff hs1 hS1
    have hs2 := hB2.size
    have hF1 : Fit 100 [((⟨#[97]⟩ : ByteArray), (⟨#[98]⟩ : ByteArray))] := ⟨by decide, by decide, by decide +kernel⟩
    have hg := hGet t1 100 [(⟨#[97]⟩, ⟨#[98]⟩)] S2 13 w2 hD2 hF1
    unfold tval at hg
    clear hadd hoff hS1 hD1
    go_wp2_with fail
    refine hg.mono ?_
    rintro e w3 ⟨v, rfl, hv, hb3⟩
    have hv2 : v = .tuple #[.agg #[.string ⟨#[97]⟩, .string ⟨#[98]⟩], .nilIface] := by
      rcases hv with ⟨_, _, rfl⟩ | ⟨hn, _⟩
      · rfl
      · exact absurd (by decide +kernel) hn
    subst hv2
    have hs3 := hb3.size
    have hsz1 := hSize t1 100 [(⟨#[97]⟩, ⟨#[98]⟩)] S2 _ (T.below (T.below hD2 hb3) ((Below.refl _ w3).alloc (Nat.le_refl _) (.cells #[.string ⟨#[97]⟩, .string ⟨#[98]⟩] 36))) hF1
    have ew : weight [((⟨#[97]⟩ : ByteArray), (⟨#[98]⟩ : ByteArray))] = 34 := by decide +kernel
    rw [ew] at hsz1
    unfold tval at hsz1
    clear hg hv
    go_wp2_with fail
    refine hsz1.mono ?_
    rintro e w4 ⟨rfl, hb4⟩
    have hB4 : Below w.heap.size w w4 := ((hB2.trans (hb3.mono (by omega))).alloc (by omega) _).trans (hb4.mono (by simp; omega))
    have hs4 := hB4.size
    have hn := hNew max w4 (HAL.out.below hB4)
    clear hsz1 hD2 hb4 hb3 hS2 hB2
    go_wp2_with fail
    refine hn.mono ?_
    rintro e w5 ⟨hb5, ⟨m0, m1, tb, S, rfl, hD, hS⟩ | ⟨hm, v, rfl⟩⟩
    · have hB5 : Below w.heap.size w w5 := hB4.trans (hb5.mono hs4)
      have hF : Fit max [] := Fit.nil m0 m1
      have hS5 : ∀ q, S q → w.heap.size ≤ q := fun q hq => Nat.le_trans hs4 (hS q hq)
      clear hn hb5 hS
      unfold tval
      go_wp2_with fail
      go_loopw [12] (fun i wr => ∃ (k : Nat) (A : List (ByteArray × ByteArray)) (S : Nat → Prop), i = .int .i64 k ∧ k ≤ len ∧ D wr tb max A S ∧ Fit max A ∧ (∀ q, S q → w.heap.size ≤ q) ∧ Below w.heap.size w wr) (fun i _ => len - (intOf i).toNat)
      case atStart => exact ⟨0, [], S, rfl, by omega, hD, hF, hS5, hB5⟩
      case round =>
        clear hD hS5 hB5 hF
        obtain ⟨k, A, S, rfl, hk, hD, hF, hS, hbel⟩ := hrel
        have hsz := hbel.size
        by_cases hlt : k < len ∧ k < 60
        · obtain ⟨hl1, hl2⟩ := hlt
          have d1 : (k : Int) < (len : Int) := by omega
          have d2 : (k : Int) < 60 := by omega
          rcases HA.out wr hbel with ⟨hx, _⟩ | ⟨g, off, rfl, hr⟩
          · omega
          have HC : Hid (∀ W, Below w.heap.size w W → W.cell? ⟨g, off + k * 2, none⟩ = some (.string (L.getD k fnone).1) ∧ W.cell? ⟨g, off + k * 2 + 1, none⟩ = some (.string (L.getD k fnone).2)) := by
            intro W hW
            rcases HA.out W hW with ⟨hx, _⟩ | ⟨g', off', e, hr'⟩
            · omega
            · cases e
              exact ⟨hr'.hname k hl1, hr'.hvalue k hl1⟩
          have hcap := hr.hcap
          have hmx := hr.hmax
          unfold maxLen at hmx
          have hgw : g < w.heap.size := by
            rcases HA.out w (Below.refl _ _) with ⟨hx, _⟩ | ⟨g', off', e, hr'⟩
            · omega
            · cases e
              have hc := hr'.hname k hl1
              rcases Nat.lt_or_ge g w.heap.size with h | h
              · exact h
              · simp [World.cell?, Array.getElem?_eq_none h] at hc
          have hnv := HL.out k
          generalize L.getD k fnone = f at *
          obtain ⟨n, v⟩ := f
          obtain ⟨c1, c2⟩ := HC.out wr hbel
          have hadd := hAdd tb max A S n v wr hD hF hnv
          have had := added A n v max
          have hFB := hF.add (n, v)
          unfold tval at hadd
          clear hr hD
          go_wp2_with fail
          refine hadd.mono ?_
          rintro e w6 ⟨rfl, hoff, S', hD', hS'⟩
          have hB6 := Below.off hbel hoff hsz hS
          have hs6 := hB6.size
          have hSS : ∀ q, S' q → w.heap.size ≤ q := fun q hq => by rcases hS' q hq with h | h; exact hS q h; omega
          clear hadd hoff hS' hS c1 c2
          have hsize := fun W (h : D W tb max (addL A (n, v) max).2 S') => hSize tb max _ S' W h hFB
          have hlen := fun W (h : D W tb max (addL A (n, v) max).2 S') => hLen tb max _ S' W h hFB
          have hget := fun i W (h : D W tb max (addL A (n, v) max).2 S') => hGet tb max _ S' i W h hFB
          have hfind := fun W (h : D W tb max (addL A (n, v) max).2 S') => hFind tb max _ S' n v W h hFB
          unfold tval at hsize hlen hget hfind
          generalize fnd (isF n v) (alwaysL ++ (addL A (n, v) max).2) 0 = x at *
          generalize fnd (isN n) (alwaysL ++ (addL A (n, v) max).2) 0 = y at *
          generalize (addL A (n, v) max).2 = B at *
          generalize (addL A (n, v) max).1 = ok at *
          obtain ⟨hok, hx, hy, hT, hN⟩ := had
          have HT := hide hT
          have HNn := hide hN
          have HOK := hide hok
          clear hT hN hok
          have hwB := hFB.h2
          have hLl : (alwaysL ++ B).length = 12 + B.length := by rw [List.length_append, always_len]
          have hBl := hFB.len
          have hgx : Hid (x ≠ 0 → ∀ u, GotAt (alwaysL ++ B) (x : Nat) u → u = .tuple #[.agg #[.string n, .string v], .nilIface]) := by
            intro h0 u hu
            obtain ⟨q1, q2, q3⟩ := hx h0
            rcases hu with ⟨_, _, rfl⟩ | ⟨hn, _⟩
            · rw [show ((x : Int) - 1).toNat = x - 1 from by omega, q3]; rfl
            · exact absurd ⟨by omega, by rw [hLl]; omega⟩ hn
          have hgy : Hid (y ≠ 0 → ∀ u, GotAt (alwaysL ++ B) (y : Nat) u → ∃ v2, u = .tuple #[.agg #[.string n, .string v2], .nilIface]) := by
            intro h0 u hu
            obtain ⟨q1, q2, q3⟩ := hy h0
            rcases hu with ⟨_, _, rfl⟩ | ⟨hn, _⟩
            · refine ⟨((alwaysL ++ B).getD (y - 1) fnone).2, ?_⟩
              rw [show ((y : Int) - 1).toNat = y - 1 from by omega]
              unfold fval
              rw [q3]
            · exact absurd ⟨by omega, by rw [hLl]; omega⟩ hn
          clear hx hy
          go_wp2_with fail
          refine (hsize _ hD').mono ?_
          rintro e w7 ⟨rfl, hb7⟩
          have hB7 : Below w.heap.size w w7 := hB6.trans (hb7.mono hs6)
          have hs7 := hB7.size
          have hD7 := T.below hD' hb7
          obtain ⟨c1, c2⟩ := HC.out w7 hB7
          clear hD' hb7
          go_wp2_with fail
          refine (rsize_any n v _ hnv).mono ?_
          rintro e w8 ⟨rfl, rfl⟩
          have hB8 : Below w.heap.size w (w7.alloc (.cells #[.string n, .string v] 36)) := hB7.alloc hs7 _
          have hD8 := T.below hD7 ((Below.refl _ w7).alloc (Nat.le_refl _) (.cells #[.string n, .string v] 36))
          clear hD7
          generalize fsize (n, v) = z at *
          by_cases hfit : (z : Int) ≤ max
          · have hok2 : ok = true := by rw [HOK.out]; simp; omega
            subst hok2
            obtain ⟨hB1, h12, x1, y1, yx⟩ := HT.out rfl
            have H12 := hide h12
            clear HOK HNn HT h12
            have x1i : 1 ≤ (x : Int) := by omega
            have y1i : 1 ≤ (y : Int) := by omega
            have yxi : (y : Int) ≤ (x : Int) := by omega
            go_wp2_with fail
            refine (hget 13 _ hD8).mono ?_
            rintro e w9 ⟨v9, rfl, hv9, hb9⟩
            have hv9b : v9 = .tuple #[.agg #[.string n, .string v], .nilIface] := by
              rcases hv9 with ⟨_, _, rfl⟩ | ⟨hn, _⟩
              · rw [show ((13 : Int) - 1).toNat = 12 from rfl, H12.out]; rfl
              · exact absurd ⟨by omega, by rw [hLl]; omega⟩ hn
            subst hv9b
            have hB9 : Below w.heap.size w w9 := hB8.trans (hb9.mono hB8.size)
            have hs9 := hB9.size
            have hD9 := T.below (T.below hD8 hb9) ((Below.refl _ w9).alloc (Nat.le_refl _) (.cells #[.string n, .string v] 36))
            have hB9a : Below w.heap.size w (w9.alloc (.cells #[.string n, .string v] 36)) := hB9.alloc hs9 _
            obtain ⟨c3, c4⟩ := HC.out w9 hB9
            have hg9 : g < w9.heap.size := by omega
            clear hv9 hb9 hD8 c1 c2
            go_wp2_with fail
            go_quiet (fail)
            go_wp2_with fail
            have hB10 := drewN_below hB9a nq
            have hD10 := T.below hD9 (drewN_below (Below.refl _ _) nq)
            refine (hfind _ hD10).mono ?_
            rintro e wa ⟨rfl, hba⟩
            have hBa : Below w.heap.size w wa := hB10.trans (hba.mono hB10.size)
            have hsa := hBa.size
            have hDa := T.below hD10 hba
            clear hD9 hD10 hB10 hba hB9a
            go_wp2_with fail
            refine (hget x _ hDa).mono ?_
            rintro e wb ⟨vb, rfl, hvb, hbb⟩
            obtain rfl := hgx.out (by omega) vb hvb
            have hBb : Below w.heap.size w wb := hBa.trans (hbb.mono hsa)
            have hsb := hBb.size
            have hDb := T.below (T.below hDa hbb) ((Below.refl _ wb).alloc (Nat.le_refl _) (.cells #[.string n, .string v] 36))
            have hBba : Below w.heap.size w (wb.alloc (.cells #[.string n, .string v] 36)) := hBb.alloc hsb _
            obtain ⟨c5, c6⟩ := HC.out wb hBb
            have hgb : g < wb.heap.size := by omega
            clear hvb hbb hDa c3 c4
            go_wp2_with fail
            go_quiet (fail)
            have hBc := drewN_below hBba nq
            have hDc := T.below hDb (drewN_below (Below.refl _ _) nq)
            go_wp2_with fail
            refine (hget y _ hDc).mono ?_
            rintro e wd ⟨vd, rfl, hvd, hbd⟩
            obtain ⟨v2, rfl⟩ := hgy.out (by omega) vd hvd
            have hBd : Below w.heap.size w wd := hBc.trans (hbd.mono hBc.size)
            have hsd := hBd.size
            have hDd := T.below (T.below hDc hbd) ((Below.refl _ wd).alloc (Nat.le_refl _) (.cells #[.string n, .string v2] 36))
            have hBda : Below w.heap.size w (wd.alloc (.cells #[.string n, .string v2] 36)) := hBd.alloc hsd _
            obtain ⟨c7, c8⟩ := HC.out wd hBd
            have hgd2 : g < wd.heap.size := by omega
            clear hvd hbd hDc hDb c5 c6
            go_wp2_with fail
            go_quiet (fail)
            have hBe := drewN_below hBda nq
            have hDe := T.below hDd (drewN_below (Below.refl _ _) nq)
            go_wp2
            go_roundw
            case rel => exact ⟨k + 1, B, S', by go_num, by omega, hDe, hFB, hSS, hBe⟩
            case measure => simp [intOf]; omega
          · have hok2 : ok = false := by rw [HOK.out]; simp; omega
            subst hok2
            obtain rfl := HNn.out rfl
            have hfi : max < (z : Int) := by omega
            clear HOK HNn HT
            have hlenq := fun W (h : D W tb max [] S') => hLenQ tb max [] S' W h hFB
            have hsizeq := fun W (h : D W tb max [] S') => hSizeQ tb max S' W h hFB
            unfold tval at hlenq hsizeq
            have el : ((12 + ([] : List (ByteArray × ByteArray)).length : Nat) : Int) = 12 := rfl
            rw [el] at hlenq
            go_wp2_with fail
            refine (hget 13 _ hD8).mono ?_
            rintro e w9 ⟨v9, rfl, hv9, hb9⟩
            have hv9b : v9 = .tuple #[.agg #[.string ⟨#[]⟩, .string ⟨#[]⟩], .iface 61 (.int .i64 5)] := by
              rcases hv9 with ⟨_, hn, _⟩ | ⟨_, rfl⟩
              · rw [hLl] at hn; simp at hn
              · rfl
            subst hv9b
            have hB9 : Below w.heap.size w w9 := hB8.trans (hb9.mono hB8.size)
            have hs9 := hB9.size
            have hD9 := T.below (T.below hD8 hb9) ((Below.refl _ w9).alloc (Nat.le_refl _) (.cells #[.string ⟨#[]⟩, .string ⟨#[]⟩] 36))
            have hD9d := T.below hD9 (Below.refl _ _).drew
            have hB9a : Below w.heap.size w (w9.alloc (.cells #[.string ⟨#[]⟩, .string ⟨#[]⟩] 36)) := hB9.alloc hs9 _
            have hB9d := hB9a.drew
            obtain ⟨c3, c4⟩ := HC.out w9 hB9
            have hg9 : g < w9.heap.size := by omega
            clear hv9 hb9 hD8 c1 c2
            go_wp2_with fail
            go_quiet (first | (go_at_call 16; exact Calls.quiet_of (hlenq _ (T.below hD9 (drewN_below (Below.refl _ _) _)))) | (go_at_call 17; exact Calls.quiet_of (hsizeq _ (T.below hD9 (drewN_below (Below.refl _ _) _)))))
            have hB10 := drewN_below hB9a nq
            have hD10 := T.below hD9 (drewN_below (Below.refl _ _) nq)
            go_wp2_with fail
            refine (hfind _ hD10).mono ?_
            rintro e wa ⟨rfl, hba⟩
            have hBa : Below w.heap.size w wa := hB10.trans (hba.mono hB10.size)
            have hsa := hBa.size
            have hDa := T.below hD10 hba
            clear hD9 hD10 hB10 hba hB9a hlenq hsizeq hD9d hB9d
            by_cases hx0 : x = 0
            · subst hx0
              by_cases hy0 : y = 0
              · subst hy0
                go_wp2
                go_roundw
                case rel => exact ⟨k + 1, [], S', by go_num, by omega, hDa, hFB, hSS, hBa⟩
                case measure => simp [intOf]; omega
              · have hyi : 0 < (y : Int) := by omega
                clear c3 c4
                go_wp2_with fail
                refine (hget y _ hDa).mono ?_
                rintro e wd ⟨vd, rfl, hvd, hbd⟩
                obtain ⟨v2, rfl⟩ := hgy.out (by omega) vd hvd
                have hBd : Below w.heap.size w wd := hBa.trans (hbd.mono hsa)
                have hsd := hBd.size
                have hDd := T.below (T.below hDa hbd) ((Below.refl _ wd).alloc (Nat.le_refl _) (.cells #[.string n, .string v2] 36))
                have hBda : Below w.heap.size w (wd.alloc (.cells #[.string n, .string v2] 36)) := hBd.alloc hsd _
                obtain ⟨c7, c8⟩ := HC.out wd hBd
                have hgd2 : g < wd.heap.size := by omega
                clear hvd hbd
                go_wp2_with fail
                go_quiet (fail)
                have hBe := drewN_below hBda nq
                have hDe := T.below hDd (drewN_below (Below.refl _ _) nq)
                go_wp2
                go_roundw
                case rel => exact ⟨k + 1, [], S', by go_num, by omega, hDe, hFB, hSS, hBe⟩
                case measure => simp [intOf]; omega
            · have hxi : 0 < (x : Int) := by omega
              go_wp2_with fail
              refine (hget x _ hDa).mono ?_
              rintro e wb ⟨vb, rfl, hvb, hbb⟩
              obtain rfl := hgx.out (by omega) vb hvb
              have hBb : Below w.heap.size w wb := hBa.trans (hbb.mono hsa)
              have hsb := hBb.size
              have hDb := T.below (T.below hDa hbb) ((Below.refl _ wb).alloc (Nat.le_refl _) (.cells #[.string n, .string v] 36))
              have hBba : Below w.heap.size w (wb.alloc (.cells #[.string n, .string v] 36)) := hBb.alloc hsb _
              obtain ⟨c5, c6⟩ := HC.out wb hBb
              have hgb : g < wb.heap.size := by omega
              clear hvb hbb hDa c3 c4
              go_wp2_with fail
              go_quiet (fail)
              have hBc := drewN_below hBba nq
              have hDc := T.below hDb (drewN_below (Below.refl _ _) nq)
              by_cases hy0 : y = 0
              · subst hy0
                go_wp2
                go_roundw
                case rel => exact ⟨k + 1, [], S', by go_num, by omega, hDc, hFB, hSS, hBc⟩
                case measure => simp [intOf]; omega
              · have hyi : 0 < (y : Int) := by omega
                clear c5 c6
                go_wp2_with fail
                refine (hget y _ hDc).mono ?_
                rintro e wd ⟨vd, rfl, hvd, hbd⟩
                obtain ⟨v2, rfl⟩ := hgy.out (by omega) vd hvd
                have hBd : Below w.heap.size w wd := hBc.trans (hbd.mono hBc.size)
                have hsd := hBd.size
                have hDd := T.below (T.below hDc hbd) ((Below.refl _ wd).alloc (Nat.le_refl _) (.cells #[.string n, .string v2] 36))
                have hBda : Below w.heap.size w (wd.alloc (.cells #[.string n, .string v2] 36)) := hBd.alloc hsd _
                obtain ⟨c7, c8⟩ := HC.out wd hBd
                have hgd2 : g < wd.heap.size := by omega
                clear hvd hbd
                go_wp2_with fail
                go_quiet (fail)
                have hBe := drewN_below hBda nq
                have hDe := T.below hDd (drewN_below (Below.refl _ _) nq)
                go_wp2
                go_roundw
                case rel => exact ⟨k + 1, [], S', by go_num, by omega, hDe, hFB, hSS, hBe⟩
                case measure => simp [intOf]; omega
        · have hcase : (len : Int) ≤ (k : Int) ∨ ((k : Int) < (len : Int) ∧ 60 ≤ (k : Int)) := by omega
          clear hlt
          rcases hcase with d1 | ⟨d1, d2⟩
          all_goals
            go_wp2
            go_ret
            exact ⟨rfl, hbel⟩
    · have hB5 : Below w.heap.size w w5 := hB4.trans (hb5.mono hs4)
      go_wp2
      go_ret
      exact ⟨rfl, hB5⟩
  · exact absurd (by decide) hm
end Go.Proofs.YtkjfhgoddhigmabDoor
