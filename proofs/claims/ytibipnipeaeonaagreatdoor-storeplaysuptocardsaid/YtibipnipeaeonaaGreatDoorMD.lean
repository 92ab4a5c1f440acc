/-
  WHAT WAS ANSWERED: for how long a reply may be told; the developers' isTime and Life. No claim by itself.
-/
import Derived.Test.YtibipnipeaeonaaGreatDoorZy1X
import Derived.Test.YtibipnipeaeonaaGreatDoorZatX
import Derived.Test.YtibipnipeaeonaaGreatDoorNitoaX
import Derived.Test.YtibipnipeaeonaaGreatDoorZy4X
namespace Go.Proofs.YtibipnipeaeonaaGreatDoor
open Go Go.RowKit
set_option maxRecDepth 100000
def cacheN : List Int := [99, 97, 99, 104, 101]
def maxP : List Int := [109, 97, 120, 45]
theorem zpu_one {acc : Nat} {c : UInt8} {r : List UInt8} (hacc : acc < 1000000) : Lib.parseUint10 acc (c :: r) = if 48 ≤ c.toNat ∧ c.toNat ≤ 57 then Lib.parseUint10 (acc * 10 + (c.toNat - 48)) r else .syntax := by
  rw [Lib.parseUint10]
  split
  · rw [if_neg (by omega), if_neg (by omega)]
  · rfl
theorem dc_at {n : Nat} (_h : n < 10) : dc n = 48 + (n : Int) := by unfold dc; omega
theorem pu_dec : ∀ (k : Nat), k < 10000000 → ∀ (l : List UInt8), numsU l = decL k → ∀ r, Lib.parseUint10 0 (l ++ r) = Lib.parseUint10 k r := by
  intro k
  induction k using Nat.strongRecOn with
  | _ k ih =>
    intro hk l hl r
    by_cases h : k < 10
    · rw [decL_one h, dc_at h] at hl
      match l, hl with
      | [c], hl =>
        simp only [numsU, List.map_cons, List.map_nil, List.cons.injEq, and_true] at hl
        rw [List.singleton_append, zpu_one (by omega), if_pos (by omega)]
        congr 1
        omega
      | [], hl => cases hl
      | _ :: _ :: _, hl => simp [numsU] at hl
    · rw [decL_more h, dc_at (Nat.mod_lt _ (by omega))] at hl
      rcases List.eq_nil_or_concat l with rfl | ⟨l1, c, rfl⟩
      · exact absurd hl (by simp [numsU])
      · have hl' : numsU l1 ++ [(c.toNat : Int)] = decL (k / 10) ++ [48 + ((k % 10 : Nat) : Int)] := by
          rw [← hl]; simp [numsU]
        obtain ⟨e1, e2⟩ := List.append_inj' hl' rfl
        have e3 : (c.toNat : Int) = 48 + ((k % 10 : Nat) : Int) := by simpa using e2
        rw [List.concat_eq_append, List.append_assoc, ih (k / 10) (by omega) (by omega) l1 e1, List.singleton_append, zpu_one (by omega), if_pos (by omega)]
        congr 1
        omega
theorem decL_ge : ∀ (k : Nat), ∀ c ∈ decL k, 48 ≤ c ∧ c ≤ 57 := by
  intro k
  induction k using Nat.strongRecOn with
  | _ k ih =>
    intro c hc
    by_cases h : k < 10
    · rw [decL_one h, dc_at h] at hc
      rw [List.mem_singleton.1 hc]
      omega
    · rw [decL_more h, dc_at (Nat.mod_lt _ (by omega))] at hc
      rcases List.mem_append.1 hc with hc | hc
      · exact ih (k / 10) (by omega) c hc
      · rw [List.mem_singleton.1 hc]
        omega
theorem atoi_dec {k : Nat} {l : List UInt8} (hk : k < 10000000) (hl : numsU l = decL k) : Lib.atoiAll l = .ok (k : Int) := by
  have hp := pu_dec k hk l hl []
  rw [List.append_nil] at hp
  match l, hl with
  | [], hl => have := decL_pos k; rw [← hl] at this; simp [numsU] at this
  | x :: r, hl =>
    have hx := decL_ge k (x.toNat : Int) (by rw [← hl]; simp [numsU])
    unfold Lib.atoiAll
    simp only
    rw [if_neg (by omega)]
    unfold Lib.parseMag
    rw [hp, Lib.parseUint10]
    have e45 : ¬ x.toNat = 45 := by omega
    simp only [List.cons_ne_nil, if_false, e45, not_false_eq_true, true_and, false_and]
    rw [if_neg (by omega)]
theorem decL_inj {a b : Nat} (ha : a < 10000000) (hb : b < 10000000) (h : decL a = decL b) : a = b := by
  have e : ∀ n, numsU ((Lib.decDigits n)) = decL n := fun n => dec_digits n
  have h1 := atoi_dec ha (e a)
  have h2 := atoi_dec hb ((e a).trans h)
  rw [h1] at h2
  injection h2 with h2
  omega
open Classical in
/-- How long what a cache says is. -/
noncomputable def lifeV (v : List Int) : Nat := if h : ∃ k : Nat, k ≤ 1000000 ∧ v = maxP ++ decL k then h.choose else 0
theorem life_yes {v : List Int} {k : Nat} (hk : k ≤ 1000000) (h : v = maxP ++ decL k) : lifeV v = k := by
  have hx : ∃ k : Nat, k ≤ 1000000 ∧ v = maxP ++ decL k := ⟨k, hk, h⟩
  unfold lifeV
  rw [dif_pos hx]
  have hs := hx.choose_spec
  have : decL hx.choose = decL k := List.append_cancel_left (hs.2.symm.trans h)
  exact decL_inj (by omega) (by omega) this
theorem life_no {v : List Int} (h : ∀ k : Nat, k ≤ 1000000 → v ≠ maxP ++ decL k) : lifeV v = 0 := by
  unfold lifeV
  rw [dif_neg (fun ⟨k, h1, h2⟩ => h k h1 h2)]
theorem life_le (v : List Int) : lifeV v ≤ 1000000 := by
  unfold lifeV
  split
  · rename_i h; exact h.choose_spec.1
  · omega
noncomputable def lifeR (l : List Fd) : Nat := lifeV (fstV l cacheN)
theorem zistime_any (n : Int) (w : World) : Calls Tryz.prog 16 #[.int .i64 n] w fun e w' => e = .returned (.bool (decide (0 ≤ n ∧ n ≤ 1000000))) ∧ w = w' := by
  by_cases h1 : 0 ≤ n
  · by_cases h2 : n ≤ 1000000
    · rw [decide_eq_true (show 0 ≤ n ∧ n ≤ 1000000 from ⟨h1, h2⟩)]
      go_enter Tryz.func16, Tryz.ntmps16
      go_wp2
      go_ret
      exact ⟨rfl, rfl⟩
    · rw [decide_eq_false (fun h : 0 ≤ n ∧ n ≤ 1000000 => h2 h.2)]
      go_enter Tryz.func16, Tryz.ntmps16
      go_wp2
      go_ret
      exact ⟨rfl, rfl⟩
  · rw [decide_eq_false (fun h : 0 ≤ n ∧ n ≤ 1000000 => h1 h.1)]
    go_enter Tryz.func16, Tryz.ntmps16
    go_wp2
    go_ret
    exact ⟨rfl, rfl⟩
/-- What is known of the library's variables. -/
def QLd (w : World) : Prop := NLaid w ∧ erP w
theorem QLd.below {w w' : World} (h : QLd w) (hb : Below w.heap.size w w') : QLd w' := ⟨h.1.below hb, h.2.below hb⟩
set_option maxHeartbeats 2000000 in
theorem zlife_any (code : Int) (fa : Option Addr) (fl fc : Nat) (bp : Option Addr) (bn bc : Nat) (L : List FB) (w : World) (hA : FArg w fa fl fc L) (hl : fl ≤ 4398046511104) (hs : ∀ t, (L.getD t fnone).1.size ≤ 140737488351232 ∧ (L.getD t fnone).2.size ≤ 140737488351232) (hT : QLd w) :
    Calls Tryz.prog 13 #[.agg #[.int .i64 code, .slice fa fl fc, .slice bp bn bc]] w fun e w' => e = .returned (.int .i64 (lifeR (fdsOf L) : Nat)) ∧ Below w.heap.size w w' := by
  obtain ⟨W1, hW1⟩ : ∃ x, w.alloc (.cells #[.int .i64 code, .slice fa fl fc, .slice bp bn bc] 38) = x := ⟨_, rfl⟩
  have hB1 : Below w.heap.size w W1 := by rw [← hW1]; exact (Below.refl _ w).alloc (Nat.le_refl _) _
  have k2 : W1.heap[w.heap.size]? = some (.cells #[.int .i64 code, .slice fa fl fc, .slice bp bn bc] 38 (0, 0)) := by rw [← hW1]; exact heap_alloc_new w _
  have a1 : W1.cell? ⟨w.heap.size, 1, none⟩ = some (.slice fa fl fc) := by rw [cell_of_row _ _ _ _ _ _ k2]; rfl
  have HFV := vl (zfv_any fa fl fc L ⟨#[99, 97, 99, 104, 101]⟩ W1 (hA.below hB1) hl (fun t => (hs t).1))
  have HS := vl hs
  have HT := vl hT
  have HB1 := vl hB1
  have hs1 := hB1.size
  clear hA hs hT hB1 k2
  go_enter Tryz.func13, Tryz.ntmps13
  go_wp2_with fail
  clear hW1 a1
  refine HFV.out.mono ?_
  rintro e w2 ⟨v, rfl, hv, hvs, hb2⟩
  have HB2 : Vl (Below w.heap.size w w2) := HB1.out.trans (hb2.mono hs1)
  have hvz : v.size ≤ 140737488351232 := by
    rcases hvs with rfl | ⟨t, ht, rfl⟩
    · exact Nat.zero_le _
    · exact (HS.out t).2
  have HV : Vl (lifeR (fdsOf L) = lifeV (unums v)) := vl (by unfold lifeR; rw [hv]; rfl)
  have HCP := vl (scutp_any v ⟨#[109, 97, 120, 45]⟩ w2)
  have HPX : Vl (unums ⟨#[109, 97, 120, 45]⟩ = maxP) := vl rfl
  clear hv hvs hb2 HFV HB1 hs1
  obtain ⟨q, hq⟩ : ∃ q, (unums ⟨#[109, 97, 120, 45]⟩).isPrefixOf (unums v) = q := ⟨_, rfl⟩
  obtain ⟨d, hd⟩ : ∃ d, trimP v ⟨#[109, 97, 120, 45]⟩ = d := ⟨_, rfl⟩
  rw [hq, hd] at HCP
  have hdz : d.size ≤ 140737488351232 := by
    rw [← hd]; unfold trimP; split
    · rw [ByteArray.size_extract]; omega
    · exact hvz
  have HQT : Vl (q = true → unums v = maxP ++ unums d) := vl (fun hh => by
    rw [hh] at hq
    have h1 := pre_iff.1 hq
    rw [← hd]
    unfold trimP
    rw [if_pos hq, un_drop]
    have h2 := h1.2
    rw [HPX.out] at h2
    have : (maxP : List Int).length = 4 := rfl
    rw [this] at h2
    rw [show (⟨#[109, 97, 120, 45]⟩ : ByteArray).size = 4 from rfl]
    exact (List.take_append_drop 4 (unums v)).symm.trans (by rw [h2]))
  have HQF : Vl (q = false → ∀ k, unums v ≠ maxP ++ decL k) := vl (fun hh k he => by
    rw [hh] at hq
    have : (unums ⟨#[109, 97, 120, 45]⟩).isPrefixOf (unums v) = true := pre_iff.2 (by rw [HPX.out, he]; simp)
    rw [hq] at this
    cases this)
  have HAT := vl (xatoi_any d hdz w2 (HT.out.2.below HB2.out))
  clear hq hd
  go_wp2_with fail
  refine HCP.out.mono ?_
  rintro _ w3 ⟨rfl, rfl⟩
  clear HCP
  go_wp2_with fail
  refine HAT.out.mono ?_
  rintro _ w3 ⟨n, err, rfl, hb3, hc⟩
  have HB3 : Vl (Below w.heap.size w w3) := HB2.out.trans (hb3.mono HB2.out.size)
  clear hb3 HAT HB2
  have HIT := vl (zistime_any n w3)
  cases q with
  | false =>
    have HF := vl (life_no (fun k _ => HQF.out rfl k))
    clear hc HQT HQF
    go_wp2_with fail
    go_ret
    exact ⟨by rw [HV.out, HF.out]; rfl, HB3.out⟩
  | true =>
    have hvd := HQT.out rfl
    rcases hc with ⟨rfl, hok⟩ | ⟨⟨t, p, rfl⟩, hno⟩
    · by_cases hr : 0 ≤ n ∧ n ≤ 1000000
      · obtain ⟨k, rfl⟩ : ∃ k : Nat, n = (k : Int) := ⟨n.toNat, by omega⟩
        rw [decide_eq_true hr] at HIT
        have HTO := vl (nitoa_any k (by omega) w3 (HT.out.1.below HB3.out))
        have HVD := vl hvd
        have HOK := vl hok
        clear hvd hok HQT HQF
        go_wp2_with fail
        refine HIT.out.mono ?_
        rintro _ w4 ⟨rfl, rfl⟩
        go_wp2_with fail
        refine HTO.out.mono ?_
        rintro _ w4 ⟨s, rfl, hs4, hb4⟩
        have HB4 : Vl (Below w.heap.size w w4) := HB3.out.trans (hb4.mono HB3.out.size)
        by_cases hsd : s.toList = d.toList
        · have hsd' : (s.toList != d.toList) = false := by simpa using hsd
          have HF := vl (life_yes (v := unums v) (k := k) (by omega) (by rw [HVD.out, ← hs4, un_list.1 hsd]))
          clear hs4 hb4 HTO HIT
          go_wp2_with fail
          go_ret
          exact ⟨by rw [HV.out, HF.out]; rfl, HB4.out⟩
        · have hsd' : (s.toList != d.toList) = true := by simpa using hsd
          have hsd2 : (s.toList == d.toList) = false := by simpa using hsd
          have HF := vl (life_no (v := unums v) (fun j hj he => by
            have e1 : unums d = decL j := List.append_cancel_left (HVD.out.symm.trans he)
            have e2 := atoi_dec (k := j) (l := d.data.toList) (by omega) e1
            have h := HOK.out
            rw [e2] at h
            injection h with h
            have : j = k := by omega
            subst this
            exact hsd (un_list.2 (hs4.trans e1.symm))))
          clear hs4 hb4 HTO HIT
          go_wp2_with fail
          go_ret
          exact ⟨by rw [HV.out, HF.out]; rfl, HB4.out⟩
      · rw [decide_eq_false hr] at HIT
        have HF := vl (life_no (v := unums v) (fun j hj he => by
          have e1 : unums d = decL j := List.append_cancel_left (hvd.symm.trans he)
          have e2 := atoi_dec (k := j) (l := d.data.toList) (by omega) e1
          rw [e2] at hok
          injection hok with h
          exact hr (by omega)))
        clear hvd hok HQT HQF hr
        go_wp2_with fail
        refine HIT.out.mono ?_
        rintro _ w4 ⟨rfl, rfl⟩
        go_wp2_with fail
        go_ret
        exact ⟨by rw [HV.out, HF.out]; rfl, HB3.out⟩
    · have HF := vl (life_no (v := unums v) (fun j hj he => by
        have e1 : unums d = decL j := List.append_cancel_left (hvd.symm.trans he)
        exact hno _ (atoi_dec (k := j) (l := d.data.toList) (by omega) e1)))
      clear hvd hno HQT HQF
      go_wp2_with fail
      go_ret
      exact ⟨by rw [HV.out, HF.out]; rfl, HB3.out⟩
end Go.Proofs.YtibipnipeaeonaaGreatDoor
/-
  WHAT WAS ANSWERED: rows of fields compared; the developers' fits and lives. No claim by itself.
-/
namespace Go.Proofs.YtibipnipeaeonaaGreatDoor
open Go Go.RowKit
set_option maxRecDepth 100000
theorem farg_len {w : World} {a : Option Addr} {n c : Nat} {L : List FB} (h : FArg w a n c L) : L.length = n := by
  rcases h with ⟨rfl, rfl⟩ | ⟨g, off, _, hr⟩
  · rfl
  · exact hr.hlen
theorem fb_eq {p q : FB} : p = q ↔ (p.1.toList = q.1.toList ∧ p.2.toList = q.2.toList) := by
  constructor
  · rintro rfl; exact ⟨rfl, rfl⟩
  · rintro ⟨h1, h2⟩
    obtain ⟨p1, p2⟩ := p
    obtain ⟨q1, q2⟩ := q
    have e1 : p1 = q1 := unums_inj (un_list.1 h1)
    have e2 : p2 = q2 := unums_inj (un_list.1 h2)
    rw [e1, e2]
theorem zeq_any (a1 : Option Addr) (n1 c1 : Nat) (a2 : Option Addr) (n2 c2 : Nat) (L1 L2 : List FB) (w : World) (h1 : FArg w a1 n1 c1 L1) (h2 : FArg w a2 n2 c2 L2) (hl1 : n1 ≤ 4611686018427387904) (hl2 : n2 ≤ 4611686018427387904) :
    Calls Tryz.prog 35 #[.slice a1 n1 c1, .slice a2 n2 c2] w fun e w' => e = .returned (.bool (decide (L1 = L2))) ∧ Below w.heap.size w w' := by
  have hne : ∀ (a b c d : ByteArray) (w : World), (binOp .neq 84 (.agg #[.string a, .string b]) (.agg #[.string c, .string d])).run Tryz.prog w = .ok (.bool (!(a.toList == c.toList && b.toList == d.toList))) w := run_neqF
  have hgd := eqGuardF
  have e1 := farg_len h1
  have e2 := farg_len h2
  have H1 := vl (fun wx hb => h1.below (w' := wx) hb)
  have H2 := vl (fun wx hb => h2.below (w' := wx) hb)
  clear h1 h2
  by_cases hn : n1 = n2
  · subst hn
    have hn' : ((n1 : Int) != (n1 : Int)) = false := by simp
    have HL := vl (And.intro e1 e2)
    clear e1 e2
    go_enter Tryz.func35, Tryz.ntmps35
    go_wp2_with fail
    go_loopw [13, 5] (fun i _u wr => ∃ k : Nat, i = .int .i64 k ∧ k ≤ n1 ∧ Vl (∀ t, t < k → L1.getD t fnone = L2.getD t fnone) ∧ Vl (Below w.heap.size w wr)) (fun i _ _ => n1 - (intOf i).toNat)
    case atStart => exact ⟨0, rfl, by omega, vl (fun t ht => by omega), Below.refl _ _⟩
    case round =>
      obtain ⟨k, rfl, hk, HK, HB⟩ := hrel
      by_cases hlt : k < n1
      · rcases H1.out wr HB.out with ⟨h0, _⟩ | ⟨g, off, rfl, hr⟩
        · omega
        rcases H2.out wr HB.out with ⟨h0, _⟩ | ⟨g2, off2, rfl, hr2⟩
        · omega
        have d1 := hr.hname k hlt
        have d2 := hr.hvalue k hlt
        have d3 := hr2.hname k hlt
        have d4 := hr2.hvalue k hlt
        have hcap := hr.hcap
        have hcap2 := hr2.hcap
        have hk0 : (0 : Int) ≤ (k : Int) := by omega
        have hk1 : (k : Int) < (n1 : Int) := by omega
        obtain ⟨⟨p1, p2⟩, hp⟩ : ∃ p, L1.getD k fnone = p := ⟨_, rfl⟩
        obtain ⟨⟨q1, q2⟩, hq⟩ : ∃ q, L2.getD k fnone = q := ⟨_, rfl⟩
        rw [hp] at d1 d2
        rw [hq] at d3 d4
        have HP := vl hp
        have HQ := vl hq
        have HN : Vl (∀ n, Below w.heap.size w (wr.drewN n)) := vl (fun n => drewN_below HB.out n)
        obtain ⟨b, hb⟩ : ∃ b, (p1.toList == q1.toList && p2.toList == q2.toList) = b := ⟨_, rfl⟩
        have HEB := vl hb
        have hne2 : ∀ w : World, (binOp .neq 84 (.agg #[.string p1, .string p2]) (.agg #[.string q1, .string q2])).run Tryz.prog w = .ok (.bool (!b)) w := fun w => by rw [hne, hb]
        clear hr hr2 hp hq hb hne
        cases b with
        | true =>
          have HEQ : Vl (L1.getD k fnone = L2.getD k fnone) := vl (by
            rw [HP.out, HQ.out]
            exact fb_eq.2 (by simpa using HEB.out))
          go_wp2_with fail
          go_quiet (fail)
          go_wp2_with fail
          go_roundw
          case rel => exact ⟨k + 1, by go_num, by omega, vl (fun t ht => by
            by_cases e : t = k
            · subst e; exact HEQ.out
            · exact HK.out t (by omega)), vl (HN.out _)⟩
          case measure => simp [intOf]; omega
        | false =>
          have HNE : Vl (decide (L1 = L2) = false) := vl (decide_eq_false (fun e => by
            have h := HQ.out
            rw [← e, HP.out] at h
            have h2 := fb_eq.1 h
            have h3 := HEB.out
            simp only [Bool.and_eq_false_iff, beq_eq_false_iff_ne, ne_eq] at h3
            rcases h3 with h3 | h3
            · exact h3 h2.1
            · exact h3 h2.2))
          go_wp2_with fail
          go_quiet (fail)
          go_wp2_with fail
          go_ret
          exact ⟨by rw [HNE.out]; rfl, HN.out _⟩
      · have hge : ¬ (k : Int) < (n1 : Int) := by omega
        have HEQ : Vl (decide (L1 = L2) = true) := vl (decide_eq_true (ext_getD (z := fnone) (by rw [HL.out.1, HL.out.2]) (fun t ht => HK.out t (by have := HL.out.1; omega))))
        go_wp2_with fail
        go_ret
        exact ⟨by rw [HEQ.out]; rfl, HB.out⟩
  · have hn' : ((n1 : Int) != (n2 : Int)) = true := by simp; omega
    have HNE : Vl (decide (L1 = L2) = false) := vl (decide_eq_false (fun e => by rw [e, e2] at e1; exact hn e1.symm))
    clear e1 e2 hne
    go_enter Tryz.func35, Tryz.ntmps35
    go_wp2_with fail
    go_ret
    exact ⟨by rw [HNE.out]; rfl, Below.refl _ _⟩
/-- A kept reply as meant: L0 are the fields of the request that it was put for. -/
structure KpM where
  host : ByteArray
  path : ByteArray
  va : Option Addr
  vn : Nat
  vc : Nat
  rp : RpM
  at_ : Int
  V : List FB
  L0 : List FB
def KpM.cells (k : KpM) : List Value := [.string k.host, .string k.path, .slice k.va k.vn k.vc, .int .i64 k.rp.code, .slice k.rp.fa k.rp.fn k.rp.fc, .slice k.rp.ba k.rp.bn k.rp.bc, .int .i64 k.at_]
def KpM.val (k : KpM) : Value := .agg #[.string k.host, .string k.path, .slice k.va k.vn k.vc, .int .i64 k.rp.code, .slice k.rp.fa k.rp.fn k.rp.fc, .slice k.rp.ba k.rp.bn k.rp.bc, .int .i64 k.at_]
/-- Replies that a store can look through. -/
structure RpS (q : RpM) : Prop where
  fn : q.fn ≤ 4398046511103
  vary : (fstV (fdsOf q.FL) varyN).length < 4294967281
structure KpIn (w : World) (k : KpM) : Prop where
  var : FArg w k.va k.vn k.vc k.V
  rp : RpIn w k.rp
  sm : RpS k.rp
  said : VarS k.rp.FL k.L0 k.V
  vn : k.vn ≤ 4398046511104
  time : 0 ≤ k.at_ ∧ k.at_ ≤ 1000000
theorem KpIn.below {w w' : World} {k : KpM} (h : KpIn w k) (hb : Below w.heap.size w w') : KpIn w' k := ⟨h.var.below hb, h.rp.below hb, h.sm, h.said, h.vn, h.time⟩
/-- It fits a request. -/
def fitP (k : KpM) (q : RqM) : Prop := unums k.host = unums q.h ∧ unums k.path = unums q.p ∧ Sby nmK (k.L0.filter (inVary (namesL (fdsOf k.rp.FL)))) (q.FL.filter (inVary (namesL (fdsOf k.rp.FL))))
theorem fit_var {k : KpM} {q : RqM} {V : List FB} (h1 : VarS k.rp.FL k.L0 k.V) (h2 : VarS k.rp.FL q.FL V) : k.V = V ↔ Sby nmK (k.L0.filter (inVary (namesL (fdsOf k.rp.FL)))) (q.FL.filter (inVary (namesL (fdsOf k.rp.FL)))) := by
  constructor
  · intro e
    exact h1.2.trans (e ▸ h2.2.symm)
  · intro e
    exact srt_one h1.1 h2.1 (h1.2.symm.trans (e.trans h2.2))
/-- The world's variables that a store reads. -/
structure QOk (w : World) : Prop where
  mx : mxP w
  ld : QLd w
theorem QOk.below {w w' : World} (h : QOk w) (hb : Below w.heap.size w w') : QOk w' := ⟨h.mx.below hb, h.ld.below hb⟩
end Go.Proofs.YtibipnipeaeonaaGreatDoor
/-
  WHAT WAS ANSWERED: the developers' fits and lives. No claim by itself.
-/
namespace Go.Proofs.YtibipnipeaeonaaGreatDoor
open Go Go.RowKit
set_option maxRecDepth 100000
/-- An answer that says whether something is so. -/
def BoolIs (P : Prop) (e : Ending) : Prop := ∃ b, e = .returned (.bool b) ∧ (b = true ↔ P)
/-- A kept reply's cells. -/
structure KBx (W : World) (n : Nat) (k : KpM) : Prop where
  c0 : W.cell? ⟨n, 0, none⟩ = some (.string k.host)
  c1 : W.cell? ⟨n, 1, none⟩ = some (.string k.path)
  c2 : W.cell? ⟨n, 2, none⟩ = some (.slice k.va k.vn k.vc)
  c3 : W.cell? ⟨n, 3, none⟩ = some (.int .i64 k.rp.code)
  c4 : W.cell? ⟨n, 4, none⟩ = some (.slice k.rp.fa k.rp.fn k.rp.fc)
  c5 : W.cell? ⟨n, 5, none⟩ = some (.slice k.rp.ba k.rp.bn k.rp.bc)
  c6 : W.cell? ⟨n, 6, none⟩ = some (.int .i64 k.at_)
theorem KBx.of {W : World} {n : Nat} {k : KpM} {t : TypeId} (h : W.heap[n]? = some (.cells #[.string k.host, .string k.path, .slice k.va k.vn k.vc, .int .i64 k.rp.code, .slice k.rp.fa k.rp.fn k.rp.fc, .slice k.rp.ba k.rp.bn k.rp.bc, .int .i64 k.at_] t (0, 0))) : KBx W n k := by
  constructor <;> (rw [cell_of_row _ _ _ _ _ _ h]; rfl)
theorem KBx.below {W W' : World} {n : Nat} {k : KpM} (h : KBx W n k) (hb : Below W.heap.size W W') : KBx W' n k := by
  have hn := blk_of_cell h.c0
  exact ⟨(hb.cell (p := ⟨n, 0, none⟩) hn).trans h.c0, (hb.cell (p := ⟨n, 1, none⟩) hn).trans h.c1, (hb.cell (p := ⟨n, 2, none⟩) hn).trans h.c2, (hb.cell (p := ⟨n, 3, none⟩) hn).trans h.c3, (hb.cell (p := ⟨n, 4, none⟩) hn).trans h.c4, (hb.cell (p := ⟨n, 5, none⟩) hn).trans h.c5, (hb.cell (p := ⟨n, 6, none⟩) hn).trans h.c6⟩
/-- A request's cells. -/
structure QBx (W : World) (n : Nat) (q : RqM) : Prop where
  c0 : W.cell? ⟨n, 0, none⟩ = some (.string q.m)
  c1 : W.cell? ⟨n, 1, none⟩ = some (.string q.p)
  c2 : W.cell? ⟨n, 2, none⟩ = some (.string q.h)
  c3 : W.cell? ⟨n, 3, none⟩ = some (.slice q.fa q.fn q.fc)
  c4 : W.cell? ⟨n, 4, none⟩ = some (.slice q.ba q.bn q.bc)
theorem QBx.of {W : World} {n : Nat} {q : RqM} {t : TypeId} (h : W.heap[n]? = some (.cells #[.string q.m, .string q.p, .string q.h, .slice q.fa q.fn q.fc, .slice q.ba q.bn q.bc] t (0, 0))) : QBx W n q := by
  constructor <;> (rw [cell_of_row _ _ _ _ _ _ h]; rfl)
theorem QBx.below {W W' : World} {n : Nat} {q : RqM} (h : QBx W n q) (hb : Below W.heap.size W W') : QBx W' n q := by
  have hn := blk_of_cell h.c0
  exact ⟨(hb.cell (p := ⟨n, 0, none⟩) hn).trans h.c0, (hb.cell (p := ⟨n, 1, none⟩) hn).trans h.c1, (hb.cell (p := ⟨n, 2, none⟩) hn).trans h.c2, (hb.cell (p := ⟨n, 3, none⟩) hn).trans h.c3, (hb.cell (p := ⟨n, 4, none⟩) hn).trans h.c4⟩
/-- Requests that a store can look through. -/
structure RqS (q : RqM) : Prop where
  fn : q.fn ≤ 4398046511103
theorem kq_below {W W' : World} {n m : Nat} {k : KpM} {q : RqM} (h : KBx W n k) (g : QBx W m q) (hb : Below W.heap.size W W') :
    (W'.cell? ⟨n, 0, none⟩ = some (.string k.host) ∧ W'.cell? ⟨n, 1, none⟩ = some (.string k.path) ∧ W'.cell? ⟨n, 2, none⟩ = some (.slice k.va k.vn k.vc) ∧ W'.cell? ⟨n, 3, none⟩ = some (.int .i64 k.rp.code) ∧ W'.cell? ⟨n, 4, none⟩ = some (.slice k.rp.fa k.rp.fn k.rp.fc) ∧ W'.cell? ⟨n, 5, none⟩ = some (.slice k.rp.ba k.rp.bn k.rp.bc)) ∧ (W'.cell? ⟨m, 0, none⟩ = some (.string q.m) ∧ W'.cell? ⟨m, 1, none⟩ = some (.string q.p) ∧ W'.cell? ⟨m, 2, none⟩ = some (.string q.h) ∧ W'.cell? ⟨m, 3, none⟩ = some (.slice q.fa q.fn q.fc) ∧ W'.cell? ⟨m, 4, none⟩ = some (.slice q.ba q.bn q.bc)) := by
  have h' := h.below hb
  have g' := g.below hb
  exact ⟨⟨h'.c0, h'.c1, h'.c2, h'.c3, h'.c4, h'.c5⟩, ⟨g'.c0, g'.c1, g'.c2, g'.c3, g'.c4⟩⟩
set_option maxHeartbeats 4000000 in
theorem zfits_any (k : KpM) (q : RqM) (w : World) (hk : KpIn w k) (hq : RqIn w q) (hqs : RqS q) (hm : QOk w) :
    Calls Tryz.prog 19 #[k.val, q.val] w fun e w' => BoolIs (fitP k q) e ∧ Below w.heap.size w w' := by
  obtain ⟨W1, hW1⟩ : ∃ x, (w.alloc (.cells #[.string k.host, .string k.path, .slice k.va k.vn k.vc, .int .i64 k.rp.code, .slice k.rp.fa k.rp.fn k.rp.fc, .slice k.rp.ba k.rp.bn k.rp.bc, .int .i64 k.at_] 63)).alloc (.cells #[.string q.m, .string q.p, .string q.h, .slice q.fa q.fn q.fc, .slice q.ba q.bn q.bc] 36) = x := ⟨_, rfl⟩
  have hB1 : Below w.heap.size w W1 := by rw [← hW1]; exact ((Below.refl _ w).alloc (Nat.le_refl _) _).alloc (by simp) _
  have hs1 : W1.heap.size = w.heap.size + 2 := by rw [← hW1]; simp
  have hKB : KBx W1 w.heap.size k := KBx.of (t := 63) (by rw [← hW1]; exact (Below.heap_alloc _ _ _ (by simp)).trans (heap_alloc_new w _))
  have hQB : QBx W1 (w.heap.size + 1) q := QBx.of (t := 36) (by
    rw [← hW1]
    have := heap_alloc_new (w.alloc (.cells #[.string k.host, .string k.path, .slice k.va k.vn k.vc, .int .i64 k.rp.code, .slice k.rp.fa k.rp.fn k.rp.fc, .slice k.rp.ba k.rp.bn k.rp.bc, .int .i64 k.at_] 63)) (.cells #[.string q.m, .string q.p, .string q.h, .slice q.fa q.fn q.fc, .slice q.ba q.bn q.bc] 36 (0, 0))
    rwa [World.size_alloc] at this)
  have HVA := vl (fun W (hb : Below w.heap.size w W) => zvaried_any k.rp.code k.rp.fa k.rp.fn k.rp.fc k.rp.ba k.rp.bn k.rp.bc k.rp.FL q.m q.p q.h q.fa q.fn q.fc q.ba q.bn q.bc q.FL W (hk.rp.fields.below hb) (by have := hk.sm.fn; omega) (fun t => (hk.rp.each t).1) (hm.mx.below hb) hk.sm.vary (hq.fields.below hb) hqs.fn (fun t => (hq.each t).1) (farg_len hq.fields))
  have HEQ := vl (fun W a c V (hb : Below w.heap.size w W) (hV : FArg W a V.length c V) (hl : V.length ≤ 4611686018427387904) => zeq_any k.va k.vn k.vc a V.length c k.V V W (hk.var.below hb) hV (by have := hk.vn; omega) hl)
  have HFV := vl (fun V (hV : VarS k.rp.FL q.FL V) => fit_var (q := q) hk.said hV)
  have HB1 := vl hB1
  have HKB := vl hKB
  have HQB := vl hQB
  have hql : q.fn ≤ 4398046511103 := hqs.fn
  obtain ⟨c0, c1, c2, c3, c4, c5, c6⟩ := hKB
  obtain ⟨d0, d1, d2, d3, d4⟩ := hQB
  have HFP : Vl (fitP k q ↔ (k.host.toList = q.h.toList ∧ k.path.toList = q.p.toList ∧ Sby nmK (k.L0.filter (inVary (namesL (fdsOf k.rp.FL)))) (q.FL.filter (inVary (namesL (fdsOf k.rp.FL)))))) := vl (by unfold fitP; rw [un_list, un_list])
  clear hk hq hqs hm hB1
  show Calls Tryz.prog 19 #[.agg #[.string k.host, .string k.path, .slice k.va k.vn k.vc, .int .i64 k.rp.code, .slice k.rp.fa k.rp.fn k.rp.fc, .slice k.rp.ba k.rp.bn k.rp.bc, .int .i64 k.at_], .agg #[.string q.m, .string q.p, .string q.h, .slice q.fa q.fn q.fc, .slice q.ba q.bn q.bc]] w _
  obtain ⟨kh, kp, va, vn, vc, ⟨rc, rfa, rfn, rfc, rba, rbn, rbc, RFL, RB⟩, ka, KV, L0⟩ := k
  obtain ⟨qm, qp, qh, qfa, qfn, qfc, qba, qbn, qbc, QFL, QB⟩ := q
  dsimp only at c0 c1 c2 c3 c4 c5 c6 d0 d1 d2 d3 d4 HVA HEQ HFP HFV hql hW1 ⊢
  have HBD : Vl (Below w.heap.size w W1.drew) := vl HB1.out.drew
  have HDN : Vl (∀ n, Below w.heap.size w (W1.drewN n)) := vl (fun n => drewN_below HB1.out n)
  by_cases hh : kh.toList = qh.toList
  · have hh' : (kh.toList == qh.toList) = true := by simpa using hh
    by_cases hp : kp.toList = qp.toList
    · have hp' : (kp.toList == qp.toList) = true := by simpa using hp
      have HIFF := vl (fun V (hV : VarS RFL QFL V) => (HFV.out V hV).trans ⟨fun h => HFP.out.2 ⟨hh, hp, h⟩, fun h => (HFP.out.1 h).2.2⟩)
      clear HFP HFV hh hp
      go_enter Tryz.func19, Tryz.ntmps19
      go_wp2_with fail
      clear hW1
      have HKQ : Vl (∀ w' : World, Below W1.drew.heap.size W1.drew w' → (w'.cell? ⟨w.heap.size, 0, none⟩ = some (.string kh) ∧ w'.cell? ⟨w.heap.size, 1, none⟩ = some (.string kp) ∧ w'.cell? ⟨w.heap.size, 2, none⟩ = some (.slice va vn vc) ∧ w'.cell? ⟨w.heap.size, 3, none⟩ = some (.int .i64 rc) ∧ w'.cell? ⟨w.heap.size, 4, none⟩ = some (.slice rfa rfn rfc) ∧ w'.cell? ⟨w.heap.size, 5, none⟩ = some (.slice rba rbn rbc)) ∧ (w'.cell? ⟨w.heap.size + 1, 0, none⟩ = some (.string qm) ∧ w'.cell? ⟨w.heap.size + 1, 1, none⟩ = some (.string qp) ∧ w'.cell? ⟨w.heap.size + 1, 2, none⟩ = some (.string qh) ∧ w'.cell? ⟨w.heap.size + 1, 3, none⟩ = some (.slice qfa qfn qfc) ∧ w'.cell? ⟨w.heap.size + 1, 4, none⟩ = some (.slice qba qbn qbc))) := vl (fun W hb => kq_below (HKB.out.below ((Below.refl _ W1).drew)) (HQB.out.below ((Below.refl _ W1).drew)) hb)
      go_region_held3 (fun w' => (w'.cell? ⟨w.heap.size, 0, none⟩ = some (.string kh) ∧ w'.cell? ⟨w.heap.size, 1, none⟩ = some (.string kp) ∧ w'.cell? ⟨w.heap.size, 2, none⟩ = some (.slice va vn vc) ∧ w'.cell? ⟨w.heap.size, 3, none⟩ = some (.int .i64 rc) ∧ w'.cell? ⟨w.heap.size, 4, none⟩ = some (.slice rfa rfn rfc) ∧ w'.cell? ⟨w.heap.size, 5, none⟩ = some (.slice rba rbn rbc)) ∧ (w'.cell? ⟨w.heap.size + 1, 0, none⟩ = some (.string qm) ∧ w'.cell? ⟨w.heap.size + 1, 1, none⟩ = some (.string qp) ∧ w'.cell? ⟨w.heap.size + 1, 2, none⟩ = some (.string qh) ∧ w'.cell? ⟨w.heap.size + 1, 3, none⟩ = some (.slice qfa qfn qfc) ∧ w'.cell? ⟨w.heap.size + 1, 4, none⟩ = some (.slice qba qbn qbc)))
        (first | go_keep | (with_reducible exact HKQ.out _ hb2) | (with_reducible exact HKQ.out _ hb23))
        (first
          | (go_at_call 36; refine (HVA.out W1.drew HBD.out).mono ?_; rintro e w2 ⟨⟨a2, n2, V, rfl, hA2, hN2, hV2, hL2⟩, hb2⟩)
          | (go_at_call 35; refine (HEQ.out w2 a2 n2 V (HBD.out.trans (hb2.mono HBD.out.size)) hA2 (by omega)).mono ?_; rintro e w3 ⟨rfl, hb3⟩; have hb23 := hb2.trans (hb3.mono hb2.size)))
      have HF : Vl (Below w.heap.size w w3) := vl (HBD.out.trans (hb23.mono HBD.out.size))
      have HI := vl (HIFF.out V hV2)
      obtain ⟨b, hb⟩ : ∃ b, decide (KV = V) = b := ⟨_, rfl⟩
      have HBE := vl hb
      rw [hb]
      clear hb2 hb3 hb23 hA2 hN2 hV2 hL2 HVA HEQ HKQ hb
      go_wp2_with fail
      go_ret
      exact ⟨⟨b, rfl, by rw [← HBE.out, decide_eq_true_eq]; exact HI.out⟩, HF.out⟩
    · have hp' : (kp.toList == qp.toList) = false := by simpa using hp
      have HNO := vl (fun h => hp (HFP.out.1 h).2.1)
      clear HFP HFV HVA HEQ hp
      go_enter Tryz.func19, Tryz.ntmps19
      go_wp2_with fail
      clear hW1
      go_quiet (fail)
      go_wp2_with fail
      go_ret
      exact ⟨⟨false, rfl, ⟨(fun h => by cases h), fun h => absurd h HNO.out⟩⟩, HDN.out _⟩
  · have hh' : (kh.toList == qh.toList) = false := by simpa using hh
    have HNO := vl (fun h => hh (HFP.out.1 h).1)
    clear HFP HFV HVA HEQ hh
    go_enter Tryz.func19, Tryz.ntmps19
    go_wp2_with fail
    clear hW1
    go_quiet (fail)
    go_wp2_with fail
    go_ret
    exact ⟨⟨false, rfl, ⟨(fun h => by cases h), fun h => absurd h HNO.out⟩⟩, HDN.out _⟩
/-- It may be told now. -/
def livesP (k : KpM) (now : Int) : Prop := k.at_ ≤ now ∧ now - k.at_ < (lifeR (fdsOf k.rp.FL) : Nat)
set_option maxHeartbeats 2000000 in
theorem zlives_any (k : KpM) (now : Int) (w : World) (hk : KpIn w k) (hn : 0 ≤ now ∧ now ≤ 1000000) (hm : QOk w) :
    Calls Tryz.prog 25 #[k.val, .int .i64 now] w fun e w' => BoolIs (livesP k now) e ∧ Below w.heap.size w w' := by
  obtain ⟨W1, hW1⟩ : ∃ x, w.alloc (.cells #[.string k.host, .string k.path, .slice k.va k.vn k.vc, .int .i64 k.rp.code, .slice k.rp.fa k.rp.fn k.rp.fc, .slice k.rp.ba k.rp.bn k.rp.bc, .int .i64 k.at_] 63) = x := ⟨_, rfl⟩
  have hB1 : Below w.heap.size w W1 := by rw [← hW1]; exact (Below.refl _ w).alloc (Nat.le_refl _) _
  have hKB : KBx W1 w.heap.size k := KBx.of (t := 63) (by rw [← hW1]; exact heap_alloc_new w _)
  have HLI := vl (zlife_any k.rp.code k.rp.fa k.rp.fn k.rp.fc k.rp.ba k.rp.bn k.rp.bc k.rp.FL W1 (hk.rp.fields.below hB1) (by have := hk.sm.fn; omega) hk.rp.each (hm.ld.below hB1))
  have HB1 := vl hB1
  have ht := hk.time
  obtain ⟨c0, c1, c2, c3, c4, c5, c6⟩ := hKB
  have hlm : lifeR (fdsOf k.rp.FL) ≤ 1000000 := life_le _
  have HLP : Vl (livesP k now ↔ (k.at_ ≤ now ∧ now - k.at_ < (lifeR (fdsOf k.rp.FL) : Nat))) := vl Iff.rfl
  obtain ⟨lf, hlf⟩ : ∃ lf, lifeR (fdsOf k.rp.FL) = lf := ⟨_, rfl⟩
  rw [hlf] at HLI hlm HLP
  clear hk hm hB1 hlf
  show Calls Tryz.prog 25 #[.agg #[.string k.host, .string k.path, .slice k.va k.vn k.vc, .int .i64 k.rp.code, .slice k.rp.fa k.rp.fn k.rp.fc, .slice k.rp.ba k.rp.bn k.rp.bc, .int .i64 k.at_], .int .i64 now] w _
  obtain ⟨kh, kp, va, vn, vc, ⟨rc, rfa, rfn, rfc, rba, rbn, rbc, RFL, RB⟩, ka, KV, L0⟩ := k
  dsimp only at c0 c1 c2 c3 c4 c5 c6 HLI HLP hW1 ht ⊢
  obtain ⟨ht0, ht1⟩ := ht
  obtain ⟨hn0, hn1⟩ := hn
  by_cases hge : 0 ≤ now - ka
  · have hgi : ka ≤ now := by omega
    go_enter Tryz.func25, Tryz.ntmps25
    go_wp2_with fail
    clear hW1
    refine HLI.out.mono ?_
    rintro _ w2 ⟨rfl, hb2⟩
    have HB2 : Vl (Below w.heap.size w w2) := vl (HB1.out.trans (hb2.mono HB1.out.size))
    obtain ⟨b, hb⟩ : ∃ b, decide (now - ka < (lf : Int)) = b := ⟨_, rfl⟩
    have HBE := vl hb
    clear hb2 HLI
    go_wp2_with fail
    go_ret
    exact ⟨⟨b, rfl, by rw [← HBE.out, decide_eq_true_eq, HLP.out]; exact ⟨fun h => ⟨hgi, h⟩, fun h => h.2⟩⟩, HB2.out⟩
  · go_enter Tryz.func25, Tryz.ntmps25
    go_wp2_with fail
    clear hW1
    go_ret
    exact ⟨⟨false, rfl, ⟨(fun h => by cases h), fun h => absurd (HLP.out.1 h).1 (by omega)⟩⟩, HB1.out⟩
end Go.Proofs.YtibipnipeaeonaaGreatDoor
