/-
  WHAT WAS ANSWERED, as the document's answer has it: Fits. No claim by itself.
-/
import Derived.Test.YtibipnipeaeonaaGreatDoorSr3X
import Derived.Test.YtibipnipeaeonaaGreatDoorNtokX
namespace Go.Proofs.YtibipnipeaeonaaGreatDoor
open Go Go.RowKit
set_option maxRecDepth 100000
theorem sown_at {w : World} {base : Nat} {sa : Option Addr} {n sc : Nat} {VS : List ByteArray} (h : SOwn w base (.slice sa n sc) VS) (hn : n = VS.length) : n ≤ sc ∧ sc ≤ maxLen ∧ ∀ t, t < n → ∃ g, sa = some ⟨g, 0, none⟩ ∧ base ≤ g ∧ g < w.heap.size ∧ w.cell? ⟨g, t, none⟩ = some (.string (VS.getD t ⟨#[]⟩)) := by
  subst hn
  rcases h.2 with ⟨hv, h0⟩ | ⟨g, cap, cur, hv, hb, hg, hnc, hcm, hcs, ht⟩
  · simp only [Value.slice.injEq] at hv
    refine ⟨by omega, by rw [hv.2.2]; decide, fun t ht => by omega⟩
  · simp only [Value.slice.injEq] at hv
    obtain ⟨rfl, _, rfl⟩ := hv
    refine ⟨hnc, hcm, fun t ht2 => ⟨g, rfl, hb, (Array.getElem?_eq_some_iff.1 hg).1, ?_⟩⟩
    rw [cell_of_row _ _ _ _ _ _ hg]
    have e := congrArg (fun l => l[t]?) ht
    simp only [Nat.mul_one] at e
    rw [List.getElem?_take_of_lt ht2, List.getElem?_map, List.getElem?_eq_getElem ht2] at e
    rw [← Array.getElem?_toList, e, List.getD, List.getElem?_eq_getElem ht2]
    rfl
theorem same_nil (A B : List FB) : sameV A B [] := fun n hn => by cases hn
theorem same_snoc {A B : List FB} {N : List (List Int)} {n : List Int} (h : sameV A B N) (hn : valsOf A n = valsOf B n) : sameV A B (N ++ [n]) := fun m hm => by
  rcases List.mem_append.1 hm with hm | hm
  · exact h m hm
  · rw [List.mem_singleton.1 hm]; exact hn
theorem inI_sub {s : List Int} {p q : Nat} {N : List (List Int)} (h : InI s p q N) : ∀ n ∈ N, n ∈ (cut2 44 32 s).filter tokL := by
  rcases h with ⟨_, done, h2, rfl⟩ | ⟨_, rfl⟩
  · intro n hn
    obtain ⟨h3, h4⟩ := List.mem_filter.1 hn
    refine List.mem_filter.2 ⟨?_, h4⟩
    rw [h2.all]
    exact List.mem_append_left _ h3
  · exact fun n hn => hn
theorem snoc_len {KL : List FB} {pc : List Int} {m : Nat} {VA : List ByteArray} (h : VA.map unums = valsOf (KL.take m) pc) : VA.length ≤ m := by
  have h1 := congrArg List.length h
  rw [List.length_map] at h1
  have h2 := vals_le (KL.take m) pc
  rw [List.length_take] at h2
  omega
theorem vals_one {VA VB : List ByteArray} (hl : VA.length = VB.length) (h : ∀ t, t < VA.length → unums (VA.getD t ⟨#[]⟩) = unums (VB.getD t ⟨#[]⟩)) : VA.map unums = VB.map unums := by
  apply List.ext_getElem (by simp [hl])
  intro t h1 h2
  rw [List.length_map] at h1 h2
  have := h t h1
  simpa [List.getD, List.getElem?_eq_getElem h1, List.getElem?_eq_getElem h2] using this
theorem vals_differ {VA VB : List ByteArray} {t : Nat} (h1 : t < VA.length) (h2 : t < VB.length) (h : unums (VA.getD t ⟨#[]⟩) ≠ unums (VB.getD t ⟨#[]⟩)) : VA.map unums ≠ VB.map unums := fun e => h (by
  have := congrArg (fun l => l[t]?) e
  simp only [List.getElem?_map, List.getElem?_eq_getElem h1, List.getElem?_eq_getElem h2, Option.map_some, Option.some.injEq] at this
  simpa [List.getD, List.getElem?_eq_getElem h1, List.getElem?_eq_getElem h2] using this)
/-- What is read of a kept reply and a request. -/
structure FitIn (w : World) (k : DK) (q : RqM) : Prop where
  ka : FArg w k.q.fa k.q.fn k.q.fc k.q.FL
  kr : FArg w k.r.fa k.r.fn k.r.fc k.r.FL
  qa : FArg w q.fa q.fn q.fc q.FL
  kn : k.q.fn ≤ 4398046511104
  rn : k.r.fn ≤ 4398046511104
  qn : q.fn ≤ 4398046511104
  rs : ∀ t, (k.r.FL.getD t fnone).2.size ≤ 140737488351232
theorem FitIn.below {w w' : World} {k : DK} {q : RqM} (h : FitIn w k q) (hb : Below w.heap.size w w') : FitIn w' k q := ⟨h.ka.below hb, h.kr.below hb, h.qa.below hb, h.kn, h.rn, h.qn, h.rs⟩
theorem bool_no {P : Prop} {e : Ending} (he : e = .returned (.bool false)) (h : ¬ P) : BoolIs P e := ⟨false, he, ⟨fun k => (nomatch k), fun k => absurd k h⟩⟩
theorem bool_yes {P : Prop} {e : Ending} (he : e = .returned (.bool true)) (h : P) : BoolIs P e := ⟨true, he, ⟨fun _ => h, fun _ => rfl⟩⟩
set_option maxHeartbeats 40000000 in
theorem rfits_any (k : DK) (q : RqM) (w : World) (h : FitIn w k q) : Calls Tryz.prog 15 #[k.val, q.val] w fun e w' => BoolIs (fitD k q) e ∧ Below w.heap.size w w' := by
  obtain ⟨⟨km, kp, kh, ka, kn, kc, kba, kbn, kbc, KL, KB⟩, ⟨rcode, ra, rn, rc, rba, rbn, rbc, RL, RB⟩, kat⟩ := k
  obtain ⟨qm, qp, qh, qa, qn, qc, qba, qbn, qbc, QL, QB⟩ := q
  obtain ⟨W1, hW1⟩ : ∃ x, w.alloc (.cells #[.string km, .string kp, .string kh, .slice ka kn kc, .slice kba kbn kbc, .int .i64 rcode, .slice ra rn rc, .slice rba rbn rbc, .int .i64 kat] 46) = x := ⟨_, rfl⟩
  obtain ⟨W2, hW2⟩ : ∃ x, W1.alloc (.cells #[.string qm, .string qp, .string qh, .slice qa qn qc, .slice qba qbn qbc] 36) = x := ⟨_, rfl⟩
  have hB1 : Below w.heap.size w W1 := by rw [← hW1]; exact (Below.refl _ w).alloc (Nat.le_refl _) _
  have hB2 : Below W1.heap.size W1 W2 := by rw [← hW2]; exact (Below.refl _ W1).alloc (Nat.le_refl _) _
  have hs1 : W1.heap.size = w.heap.size + 1 := by rw [← hW1]; simp
  have hs2 : W2.heap.size = W1.heap.size + 1 := by rw [← hW2]; simp
  have k1 : W1.heap[w.heap.size]? = some (.cells #[.string km, .string kp, .string kh, .slice ka kn kc, .slice kba kbn kbc, .int .i64 rcode, .slice ra rn rc, .slice rba rbn rbc, .int .i64 kat] 46 (0, 0)) := by rw [← hW1]; exact heap_alloc_new w _
  have k2 : W2.heap[W1.heap.size]? = some (.cells #[.string qm, .string qp, .string qh, .slice qa qn qc, .slice qba qbn qbc] 36 (0, 0)) := by rw [← hW2]; exact heap_alloc_new W1 _
  have k12 : W2.heap[w.heap.size]? = W1.heap[w.heap.size]? := hB2.block _ (by omega)
  have hb02 : Below w.heap.size w W2 := hB1.trans (hB2.mono hB1.size)
  have HIN := vl (h.below hb02)
  have a1 : W2.cell? ⟨w.heap.size, 1, none⟩ = some (.string kp) := by rw [cell_of_row _ _ _ _ _ _ (k12.trans k1)]; rfl
  have a2 : W2.cell? ⟨w.heap.size, 2, none⟩ = some (.string kh) := by rw [cell_of_row _ _ _ _ _ _ (k12.trans k1)]; rfl
  have a3 : W2.cell? ⟨w.heap.size, 3, none⟩ = some (.slice ka kn kc) := by rw [cell_of_row _ _ _ _ _ _ (k12.trans k1)]; rfl
  have a6 : W2.cell? ⟨w.heap.size, 6, none⟩ = some (.slice ra rn rc) := by rw [cell_of_row _ _ _ _ _ _ (k12.trans k1)]; rfl
  have b1 : W2.cell? ⟨W1.heap.size, 1, none⟩ = some (.string qp) := by rw [cell_of_row _ _ _ _ _ _ k2]; rfl
  have b2 : W2.cell? ⟨W1.heap.size, 2, none⟩ = some (.string qh) := by rw [cell_of_row _ _ _ _ _ _ k2]; rfl
  have b3 : W2.cell? ⟨W1.heap.size, 3, none⟩ = some (.slice qa qn qc) := by rw [cell_of_row _ _ _ _ _ _ k2]; rfl
  have HC := vl (And.intro a3 b3)
  have HSZ : Vl (w.heap.size < W2.heap.size ∧ W1.heap.size < W2.heap.size) := vl (by omega)
  have HB0 := vl hb02
  have HF := vl (rfirst_any ra rn rc RL ⟨#[118, 97, 114, 121]⟩ W2 (h.below hb02).kr h.rn h.rs)
  have HVN : Vl (unums ⟨#[118, 97, 114, 121]⟩ = varyN) := vl (by decide)
  have HD : Vl (∀ e, e = .returned (.bool false) → ¬ (unums kh = unums qh ∧ unums kp = unums qp ∧ sameV KL QL (namesL (fdsOf RL))) → BoolIs (fitD ⟨⟨km, kp, kh, ka, kn, kc, kba, kbn, kbc, KL, KB⟩, ⟨rcode, ra, rn, rc, rba, rbn, rbc, RL, RB⟩, kat⟩ ⟨qm, qp, qh, qa, qn, qc, qba, qbn, qbc, QL, QB⟩) e) := vl (fun e he hn => bool_no he hn)
  have HY : Vl (∀ e, e = .returned (.bool true) → (unums kh = unums qh ∧ unums kp = unums qp ∧ sameV KL QL (namesL (fdsOf RL))) → BoolIs (fitD ⟨⟨km, kp, kh, ka, kn, kc, kba, kbn, kbc, KL, KB⟩, ⟨rcode, ra, rn, rc, rba, rbn, rbc, RL, RB⟩, kat⟩ ⟨qm, qp, qh, qa, qn, qc, qba, qbn, qbc, QL, QB⟩) e) := vl (fun e he hn => bool_yes he hn)
  unfold DK.val RqM.val
  dsimp only
  generalize fitD ⟨⟨km, kp, kh, ka, kn, kc, kba, kbn, kbc, KL, KB⟩, ⟨rcode, ra, rn, rc, rba, rbn, rbc, RL, RB⟩, kat⟩ ⟨qm, qp, qh, qa, qn, qc, qba, qbn, qbc, QL, QB⟩ = PF at *
  clear h hB1 hB2 hs1 hs2 k1 k2 k12 hb02
  by_cases e1 : unums kh = unums qh
  case neg =>
    have f1 : (kh.toList == qh.toList) = false := by rw [un_beq, decide_eq_false e1]
    have HN := vl (HD.out _ rfl (fun h => e1 h.1))
    clear e1
    go_enter Tryz.func15, Tryz.ntmps15
    go_wp2_with fail
    go_ret
    exact ⟨HN.out, HB0.out⟩
  have f1 : (kh.toList == qh.toList) = true := by rw [un_beq, decide_eq_true e1]
  by_cases e2 : unums kp = unums qp
  case neg =>
    have f2 : (kp.toList == qp.toList) = false := by rw [un_beq, decide_eq_false e2]
    have HN := vl (HD.out _ rfl (fun h => e2 h.2.1))
    clear e1 e2
    go_enter Tryz.func15, Tryz.ntmps15
    go_wp2_with fail
    go_ret
    exact ⟨HN.out, HB0.out⟩
  have f2 : (kp.toList == qp.toList) = true := by rw [un_beq, decide_eq_true e2]
  have HYS : Vl (sameV KL QL (namesL (fdsOf RL)) → BoolIs PF (.returned (.bool true))) := vl (fun h => HY.out _ rfl ⟨e1, e2, h⟩)
  have HNS : Vl (¬ sameV KL QL (namesL (fdsOf RL)) → BoolIs PF (.returned (.bool false))) := vl (fun h => HD.out _ rfl (fun h' => h h'.2.2))
  clear HD HY e1 e2
  go_enter Tryz.func15, Tryz.ntmps15
  go_wp2_with fail
  refine HF.out.mono ?_
  rintro e w2 ⟨⟨v, rfl, hv, hvs⟩, rfl⟩
  rw [HVN.out] at hv
  rw [HVN.out]
  have HVS := vl hvs
  clear hW1 hW2 HF HVN hvs a1 a2 b1 b2 f1 f2 a6
  cases hany : (fdsOf RL).any (isNm varyN) with
  | false =>
    have HN := vl (HYS.out (by rw [names_no hany]; exact same_nil _ _))
    clear hany
    go_wp2_with fail
    go_ret
    exact ⟨HN.out, HB0.out⟩
  | true =>
  have HNM : Vl (namesL (fdsOf RL) = (cut2 44 32 (unums v)).filter tokL) := vl (by unfold namesL; rw [hv])
  clear hany hv
  have HUL := vl (unums_len v)
  have HA := vl (unums_at v)
  go_wp2_with fail
  go_loopw [7, 8, 9, 10, 11, 12, 13, 14, 15] (fun pv iv _ _ _ _ _ _ _ wr => ∃ (p i : Nat) (N : List (List Int)), pv = .int .i64 p ∧ iv = .int .i64 i ∧ i ≤ v.size + 1 ∧ p ≤ i + 1 ∧ Vl (InI (unums v) p i N) ∧ Vl (sameV KL QL N) ∧ Vl (Below W2.heap.size W2 wr)) (fun _ iv _ _ _ _ _ _ _ _ => v.size + 1 - (intOf iv).toNat)
  case atStart => exact ⟨0, 0, [], rfl, rfl, by omega, by omega, inI_begin _, same_nil _ _, vl (Below.refl _ _)⟩
  case round =>
    obtain ⟨p, i, N, rfl, rfl, hi, hp, HI, HSM, HB⟩ := hrel
    have hi63 : i ≤ 140737488351233 := by have := HVS.out; omega
    by_cases c1 : i ≤ v.size
    case neg =>
      have c2 : ¬ ((i : Int) ≤ (v.size : Int)) := by omega
      have HN := vl (HYS.out (by rw [HNM.out, ← inI_end HI.out (by rw [HUL.out]; omega)]; exact HSM.out))
      have HB9 := vl (HB0.out.trans (HB.out.mono HB0.out.size))
      clear c1
      go_wp2
      go_ret
      exact ⟨HN.out, HB9.out⟩
    have c2 : (i : Int) ≤ (v.size : Int) := by omega
    by_cases d1 : i < p
    · have d2 : (i : Int) < (p : Int) := by omega
      have HI4 : Vl (InI (unums v) p (i + 1) N) := vl (inI_next HI.out (by have := inI_le HI.out (by rw [HUL.out]; exact c1); omega) (fun h => by omega))
      clear c1 d1
      go_wp2
      go_roundw
      case rel => exact ⟨p, i + 1, N, rfl, by go_num, by omega, by omega, HI4, HSM, HB⟩
      case measure => first | (simp [intOf]; done) | (simp [intOf]; omega)
    have d2 : ¬ ((i : Int) < (p : Int)) := by omega
    by_cases g0 : i = v.size
    case neg =>
      have g1 : (i : Int) < (v.size : Int) := by omega
      by_cases g2 : i + 1 < v.size
      case neg =>
        have g3 : (v.size : Int) ≤ (i : Int) + 1 := by omega
        have HI4 : Vl (InI (unums v) p (i + 1) N) := vl (inI_next HI.out (by rw [HUL.out]; omega) (fun _ h => by rw [HUL.out] at h; omega))
        clear c1 d1 g0 g2
        go_wp2
        go_roundw
        case rel => exact ⟨p, i + 1, N, rfl, by go_num, by omega, by omega, HI4, HSM, HB⟩
        case measure => first | (simp [intOf]; done) | (simp [intOf]; omega)
      have g3 : ¬ (v.size : Int) ≤ (i : Int) + 1 := by omega
      have g4 : (i : Int) + 1 < (v.size : Int) := by omega
      have ix1 := HA.out i (by omega)
      have ix2 := HA.out (i + 1) (by omega)
      by_cases q1 : (unums v).getD i 0 = 44
      case neg =>
        have HI4 : Vl (InI (unums v) p (i + 1) N) := vl (inI_next HI.out (by rw [HUL.out]; omega) (fun _ _ h => q1 h.1))
        generalize (unums v).getD i 0 = cc1 at *
        have q2 : (cc1 == 44) = false := by simpa using q1
        clear c1 d1 g0 g2
        go_wp2
        go_roundw
        case rel => exact ⟨p, i + 1, N, rfl, by go_num, by omega, by omega, HI4, HSM, HB⟩
        case measure => first | (simp [intOf]; done) | (simp [intOf]; omega)
      by_cases q2 : (unums v).getD (i + 1) 0 = 32
      case neg =>
        have HI4 : Vl (InI (unums v) p (i + 1) N) := vl (inI_next HI.out (by rw [HUL.out]; omega) (fun _ _ h => q2 h.2))
        rw [q1] at ix1
        generalize (unums v).getD (i + 1) 0 = cc2 at *
        have q3 : (cc2 == 32) = false := by simpa using q2
        clear c1 d1 g0 g2 q1
        go_wp2
        go_roundw
        case rel => exact ⟨p, i + 1, N, rfl, by go_num, by omega, by omega, HI4, HSM, HB⟩
        case measure => first | (simp [intOf]; done) | (simp [intOf]; omega)
      have HI3 : Vl (InI (unums v) (i + 2) (i + 1) (N ++ [((unums v).drop p).take (i - p)].filter tokL)) := vl (inI_cut HI.out (by omega) (by rw [HUL.out]; omega) ⟨q1, q2⟩)
      rw [q1] at ix1
      rw [q2] at ix2
      clear q1 q2 g0 g2
      have TK := vl (rtoken_any (v.extract p i) wr (by have := ext_size v p i; have := HVS.out; omega))
      rw [unums_ext] at TK
      obtain ⟨pc, hpc⟩ : ∃ pc, pc = ((unums v).drop p).take (i - p) := ⟨_, rfl⟩
      have HPC : Vl (unums (v.extract p i) = pc) := vl (by rw [hpc]; exact unums_ext v p i)
      rw [← hpc] at TK HI3
      clear hpc
      have p0 : (0 : Int) ≤ (p : Int) := by omega
      have pi : (p : Int) ≤ (i : Int) := by omega
      clear c1 d1
      cases htk : tokL pc with
      | false =>
        rw [htk] at TK
        have HI4 : Vl (InI (unums v) (i + 2) (i + 1) N) := vl (by
          have := HI3.out
          rw [List.filter_cons_of_neg (by rw [htk]; simp), List.filter_nil, List.append_nil] at this
          exact this)
        clear htk HI HI3 HPC
        go_wp2_with fail
        refine TK.out.mono ?_
        rintro e w' ⟨rfl, rfl⟩
        go_wp2
        go_roundw
        case rel => exact ⟨i + 2, i + 1, N, by go_num, by go_num, by omega, by omega, HI4, HSM, HB⟩
        case measure => first | (simp [intOf]; done) | (simp [intOf]; omega)
      | true =>
        rw [htk] at TK
        have HI4 : Vl (InI (unums v) (i + 2) (i + 1) (N ++ [pc])) := vl (by
          have := HI3.out
          rw [List.filter_cons_of_pos htk] at this
          exact this)
        have HNE : Vl (valsOf KL pc ≠ valsOf QL pc → BoolIs PF (.returned (.bool false))) := vl (fun h => HNS.out (fun hs => h (hs pc (by rw [HNM.out]; exact inI_sub HI4.out pc (by simp)))))
        clear htk HI HI3
        go_wp2_with fail
        refine TK.out.mono ?_
        rintro e w' ⟨rfl, rfl⟩
        clear TK
        obtain ⟨X, hX⟩ : ∃ X, v.extract p i = X := ⟨_, rfl⟩
        rw [hX] at HPC
        rw [hX]
        clear hX
        obtain ⟨WA, hWA⟩ : ∃ x, x = wr := ⟨_, rfl⟩
        subst hWA
        go_wp2_with fail
        go_loopw [11, 13] (fun av jv wq => ∃ (m : Nat) (VA : List ByteArray), jv = .int .i64 m ∧ m ≤ kn ∧ Vl (SOwn wq W2.heap.size av VA) ∧ Vl (VA.map unums = valsOf (KL.take m) pc) ∧ Vl (Below W2.heap.size W2 wq)) (fun _ jv _ => kn - (intOf jv).toNat)
        case atStart => exact ⟨0, [], rfl, Nat.zero_le _, sown_nil _ _, vl rfl, HB⟩
        case round =>
          obtain ⟨m, VA, rfl, hm, HOA, HVA, HBA⟩ := hrel
          have a3 : wr.cell? ⟨w.heap.size, 3, none⟩ = some (.slice ka kn kc) := (HBA.out.cell (p := ⟨w.heap.size, 3, none⟩) HSZ.out.1).trans HC.out.1
          have hin := HIN.out.below HBA.out
          have HVL := vl (snoc_len HVA.out)
          have hkn : kn ≤ 4398046511104 := hin.kn
          have hka : FArg wr ka kn kc KL := hin.ka
          by_cases m1 : m < kn
          case pos =>
            have m2 : (m : Int) < (kn : Int) := by omega
            have m0 : (0 : Int) ≤ (m : Int) := by omega
            have HKL := vl (farg_len hka)
            rcases hka with ⟨h0, _⟩ | ⟨g, off, rfl, hr⟩
            · omega
            have x1 := hr.hname m m1
            have x2 := hr.hvalue m m1
            have hcap := hr.hcap
            have hmax := hr.hmax
            unfold maxLen at hmax
            have HNV := vl (vals_snoc KL pc m (by rw [HKL.out]; exact m1))
            obtain ⟨x, hx⟩ : ∃ x, KL.getD m fnone = x := ⟨_, rfl⟩
            rw [hx] at x1 x2 HNV
            clear hr hx hin
            by_cases he : unums x.1 = pc
            · have hq : (x.1.toList == X.toList) = true := by rw [un_beq, HPC.out, decide_eq_true he]
              have HV2 : Vl ((VA ++ [x.2]).map unums = valsOf (KL.take (m + 1)) pc) := vl (by rw [HNV.out, if_pos he, List.map_append, HVA.out]; rfl)
              have LL : Vl (VA.length < 8796093022208) := vl (by have := HVL.out; omega)
              clear he m1
              go_wp2_with (at_builtin; refine wpList_sapp _ rfl _ _ rfl W2.heap.size u11 VA x.2 rfl HOA.out rfl LL.out HBA.out.size ?_)
              intro nv' w5 ho5 hg5
              have HO5 := vl ho5
              have HB5 := vl (u_below_grown (HBA.out.alloc HBA.out.size (.cells #[.string x.2] 9)) hg5 (by have := HBA.out.size; simp; omega) (fun k hk => (HOA.out.lt k hk).1))
              clear ho5 hg5 a3
              go_wp2
              go_roundw
              case rel => exact ⟨m + 1, VA ++ [x.2], by go_num, by omega, HO5, HV2, HB5⟩
              case measure => first | (simp [intOf]; done) | (simp [intOf]; omega)
            · have hq : (x.1.toList == X.toList) = false := by rw [un_beq, HPC.out, decide_eq_false he]
              have HV2 : Vl (VA.map unums = valsOf (KL.take (m + 1)) pc) := vl (by rw [HNV.out, if_neg he, List.append_nil, HVA.out])
              clear he m1
              go_wp2
              go_roundw
              case rel => exact ⟨m + 1, VA, by go_num, by omega, HOA, HV2, HBA⟩
              case measure => first | (simp [intOf]; done) | (simp [intOf]; omega)
          have m2 : ¬ (m : Int) < (kn : Int) := by omega
          have HVA2 : Vl (VA.map unums = valsOf KL pc) := vl (by
            have h1 := HVA.out
            have h2 : KL.take m = KL := List.take_of_length_le (by rw [farg_len hka]; omega)
            rw [h2] at h1
            exact h1)
          obtain ⟨WB, hWB⟩ : ∃ x, x = wr := ⟨_, rfl⟩
          subst hWB
          obtain ⟨sa, sc, hav⟩ := sown_shape HOA.out
          subst hav
          clear m1 hin hka HVA hm
          go_wp2_with fail
          go_loopw [12, 14] (fun bv jv wq => ∃ (m : Nat) (VB : List ByteArray), jv = .int .i64 m ∧ m ≤ qn ∧ Vl (SOwn wq WB.heap.size bv VB) ∧ Vl (VB.map unums = valsOf (QL.take m) pc) ∧ Vl (Below WB.heap.size WB wq)) (fun _ jv _ => qn - (intOf jv).toNat)
          case atStart => exact ⟨0, [], rfl, Nat.zero_le _, sown_nil _ _, vl rfl, vl (Below.refl _ _)⟩
          case round =>
            obtain ⟨n, VB, rfl, hn, HOB, HVB, HBB⟩ := hrel
            have HBQ : Vl (Below W2.heap.size W2 wr) := vl (HBA.out.trans (HBB.out.mono HBA.out.size))
            have b3 : wr.cell? ⟨W1.heap.size, 3, none⟩ = some (.slice qa qn qc) := (HBQ.out.cell (p := ⟨W1.heap.size, 3, none⟩) HSZ.out.2).trans HC.out.2
            have hin := HIN.out.below HBQ.out
            have HVL2 := vl (snoc_len HVB.out)
            have hqn : qn ≤ 4398046511104 := hin.qn
            have hqa : FArg wr qa qn qc QL := hin.qa
            clear a3
            by_cases n1 : n < qn
            case pos =>
              have n2 : (n : Int) < (qn : Int) := by omega
              have n0 : (0 : Int) ≤ (n : Int) := by omega
              have HQL := vl (farg_len hqa)
              rcases hqa with ⟨h0, _⟩ | ⟨g, off, rfl, hr⟩
              · omega
              have x1 := hr.hname n n1
              have x2 := hr.hvalue n n1
              have hcap := hr.hcap
              have hmax := hr.hmax
              unfold maxLen at hmax
              have HNV := vl (vals_snoc QL pc n (by rw [HQL.out]; exact n1))
              obtain ⟨x, hx⟩ : ∃ x, QL.getD n fnone = x := ⟨_, rfl⟩
              rw [hx] at x1 x2 HNV
              clear hr hx hin
              by_cases he : unums x.1 = pc
              · have hq : (x.1.toList == X.toList) = true := by rw [un_beq, HPC.out, decide_eq_true he]
                have HV2 : Vl ((VB ++ [x.2]).map unums = valsOf (QL.take (n + 1)) pc) := vl (by rw [HNV.out, if_pos he, List.map_append, HVB.out]; rfl)
                have LL : Vl (VB.length < 8796093022208) := vl (by have := HVL2.out; omega)
                clear he n1
                go_wp2_with (at_builtin; refine wpList_sapp _ rfl _ _ rfl WB.heap.size u12 VB x.2 rfl HOB.out rfl LL.out HBB.out.size ?_)
                intro nv' w5 ho5 hg5
                have HO5 := vl ho5
                have HB5 := vl (u_below_grown (HBB.out.alloc HBB.out.size (.cells #[.string x.2] 9)) hg5 (by have := HBB.out.size; simp; omega) (fun k hk => (HOB.out.lt k hk).1))
                clear ho5 hg5 b3
                go_wp2
                go_roundw
                case rel => exact ⟨n + 1, VB ++ [x.2], by go_num, by omega, HO5, HV2, HB5⟩
                case measure => first | (simp [intOf]; done) | (simp [intOf]; omega)
              · have hq : (x.1.toList == X.toList) = false := by rw [un_beq, HPC.out, decide_eq_false he]
                have HV2 : Vl (VB.map unums = valsOf (QL.take (n + 1)) pc) := vl (by rw [HNV.out, if_neg he, List.append_nil, HVB.out])
                clear he n1
                go_wp2
                go_roundw
                case rel => exact ⟨n + 1, VB, by go_num, by omega, HOB, HV2, HBB⟩
                case measure => first | (simp [intOf]; done) | (simp [intOf]; omega)
            have n2 : ¬ (n : Int) < (qn : Int) := by omega
            have HVB2 : Vl (VB.map unums = valsOf QL pc) := vl (by
              have h1 := HVB.out
              have h2 : QL.take n = QL := List.take_of_length_le (by rw [farg_len hqa]; omega)
              rw [h2] at h1
              exact h1)
            have HNE2 : Vl (VA.map unums ≠ VB.map unums → BoolIs PF (.returned (.bool false))) := vl (fun h => HNE.out (by rw [← HVA2.out, ← HVB2.out]; exact h))
            have HB9 := vl (HB0.out.trans (HBQ.out.mono HB0.out.size))
            obtain ⟨WC, hWC⟩ : ∃ x, x = wr := ⟨_, rfl⟩
            subst hWC
            obtain ⟨sb, sd, hbv⟩ := sown_shape HOB.out
            subst hbv
            have HRA := vl (sown_at (sown_below HOA.out HBB.out) rfl)
            have HRB := vl (sown_at HOB.out rfl)
            clear n1 hin hqa hn HVB
            by_cases l1 : VA.length = VB.length
            case neg =>
              have l2 : ((VA.length : Int) != (VB.length : Int)) = true := by simp; omega
              have HN := vl (HNE2.out (fun e => l1 (by have := congrArg List.length e; simpa using this)))
              clear l1
              go_wp2
              go_ret
              exact ⟨HN.out, HB9.out⟩
            have l2 : ((VA.length : Int) != (VB.length : Int)) = false := by simp; omega
            have HLE := vl l1
            clear l1
            go_wp2_with fail
            go_loopw [15] (fun jv wq => ∃ m : Nat, jv = .int .i64 m ∧ m ≤ VA.length ∧ Vl (∀ t, t < m → unums (VA.getD t ⟨#[]⟩) = unums (VB.getD t ⟨#[]⟩)) ∧ Vl (Below WC.heap.size WC wq)) (fun jv _ => VA.length - (intOf jv).toNat)
            case atStart => exact ⟨0, rfl, Nat.zero_le _, vl (fun t ht => by omega), vl (Below.refl _ _)⟩
            case round =>
              obtain ⟨m, rfl, hm, HEQ, HBC⟩ := hrel
              have HBX : Vl (∀ z, Below W2.heap.size W2 (wr.drewN z)) := vl (fun z => bdN (HBQ.out.trans (HBC.out.mono HBQ.out.size)) z)
              by_cases m1 : m < VA.length
              case pos =>
                have m2 : (m : Int) < (VA.length : Int) := by omega
                have m3 : (m : Int) < (VB.length : Int) := by have := HLE.out; omega
                have m0 : (0 : Int) ≤ (m : Int) := by omega
                obtain ⟨t1, t2, t3⟩ := HRA.out
                obtain ⟨s1, s2, s3⟩ := HRB.out
                unfold maxLen at t2 s2
                obtain ⟨g1, rfl, _, l1, y1⟩ := t3 m m1
                obtain ⟨g2, rfl, _, l2, y2⟩ := s3 m (by have := HLE.out; omega)
                have z1 := (HBC.out.cell (p := ⟨g1, m, none⟩) l1).trans y1
                have z2 := (HBC.out.cell (p := ⟨g2, m, none⟩) l2).trans y2
                have HDF := vl (vals_differ (VA := VA) (VB := VB) (t := m) m1 (by have := HLE.out; omega))
                obtain ⟨x, hx⟩ : ∃ x, VA.getD m ⟨#[]⟩ = x := ⟨_, rfl⟩
                obtain ⟨y, hy⟩ : ∃ y, VB.getD m ⟨#[]⟩ = y := ⟨_, rfl⟩
                rw [hx] at z1 HDF
                rw [hy] at z2 HDF
                have HX := vl hx
                have HY := vl hy
                clear hx hy y1 y2 t3 s3
                by_cases he : unums x = unums y
                · have hq : (x.toList == y.toList) = true := by rw [un_beq, decide_eq_true he]
                  have HEQ2 : Vl (∀ t, t < m + 1 → unums (VA.getD t ⟨#[]⟩) = unums (VB.getD t ⟨#[]⟩)) := vl (fun t ht => by
                    by_cases e : t = m
                    · subst e; rw [HX.out, HY.out]; exact he
                    · exact HEQ.out t (by omega))
                  clear he m1
                  go_wp2_with fail
                  go_quiet (fail)
                  go_wp2
                  go_roundw
                  case rel => exact ⟨m + 1, by go_num, by omega, HEQ2, vl (bdN HBC.out _)⟩
                  case measure => first | (simp [intOf]; done) | (simp [intOf]; omega)
                · have hq : (x.toList == y.toList) = false := by rw [un_beq, decide_eq_false he]
                  have HN := vl (HNE2.out (HDF.out he))
                  have HB8 := vl (fun z => HB0.out.trans ((HBX.out z).mono HB0.out.size))
                  clear he m1
                  go_wp2_with fail
                  go_quiet (fail)
                  go_wp2
                  go_ret
                  exact ⟨HN.out, HB8.out _⟩
              have m2 : ¬ (m : Int) < (VA.length : Int) := by omega
              have HSM2 := vl (same_snoc HSM.out (n := pc) (by rw [← HVA2.out, ← HVB2.out]; exact vals_one HLE.out (fun t ht => HEQ.out t (by omega))))
              have HBZ := vl (HBX.out 0)
              clear m1
              go_wp2
              go_roundw
              case rel => exact ⟨i + 2, i + 1, N ++ [pc], by go_num, by go_num, by omega, by omega, HI4, HSM2, HBZ⟩
              case measure => first | (simp [intOf]; done) | (simp [intOf]; omega)
    have g1 : ¬ (i : Int) < (v.size : Int) := by omega
    have HI3 : Vl (InI (unums v) (i + 2) (i + 1) (N ++ [((unums v).drop p).take (i - p)].filter tokL)) := vl (by
      have h0 := HI.out
      rw [show i = (unums v).length by rw [HUL.out]; exact g0] at h0 ⊢
      exact inI_last h0)
    clear g0
    have TK := vl (rtoken_any (v.extract p i) wr (by have := ext_size v p i; have := HVS.out; omega))
    rw [unums_ext] at TK
    obtain ⟨pc, hpc⟩ : ∃ pc, pc = ((unums v).drop p).take (i - p) := ⟨_, rfl⟩
    have HPC : Vl (unums (v.extract p i) = pc) := vl (by rw [hpc]; exact unums_ext v p i)
    rw [← hpc] at TK HI3
    clear hpc
    have p0 : (0 : Int) ≤ (p : Int) := by omega
    have pi : (p : Int) ≤ (i : Int) := by omega
    clear c1 d1
    cases htk : tokL pc with
    | false =>
      rw [htk] at TK
      have HI4 : Vl (InI (unums v) (i + 2) (i + 1) N) := vl (by
        have := HI3.out
        rw [List.filter_cons_of_neg (by rw [htk]; simp), List.filter_nil, List.append_nil] at this
        exact this)
      clear htk HI HI3 HPC
      go_wp2_with fail
      refine TK.out.mono ?_
      rintro e w' ⟨rfl, rfl⟩
      go_wp2
      go_roundw
      case rel => exact ⟨i + 2, i + 1, N, by go_num, by go_num, by omega, by omega, HI4, HSM, HB⟩
      case measure => first | (simp [intOf]; done) | (simp [intOf]; omega)
    | true =>
      rw [htk] at TK
      have HI4 : Vl (InI (unums v) (i + 2) (i + 1) (N ++ [pc])) := vl (by
        have := HI3.out
        rw [List.filter_cons_of_pos htk] at this
        exact this)
      have HNE : Vl (valsOf KL pc ≠ valsOf QL pc → BoolIs PF (.returned (.bool false))) := vl (fun h => HNS.out (fun hs => h (hs pc (by rw [HNM.out]; exact inI_sub HI4.out pc (by simp)))))
      clear htk HI HI3
      go_wp2_with fail
      refine TK.out.mono ?_
      rintro e w' ⟨rfl, rfl⟩
      clear TK
      obtain ⟨X, hX⟩ : ∃ X, v.extract p i = X := ⟨_, rfl⟩
      rw [hX] at HPC
      rw [hX]
      clear hX
      obtain ⟨WA, hWA⟩ : ∃ x, x = wr := ⟨_, rfl⟩
      subst hWA
      go_wp2_with fail
      go_loopw [11, 13] (fun av jv wq => ∃ (m : Nat) (VA : List ByteArray), jv = .int .i64 m ∧ m ≤ kn ∧ Vl (SOwn wq W2.heap.size av VA) ∧ Vl (VA.map unums = valsOf (KL.take m) pc) ∧ Vl (Below W2.heap.size W2 wq)) (fun _ jv _ => kn - (intOf jv).toNat)
      case atStart => exact ⟨0, [], rfl, Nat.zero_le _, sown_nil _ _, vl rfl, HB⟩
      case round =>
        obtain ⟨m, VA, rfl, hm, HOA, HVA, HBA⟩ := hrel
        have a3 : wr.cell? ⟨w.heap.size, 3, none⟩ = some (.slice ka kn kc) := (HBA.out.cell (p := ⟨w.heap.size, 3, none⟩) HSZ.out.1).trans HC.out.1
        have hin := HIN.out.below HBA.out
        have HVL := vl (snoc_len HVA.out)
        have hkn : kn ≤ 4398046511104 := hin.kn
        have hka : FArg wr ka kn kc KL := hin.ka
        by_cases m1 : m < kn
        case pos =>
          have m2 : (m : Int) < (kn : Int) := by omega
          have m0 : (0 : Int) ≤ (m : Int) := by omega
          have HKL := vl (farg_len hka)
          rcases hka with ⟨h0, _⟩ | ⟨g, off, rfl, hr⟩
          · omega
          have x1 := hr.hname m m1
          have x2 := hr.hvalue m m1
          have hcap := hr.hcap
          have hmax := hr.hmax
          unfold maxLen at hmax
          have HNV := vl (vals_snoc KL pc m (by rw [HKL.out]; exact m1))
          obtain ⟨x, hx⟩ : ∃ x, KL.getD m fnone = x := ⟨_, rfl⟩
          rw [hx] at x1 x2 HNV
          clear hr hx hin
          by_cases he : unums x.1 = pc
          · have hq : (x.1.toList == X.toList) = true := by rw [un_beq, HPC.out, decide_eq_true he]
            have HV2 : Vl ((VA ++ [x.2]).map unums = valsOf (KL.take (m + 1)) pc) := vl (by rw [HNV.out, if_pos he, List.map_append, HVA.out]; rfl)
            have LL : Vl (VA.length < 8796093022208) := vl (by have := HVL.out; omega)
            clear he m1
            go_wp2_with (at_builtin; refine wpList_sapp _ rfl _ _ rfl W2.heap.size u11 VA x.2 rfl HOA.out rfl LL.out HBA.out.size ?_)
            intro nv' w5 ho5 hg5
            have HO5 := vl ho5
            have HB5 := vl (u_below_grown (HBA.out.alloc HBA.out.size (.cells #[.string x.2] 9)) hg5 (by have := HBA.out.size; simp; omega) (fun k hk => (HOA.out.lt k hk).1))
            clear ho5 hg5 a3
            go_wp2
            go_roundw
            case rel => exact ⟨m + 1, VA ++ [x.2], by go_num, by omega, HO5, HV2, HB5⟩
            case measure => first | (simp [intOf]; done) | (simp [intOf]; omega)
          · have hq : (x.1.toList == X.toList) = false := by rw [un_beq, HPC.out, decide_eq_false he]
            have HV2 : Vl (VA.map unums = valsOf (KL.take (m + 1)) pc) := vl (by rw [HNV.out, if_neg he, List.append_nil, HVA.out])
            clear he m1
            go_wp2
            go_roundw
            case rel => exact ⟨m + 1, VA, by go_num, by omega, HOA, HV2, HBA⟩
            case measure => first | (simp [intOf]; done) | (simp [intOf]; omega)
        have m2 : ¬ (m : Int) < (kn : Int) := by omega
        have HVA2 : Vl (VA.map unums = valsOf KL pc) := vl (by
          have h1 := HVA.out
          have h2 : KL.take m = KL := List.take_of_length_le (by rw [farg_len hka]; omega)
          rw [h2] at h1
          exact h1)
        obtain ⟨WB, hWB⟩ : ∃ x, x = wr := ⟨_, rfl⟩
        subst hWB
        obtain ⟨sa, sc, hav⟩ := sown_shape HOA.out
        subst hav
        clear m1 hin hka HVA hm
        go_wp2_with fail
        go_loopw [12, 14] (fun bv jv wq => ∃ (m : Nat) (VB : List ByteArray), jv = .int .i64 m ∧ m ≤ qn ∧ Vl (SOwn wq WB.heap.size bv VB) ∧ Vl (VB.map unums = valsOf (QL.take m) pc) ∧ Vl (Below WB.heap.size WB wq)) (fun _ jv _ => qn - (intOf jv).toNat)
        case atStart => exact ⟨0, [], rfl, Nat.zero_le _, sown_nil _ _, vl rfl, vl (Below.refl _ _)⟩
        case round =>
          obtain ⟨n, VB, rfl, hn, HOB, HVB, HBB⟩ := hrel
          have HBQ : Vl (Below W2.heap.size W2 wr) := vl (HBA.out.trans (HBB.out.mono HBA.out.size))
          have b3 : wr.cell? ⟨W1.heap.size, 3, none⟩ = some (.slice qa qn qc) := (HBQ.out.cell (p := ⟨W1.heap.size, 3, none⟩) HSZ.out.2).trans HC.out.2
          have hin := HIN.out.below HBQ.out
          have HVL2 := vl (snoc_len HVB.out)
          have hqn : qn ≤ 4398046511104 := hin.qn
          have hqa : FArg wr qa qn qc QL := hin.qa
          clear a3
          by_cases n1 : n < qn
          case pos =>
            have n2 : (n : Int) < (qn : Int) := by omega
            have n0 : (0 : Int) ≤ (n : Int) := by omega
            have HQL := vl (farg_len hqa)
            rcases hqa with ⟨h0, _⟩ | ⟨g, off, rfl, hr⟩
            · omega
            have x1 := hr.hname n n1
            have x2 := hr.hvalue n n1
            have hcap := hr.hcap
            have hmax := hr.hmax
            unfold maxLen at hmax
            have HNV := vl (vals_snoc QL pc n (by rw [HQL.out]; exact n1))
            obtain ⟨x, hx⟩ : ∃ x, QL.getD n fnone = x := ⟨_, rfl⟩
            rw [hx] at x1 x2 HNV
            clear hr hx hin
            by_cases he : unums x.1 = pc
            · have hq : (x.1.toList == X.toList) = true := by rw [un_beq, HPC.out, decide_eq_true he]
              have HV2 : Vl ((VB ++ [x.2]).map unums = valsOf (QL.take (n + 1)) pc) := vl (by rw [HNV.out, if_pos he, List.map_append, HVB.out]; rfl)
              have LL : Vl (VB.length < 8796093022208) := vl (by have := HVL2.out; omega)
              clear he n1
              go_wp2_with (at_builtin; refine wpList_sapp _ rfl _ _ rfl WB.heap.size u12 VB x.2 rfl HOB.out rfl LL.out HBB.out.size ?_)
              intro nv' w5 ho5 hg5
              have HO5 := vl ho5
              have HB5 := vl (u_below_grown (HBB.out.alloc HBB.out.size (.cells #[.string x.2] 9)) hg5 (by have := HBB.out.size; simp; omega) (fun k hk => (HOB.out.lt k hk).1))
              clear ho5 hg5 b3
              go_wp2
              go_roundw
              case rel => exact ⟨n + 1, VB ++ [x.2], by go_num, by omega, HO5, HV2, HB5⟩
              case measure => first | (simp [intOf]; done) | (simp [intOf]; omega)
            · have hq : (x.1.toList == X.toList) = false := by rw [un_beq, HPC.out, decide_eq_false he]
              have HV2 : Vl (VB.map unums = valsOf (QL.take (n + 1)) pc) := vl (by rw [HNV.out, if_neg he, List.append_nil, HVB.out])
              clear he n1
              go_wp2
              go_roundw
              case rel => exact ⟨n + 1, VB, by go_num, by omega, HOB, HV2, HBB⟩
              case measure => first | (simp [intOf]; done) | (simp [intOf]; omega)
          have n2 : ¬ (n : Int) < (qn : Int) := by omega
          have HVB2 : Vl (VB.map unums = valsOf QL pc) := vl (by
            have h1 := HVB.out
            have h2 : QL.take n = QL := List.take_of_length_le (by rw [farg_len hqa]; omega)
            rw [h2] at h1
            exact h1)
          have HNE2 : Vl (VA.map unums ≠ VB.map unums → BoolIs PF (.returned (.bool false))) := vl (fun h => HNE.out (by rw [← HVA2.out, ← HVB2.out]; exact h))
          have HB9 := vl (HB0.out.trans (HBQ.out.mono HB0.out.size))
          obtain ⟨WC, hWC⟩ : ∃ x, x = wr := ⟨_, rfl⟩
          subst hWC
          obtain ⟨sb, sd, hbv⟩ := sown_shape HOB.out
          subst hbv
          have HRA := vl (sown_at (sown_below HOA.out HBB.out) rfl)
          have HRB := vl (sown_at HOB.out rfl)
          clear n1 hin hqa hn HVB
          by_cases l1 : VA.length = VB.length
          case neg =>
            have l2 : ((VA.length : Int) != (VB.length : Int)) = true := by simp; omega
            have HN := vl (HNE2.out (fun e => l1 (by have := congrArg List.length e; simpa using this)))
            clear l1
            go_wp2
            go_ret
            exact ⟨HN.out, HB9.out⟩
          have l2 : ((VA.length : Int) != (VB.length : Int)) = false := by simp; omega
          have HLE := vl l1
          clear l1
          go_wp2_with fail
          go_loopw [15] (fun jv wq => ∃ m : Nat, jv = .int .i64 m ∧ m ≤ VA.length ∧ Vl (∀ t, t < m → unums (VA.getD t ⟨#[]⟩) = unums (VB.getD t ⟨#[]⟩)) ∧ Vl (Below WC.heap.size WC wq)) (fun jv _ => VA.length - (intOf jv).toNat)
          case atStart => exact ⟨0, rfl, Nat.zero_le _, vl (fun t ht => by omega), vl (Below.refl _ _)⟩
          case round =>
            obtain ⟨m, rfl, hm, HEQ, HBC⟩ := hrel
            have HBX : Vl (∀ z, Below W2.heap.size W2 (wr.drewN z)) := vl (fun z => bdN (HBQ.out.trans (HBC.out.mono HBQ.out.size)) z)
            by_cases m1 : m < VA.length
            case pos =>
              have m2 : (m : Int) < (VA.length : Int) := by omega
              have m3 : (m : Int) < (VB.length : Int) := by have := HLE.out; omega
              have m0 : (0 : Int) ≤ (m : Int) := by omega
              obtain ⟨t1, t2, t3⟩ := HRA.out
              obtain ⟨s1, s2, s3⟩ := HRB.out
              unfold maxLen at t2 s2
              obtain ⟨g1, rfl, _, l1, y1⟩ := t3 m m1
              obtain ⟨g2, rfl, _, l2, y2⟩ := s3 m (by have := HLE.out; omega)
              have z1 := (HBC.out.cell (p := ⟨g1, m, none⟩) l1).trans y1
              have z2 := (HBC.out.cell (p := ⟨g2, m, none⟩) l2).trans y2
              have HDF := vl (vals_differ (VA := VA) (VB := VB) (t := m) m1 (by have := HLE.out; omega))
              obtain ⟨x, hx⟩ : ∃ x, VA.getD m ⟨#[]⟩ = x := ⟨_, rfl⟩
              obtain ⟨y, hy⟩ : ∃ y, VB.getD m ⟨#[]⟩ = y := ⟨_, rfl⟩
              rw [hx] at z1 HDF
              rw [hy] at z2 HDF
              have HX := vl hx
              have HY := vl hy
              clear hx hy y1 y2 t3 s3
              by_cases he : unums x = unums y
              · have hq : (x.toList == y.toList) = true := by rw [un_beq, decide_eq_true he]
                have HEQ2 : Vl (∀ t, t < m + 1 → unums (VA.getD t ⟨#[]⟩) = unums (VB.getD t ⟨#[]⟩)) := vl (fun t ht => by
                  by_cases e : t = m
                  · subst e; rw [HX.out, HY.out]; exact he
                  · exact HEQ.out t (by omega))
                clear he m1
                go_wp2_with fail
                go_quiet (fail)
                go_wp2
                go_roundw
                case rel => exact ⟨m + 1, by go_num, by omega, HEQ2, vl (bdN HBC.out _)⟩
                case measure => first | (simp [intOf]; done) | (simp [intOf]; omega)
              · have hq : (x.toList == y.toList) = false := by rw [un_beq, decide_eq_false he]
                have HN := vl (HNE2.out (HDF.out he))
                have HB8 := vl (fun z => HB0.out.trans ((HBX.out z).mono HB0.out.size))
                clear he m1
                go_wp2_with fail
                go_quiet (fail)
                go_wp2
                go_ret
                exact ⟨HN.out, HB8.out _⟩
            have m2 : ¬ (m : Int) < (VA.length : Int) := by omega
            have HSM2 := vl (same_snoc HSM.out (n := pc) (by rw [← HVA2.out, ← HVB2.out]; exact vals_one HLE.out (fun t ht => HEQ.out t (by omega))))
            have HBZ := vl (HBX.out 0)
            clear m1
            go_wp2
            go_roundw
            case rel => exact ⟨i + 2, i + 1, N ++ [pc], by go_num, by go_num, by omega, by omega, HI4, HSM2, HBZ⟩
            case measure => first | (simp [intOf]; done) | (simp [intOf]; omega)
end Go.Proofs.YtibipnipeaeonaaGreatDoor
