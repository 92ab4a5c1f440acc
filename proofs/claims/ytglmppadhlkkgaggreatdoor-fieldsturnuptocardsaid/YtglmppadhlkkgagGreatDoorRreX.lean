/-
  FROM THE ONE TO THE OTHER: the document's FieldsReply. No claim by itself.
-/
import Derived.BigRegion
import Derived.Test.YtglmppadhlkkgagGreatDoorRteX
import Derived.Test.YtglmppadhlkkgagGreatDoorRliX
import Derived.Test.YtglmppadhlkkgagGreatDoorYreX
namespace Go.Proofs.YtglmppadhlkkgagGreatDoor
open Go Go.RowKit
set_option maxRecDepth 100000
/-- What FieldsReply answers. -/
def RReplyE (L : List (ByteArray × ByteArray)) (B : List Int) (w : World) (e : Ending) (w' : World) : Prop :=
  ∃ q : RpM, e = .returned (.tuple #[q.val, .int .i64 (replyW (fdsOf L) B).1]) ∧ RpIn w' q ∧ q.rp = (replyW (fdsOf L) B).2 ∧ Below w.heap.size w w'
def rpZ : RpM := ⟨0, none, 0, 0, none, 0, 0, [], []⟩
theorem rpZ_in (w : World) : RpIn w rpZ := ⟨by unfold I64 rpZ; simp, Or.inl ⟨rfl, rfl⟩, Or.inl ⟨rfl, rfl⟩, fun _ => ⟨rfl, rfl⟩, ⟨by unfold rpZ; simp, by unfold rpZ; simp⟩, fun t => by unfold rpZ; simp [fnone]⟩
theorem rreply_bad {L : List (ByteArray × ByteArray)} {B : List Int} {w w' : World} {x : Int} (h : replyW (fdsOf L) B = (x, default)) (hb : Below w.heap.size w w') : RReplyE L B w (.returned (.tuple #[.agg #[.int .i64 0, .slice none 0 0, .slice none 0 0], .int .i64 x])) w' := by
  unfold RReplyE
  rw [h]
  exact ⟨rpZ, rfl, rpZ_in w', rfl, hb⟩
theorem RPB.set1 {w : World} {x : Nat} {c : Int} {fv bv : Value} (k : RPB w x c fv bv) (fv' : Value) : RPB (w.setCell ⟨x, 1, none⟩ fv') x c fv' bv := by
  unfold RPB at *
  unfold World.setCell
  rw [Array.getElem?_modify]
  simp [k]
theorem RPB.set02 {w : World} {x : Nat} {c : Int} {fv bv : Value} (k : RPB w x c fv bv) (c' : Int) (bv' : Value) : RPB ((w.setCell ⟨x, 0, none⟩ (.int .i64 c')).setCell ⟨x, 2, none⟩ bv').drew x c' fv bv' := by
  unfold RPB at *
  show ((w.setCell ⟨x, 0, none⟩ (.int .i64 c')).setCell ⟨x, 2, none⟩ bv').heap[x]? = _
  unfold World.setCell
  rw [Array.getElem?_modify, Array.getElem?_modify]
  simp [k]
theorem each_of {GL : List (ByteArray × ByteArray)} (h : ∀ p ∈ GL, p.1.size ≤ 140737488351232 ∧ p.2.size ≤ 140737488351232) (t : Nat) : (GL.getD t fnone).1.size ≤ 140737488351232 ∧ (GL.getD t fnone).2.size ≤ 140737488351232 := by
  by_cases ht : t < GL.length
  · rw [List.getD, List.getElem?_eq_getElem ht]
    exact h _ (List.getElem_mem _)
  · rw [List.getD, List.getElem?_eq_none (by omega)]
    simp [fnone]
theorem psd_get {n : ByteArray} (h : ¬ n.toList = []) : psdL (unums n) = decide ((unums n).getD 0 0 = 58) := by
  cases hu : unums n with
  | nil => exact absurd (toL_nil.2 hu) h
  | cons c r => rfl
theorem rpsd_nil {n : ByteArray} (h : n.toList = []) : psdL (unums n) = false := by rw [toL_nil.1 h]; rfl
theorem nil_size {n : ByteArray} (h : ¬ n.toList = []) : 0 < n.size := by
  rcases Nat.lt_or_ge 0 n.size with h1 | h1
  · exact h1
  · exact absurd (toL_nil.2 (List.eq_nil_of_length_eq_zero (by rw [unums_len]; omega))) h
theorem step_fappS {ops : Array Oper} {o : Oper} {a : Act} {K : Act → World → Prop} {Q : Exit → Act → World → Prop} {E : Prop} (w : World) (hgd : o.guard = none) (s x : Operand)
    (ho : o.op = .call { callee := .builtin .append, args := #[s, x], argTypes := #[22, 22] }) (base : Nat) (v : Value) (FL : List (ByteArray × ByteArray)) (n u : ByteArray) (hs : a.eval s = v) (hown : FOwn w base v FL)
    (B : Nat) (hx : a.eval x = .slice (some ⟨B, 0, none⟩) 1 1) (hB : w.heap[B]? = some (.cells #[.string n, .string u] 51 (0, 0))) (hlen : FL.length < 4398046511104) (hbase : base ≤ w.heap.size)
    (h : ∀ g c w', FOwn w' base (.slice (some ⟨g, 0, none⟩) (FL.length + 1) c) (FL ++ [(n, u)]) → w.grownBy w' v.ownBlock → K (a.put o.dst (.slice (some ⟨g, 0, none⟩) (FL.length + 1) c)) w') : if Region.wanted o (yielded ops a.tmps) = true then Oper.wp Tryz.prog o a w K Q else E := by
  obtain ⟨i0, hi, hz0, hz1, hz2⟩ := info_parts n_infoF
  refine step_append_lies _ hgd s x 22 ho base 51 i0 (.agg #[.string ⟨#[]⟩, .string ⟨#[]⟩]) 2 32 Tryz.underlying22 hi hz0 hz1 hz2 rfl (by decide) v FL.length _ hs hown ⟨B, 0, none⟩ 1 1 [.string n, .string u] hx rfl (fone_news hB) fone_one (by decide) (by unfold maxLen; omega) (by omega) hbase _ rfl ?_
  intro g cap w' h1 h2 _ _
  refine h g cap w' ?_ h2
  have hfc : fcells FL ++ [Value.string n, .string u] = fcells (FL ++ [(n, u)]) := by rw [fcells_append]; rfl
  rw [hfc] at h1
  show World.ownsRow _ _ _ _ _ _ _
  rw [show (FL ++ [(n, u)]).length = FL.length + 1 by simp]
  exact h1
theorem rL_code {n : ByteArray} : n.toList = [58, 99, 111, 100, 101] ↔ unums n = codeP := toL_lit
theorem any_at {L : List (ByteArray × ByteArray)} {t : Nat} (h0 : 1 ≤ t) (ht : t < L.length) (h : psdL (unums (L.getD t fnone).1) = true) : (fdsOf (L.drop 1)).any (fun g => psdL g.1) = true := by
  rw [List.any_eq_true]
  refine ⟨(unums (L.getD t fnone).1, unums (L.getD t fnone).2), ?_, h⟩
  unfold fdsOf
  refine List.mem_map_of_mem (f := fun f : ByteArray × ByteArray => (unums f.1, unums f.2)) ?_
  rw [List.getD, List.getElem?_eq_getElem ht]
  show L[t] ∈ L.drop 1
  rw [List.mem_drop_iff_getElem]
  exact ⟨t - 1, by omega, by congr 1; omega⟩
theorem any_no {L : List (ByteArray × ByteArray)} (h : ∀ t, 1 ≤ t → t < L.length → psdL (unums (L.getD t fnone).1) = false) : (fdsOf (L.drop 1)).any (fun g => psdL g.1) = false := by
  rw [List.any_eq_false]
  intro f hf
  unfold fdsOf at hf
  obtain ⟨p, hp, rfl⟩ := List.mem_map.1 hf
  obtain ⟨i, hi, rfl⟩ := List.mem_drop_iff_getElem.1 hp
  have := h (1 + i) (by omega) (by omega)
  rw [List.getD, List.getElem?_eq_getElem (by omega)] at this
  simpa using this
theorem fd_first {L : List (ByteArray × ByteArray)} (h : 0 < L.length) : fdsOf L = (unums (L.getD 0 fnone).1, unums (L.getD 0 fnone).2) :: fdsOf (L.drop 1) := by
  cases L with
  | nil => simp at h
  | cons x y => rfl
theorem len_snoc (L : List (ByteArray × ByteArray)) (m : Nat) (h0 : 1 ≤ m) (h : m < L.length) : (fdsOf ((L.take (m + 1)).drop 1)).filter (fun g => !decide (g.1 = lengthN)) = (fdsOf ((L.take m).drop 1)).filter (fun g => !decide (g.1 = lengthN)) ++ (if unums (L.getD m fnone).1 = lengthN then [] else [(unums (L.getD m fnone).1, unums (L.getD m fnone).2)]) := by
  have e : (L.take (m + 1)).drop 1 = (L.take m).drop 1 ++ [L.getD m fnone] := by
    rw [List.take_add_one, List.drop_append_of_le_length (by rw [List.length_take]; omega)]
    simp [List.getD, List.getElem?_eq_getElem h]
  rw [e]
  generalize L.getD m fnone = p
  unfold fdsOf
  rw [List.map_append, List.filter_append]
  congr 1
  by_cases hg : unums p.1 = lengthN
  · rw [if_pos hg, List.map_singleton, List.filter_cons_of_neg (by simp [hg])]; rfl
  · rw [if_neg hg, List.map_singleton, List.filter_cons_of_pos (by simp [hg])]; rfl
set_option maxHeartbeats 40000000 in
theorem rreply_any (a : Option Addr) (len cap : Nat) (L : List (ByteArray × ByteArray)) (ba : Option Addr) (bn bc : Nat) (B : List Int) (w : World) (hA : FArg w a len cap L) (hl : len ≤ 1048576) (hs : ∀ t, (L.getD t fnone).1.size ≤ 140737488351232 ∧ (L.getD t fnone).2.size ≤ 140737488351232)
    (hB : Arg w ba bn bc B) (hnil : ba = none → bn = 0 ∧ bc = 0) (hbn : bn ≤ 140737488351232) : Calls Tryz.prog 17 #[.slice a len cap, .slice ba bn bc] w (RReplyE L B w) := by
  obtain ⟨W0, hW0⟩ : ∃ x, x = w.alloc (.cells #[.int .i64 0, .slice none 0 0, .slice none 0 0] 27) := ⟨_, rfl⟩
  have HP0 : Vl (RPB W0 w.heap.size 0 (.slice none 0 0) (.slice none 0 0)) := vl (by rw [hW0]; exact heap_alloc_new w _)
  have HB0 : Vl (Below w.heap.size w W0) := vl (by rw [hW0]; exact (Below.refl _ w).alloc (Nat.le_refl _) _)
  have HS0 : Vl (W0.heap.size = w.heap.size + 1) := vl (by rw [hW0]; simp)
  have HS := vl hs
  have HBB := vl hB
  have HNI := vl hnil
  have HLn := vl hA.len
  clear hs hB hnil
  rcases hA with ⟨rfl, rfl⟩ | ⟨g, off, rfl, hr⟩
  · have HPX := HP0
    have HBX := HB0
    subst hW0
    go_enter Tryz.func17, Tryz.ntmps17
    have HZ := vl (fun w' hb => rreply_bad (w' := w') (w := w) (L := []) (B := B) rfl hb)
    go_wp2_with (refine wpList_rpstore _ rfl _ _ rfl w.heap.size 0 0 (.slice none 0 0) (.slice none 0 0) (.slice none 0 0) (.slice none 0 0) rfl rfl HPX.out rfl rfl ?_)
    intro w8 hR hg8
    have HB8 : Vl (Below w.heap.size w w8) := vl (below_grown HBX.out hg8 HBX.out.size (fun k hk => by cases hk; exact Nat.le_refl _))
    obtain ⟨z0, z1, z2⟩ := hR.cells
    clear hR hg8
    go_wp2_with fail
    refine bodyPost_ret (v := .tuple #[.agg #[.int .i64 0, .slice none 0 0, .slice none 0 0], .int .i64 3]) (by simp [results, Tryz.results17, go_sem, z0, z1, z2]; try rfl) rfl ?_
    exact HZ.out _ HB8.out
  by_cases hpos : 0 < len
  case neg =>
    obtain rfl : len = 0 := by omega
    have hL : L = [] := List.eq_nil_of_length_eq_zero hr.hlen
    subst hL
    have HPX := HP0
    have HBX := HB0
    clear hr
    subst hW0
    go_enter Tryz.func17, Tryz.ntmps17
    have HZ := vl (fun w' hb => rreply_bad (w' := w') (w := w) (L := []) (B := B) rfl hb)
    go_wp2_with (refine wpList_rpstore _ rfl _ _ rfl w.heap.size 0 0 (.slice none 0 0) (.slice none 0 0) (.slice none 0 0) (.slice none 0 0) rfl rfl HPX.out rfl rfl ?_)
    intro w8 hR hg8
    have HB8 : Vl (Below w.heap.size w w8) := vl (below_grown HBX.out hg8 HBX.out.size (fun k hk => by cases hk; exact Nat.le_refl _))
    obtain ⟨z0, z1, z2⟩ := hR.cells
    clear hR hg8
    go_wp2_with fail
    refine bodyPost_ret (v := .tuple #[.agg #[.int .i64 0, .slice none 0 0, .slice none 0 0], .int .i64 3]) (by simp [results, Tryz.results17, go_sem, z0, z1, z2]; try rfl) rfl ?_
    exact HZ.out _ HB8.out
  have HR : Vl (∀ wx, Below w.heap.size w wx → FRow wx g off len cap L) := fun wx hb => hr.below hb
  have hcap := hr.hcap
  have hmax := hr.hmax
  have HF1 := vl (fd_first (L := L) (by rw [HLn.out]; exact hpos))
  have hp1 : ¬ (len : Int) = 0 := by omega
  have hp2 : (0 : Int) < (len : Int) := by omega
  have hp3 : ((len : Int) == 0) = false := by simpa using hp1
  have hf0 := HR.out W0 HB0.out
  have cn := hf0.hname 0 hpos
  have cv := hf0.hvalue 0 hpos
  have hss := HS.out 0
  simp only [Nat.zero_mul, Nat.add_zero] at cn cv
  obtain ⟨n0, hn0⟩ : ∃ n, n = (L.getD 0 fnone).1 := ⟨_, rfl⟩
  obtain ⟨v0, hv0⟩ : ∃ v, v = (L.getD 0 fnone).2 := ⟨_, rfl⟩
  rw [← hn0] at cn HF1
  rw [← hv0] at cv HF1 hss
  have HN0 := vl hn0
  have HV0 := vl hv0
  clear hf0 hr hn0 hv0
  by_cases hc : n0.toList = [58, 99, 111, 100, 101]
  case neg =>
    have hc' : (n0.toList == [58, 99, 111, 100, 101]) = false := by simpa using hc
    have hc2 : (n0.toList != [58, 99, 111, 100, 101]) = true := by simpa using hc
    have HY : Vl (replyW (fdsOf L) B = (3, default)) := vl (by
      rw [HF1.out]
      unfold replyW
      simp only []
      rw [if_pos (Or.inl (fun e => hc (rL_code.2 e)))])
    have HPX := HP0
    have HBX := HB0
    subst hW0
    go_enter Tryz.func17, Tryz.ntmps17
    have HZ := vl (fun w' hb => rreply_bad (w' := w') (w := w) (L := L) (B := B) HY.out hb)
    go_wp2_with (refine wpList_rpstore _ rfl _ _ rfl w.heap.size 0 0 (.slice none 0 0) (.slice none 0 0) (.slice none 0 0) (.slice none 0 0) rfl rfl HPX.out rfl rfl ?_)
    intro w8 hR hg8
    have HB8 : Vl (Below w.heap.size w w8) := vl (below_grown HBX.out hg8 HBX.out.size (fun k hk => by cases hk; exact Nat.le_refl _))
    obtain ⟨z0, z1, z2⟩ := hR.cells
    clear hR hg8
    go_wp2_with fail
    refine bodyPost_ret (v := .tuple #[.agg #[.int .i64 0, .slice none 0 0, .slice none 0 0], .int .i64 3]) (by simp [results, Tryz.results17, go_sem, z0, z1, z2]; try rfl) rfl ?_
    exact HZ.out _ HB8.out
  have HCE := vl (rL_code.1 hc)
  have hc2 : (n0.toList != [58, 99, 111, 100, 101]) = false := by simpa using hc
  have cn' := cn
  rw [hW0] at cn'
  go_enter Tryz.func17, Tryz.ntmps17
  go_wp2_with fail
  rw [← hW0]
  clear hW0 cn'
  go_loopw [6] (fun i wr => ∃ (j : Nat), i = .int .i64 j ∧ 1 ≤ j ∧ j ≤ len ∧ Vl (∀ t, 1 ≤ t → t < j → psdL (unums (L.getD t fnone).1) = false) ∧ wr = W0) (fun i _ => len - (intOf i).toNat)
  case atStart => exact ⟨1, rfl, Nat.le_refl _, hpos, vl (fun t h1 h2 => by omega), rfl⟩
  case round =>
    obtain ⟨j, rfl, j0, hj, HNo, rfl⟩ := hrel
    have HPX := HP0
    have HBX := HB0
    by_cases h1 : j < len
    case pos =>
      have p1 : (j : Int) < (len : Int) := by omega
      have hf := HR.out wr HB0.out
      have cj := hf.hname j h1
      have HAN := vl (any_at (L := L) (t := j) j0 (by rw [HLn.out]; exact h1))
      obtain ⟨n, hn⟩ : ∃ n, n = (L.getD j fnone).1 := ⟨_, rfl⟩
      have HNn := vl hn
      rw [← hn] at cj HAN
      clear hf hn
      by_cases e1 : n.toList = []
      · have e2 : (n.toList == []) = true := by simpa using e1
        have e3 : (n.toList != []) = false := by simpa using e1
        have HNo2 : Vl (∀ t, 1 ≤ t → t < j + 1 → psdL (unums (L.getD t fnone).1) = false) := vl (fun t h1 h2 => by
          by_cases e : t = j
          · subst e; rw [← HNn.out]; exact rpsd_nil e1
          · exact HNo.out t h1 (by omega))
        go_wp2
        go_roundw
        case rel => exact ⟨j + 1, by go_num, by omega, by omega, HNo2, by trivial⟩
        case measure => first | (simp [intOf]; done) | (simp [intOf]; omega)
      have e2 : (n.toList == []) = false := by simpa using e1
      have e3 : (n.toList != []) = true := by simpa using e1
      have hsz := nil_size e1
      have hsz' : (0 : Int) < (n.size : Int) := by omega
      have ix := unums_at n 0 hsz
      have HPG := vl (psd_get e1)
      by_cases c1 : (unums n).getD 0 0 = 58
      · rw [c1] at ix
        have HY : Vl (replyW (fdsOf L) B = (3, default)) := vl (by
          rw [HF1.out]
          unfold replyW
          simp only []
          rw [if_pos (Or.inr (HAN.out (by rw [HPG.out, c1]; rfl)))])
        clear c1
        have HZ := vl (fun w' hb => rreply_bad (w' := w') (w := w) (L := L) (B := B) HY.out hb)
        go_wp2_with (refine wpList_rpstore _ rfl _ _ rfl w.heap.size 0 0 (.slice none 0 0) (.slice none 0 0) (.slice none 0 0) (.slice none 0 0) rfl rfl HPX.out rfl rfl ?_)
        intro w8 hR hg8
        have HB8 : Vl (Below w.heap.size w w8) := vl (below_grown HBX.out hg8 HBX.out.size (fun k hk => by cases hk; exact Nat.le_refl _))
        obtain ⟨z0, z1, z2⟩ := hR.cells
        clear hR hg8
        go_wp2_with fail
        refine bodyPost_ret (v := .tuple #[.agg #[.int .i64 0, .slice none 0 0, .slice none 0 0], .int .i64 3]) (by simp [results, Tryz.results17, go_sem, z0, z1, z2]; try rfl) rfl ?_
        exact HZ.out _ HB8.out
      · have HNo2 : Vl (∀ t, 1 ≤ t → t < j + 1 → psdL (unums (L.getD t fnone).1) = false) := vl (fun t h1 h2 => by
          by_cases e : t = j
          · subst e; rw [← HNn.out, HPG.out]; exact decide_eq_false c1
          · exact HNo.out t h1 (by omega))
        clear HPG
        generalize (unums n).getD 0 0 = c0 at *
        have c2 : (c0 == 58) = false := by simpa using c1
        go_wp2
        go_roundw
        case rel => exact ⟨j + 1, by go_num, by omega, by omega, HNo2, by trivial⟩
        case measure => first | (simp [intOf]; done) | (simp [intOf]; omega)
    have p1 : ¬ ((j : Int) < (len : Int)) := by omega
    obtain rfl : j = len := by omega
    have HANo : Vl ((fdsOf (L.drop 1)).any (fun g => psdL g.1) = false) := vl (any_no (fun t h1 h2 => HNo.out t h1 (by rw [HLn.out] at h2; exact h2)))
    have HRN : Vl (code3 (unums v0) = none → replyW (fdsOf L) B = (2, default)) := vl (fun h => by
      rw [HF1.out]
      unfold replyW
      simp only []
      rw [if_neg (by rw [HANo.out, HCE.out]; simp)]
      simp only [h])
    have HRS : Vl (∀ c, code3 (unums v0) = some c → replyW (fdsOf L) B = if tellE ⟨c, (fdsOf (L.drop 1)).filter fun g => !decide (g.1 = lengthN), B⟩ 0 = 0 then (0, ⟨c, (fdsOf (L.drop 1)).filter fun g => !decide (g.1 = lengthN), B⟩) else (tellE ⟨c, (fdsOf (L.drop 1)).filter fun g => !decide (g.1 = lengthN), B⟩ 0, default)) := vl (fun c h => by
      rw [HF1.out]
      unfold replyW
      simp only []
      rw [if_neg (by rw [HANo.out, HCE.out]; simp)]
      simp only [h])
    clear h1 hj HNo
    obtain ⟨wB, hwB⟩ : ∃ wB, wB = wr := ⟨_, rfl⟩
    subst hwB
    by_cases v3 : v0.size = 3
    case neg =>
      have v3' : ¬ (v0.size : Int) = 3 := by omega
      have v4 : ((v0.size : Int) != 3) = true := by simpa using v3'
      have HY : Vl (replyW (fdsOf L) B = (2, default)) := vl (by
        refine HRN.out ?_
        have hl := unums_len v0
        unfold code3
        split
        · rename_i e
          rw [e] at hl
          exact absurd hl.symm v3
        · rfl)
      have HZ := vl (fun w' hb => rreply_bad (w' := w') (w := w) (L := L) (B := B) HY.out hb)
      go_wp2_with (refine wpList_rpstore _ rfl _ _ rfl w.heap.size 0 0 (.slice none 0 0) (.slice none 0 0) (.slice none 0 0) (.slice none 0 0) rfl rfl HPX.out rfl rfl ?_)
      intro w8 hR hg8
      have HB8 : Vl (Below w.heap.size w w8) := vl (below_grown HBX.out hg8 HBX.out.size (fun k hk => by cases hk; exact Nat.le_refl _))
      obtain ⟨z0, z1, z2⟩ := hR.cells
      clear hR hg8
      go_wp2_with fail
      refine bodyPost_ret (v := .tuple #[.agg #[.int .i64 0, .slice none 0 0, .slice none 0 0], .int .i64 2]) (by simp [results, Tryz.results17, go_sem, z0, z1, z2]; try rfl) rfl ?_
      exact HZ.out _ HB8.out
    have v3' : (v0.size : Int) = 3 := by omega
    obtain ⟨ca, cb, cc, hu⟩ : ∃ a b c, unums v0 = [a, b, c] := by
      have hl := unums_len v0
      rw [v3] at hl
      match hv : unums v0, hl with
      | [a, b, c], _ => exact ⟨a, b, c, rfl⟩
    have i0 := unums_at v0 0 (by omega)
    have i1 := unums_at v0 1 (by omega)
    have i2 := unums_at v0 2 (by omega)
    rw [hu] at i0 i1 i2
    simp only [List.getD_cons_zero, List.getD_cons_succ] at i0 i1 i2
    have q0 : 0 ≤ ca ∧ ca < 256 := by
      have := i0 (by omega)
      have h2 := (v0[0]'(by omega)).toNat_lt
      omega
    have q1 : 0 ≤ cb ∧ cb < 256 := by
      have := i1 (by omega)
      have h2 := (v0[1]'(by omega)).toNat_lt
      omega
    have q2 : 0 ≤ cc ∧ cc < 256 := by
      have := i2 (by omega)
      have h2 := (v0[2]'(by omega)).toNat_lt
      omega
    rw [hu] at HRN HRS
    clear hu v3
    have HNC : Vl (¬ (49 ≤ ca ∧ ca ≤ 53 ∧ 48 ≤ cb ∧ cb ≤ 57 ∧ 48 ≤ cc ∧ cc ≤ 57) → replyW (fdsOf L) B = (2, default)) := vl (fun h => by
      refine HRN.out ?_
      unfold code3
      simp only []
      rw [if_neg h])
    by_cases t0 : ca < 49
    · have HY := vl (HNC.out (by omega))
      have HZ := vl (fun w' hb => rreply_bad (w' := w') (w := w) (L := L) (B := B) HY.out hb)
      go_wp2_with (refine wpList_rpstore _ rfl _ _ rfl w.heap.size 0 0 (.slice none 0 0) (.slice none 0 0) (.slice none 0 0) (.slice none 0 0) rfl rfl HPX.out rfl rfl ?_)
      intro w8 hR hg8
      have HB8 : Vl (Below w.heap.size w w8) := vl (below_grown HBX.out hg8 HBX.out.size (fun k hk => by cases hk; exact Nat.le_refl _))
      obtain ⟨z0, z1, z2⟩ := hR.cells
      clear hR hg8
      go_wp2_with fail
      refine bodyPost_ret (v := .tuple #[.agg #[.int .i64 0, .slice none 0 0, .slice none 0 0], .int .i64 2]) (by simp [results, Tryz.results17, go_sem, z0, z1, z2]; try rfl) rfl ?_
      exact HZ.out _ HB8.out
    by_cases t1 : 53 < ca
    · have HY := vl (HNC.out (by omega))
      have HZ := vl (fun w' hb => rreply_bad (w' := w') (w := w) (L := L) (B := B) HY.out hb)
      go_wp2_with (refine wpList_rpstore _ rfl _ _ rfl w.heap.size 0 0 (.slice none 0 0) (.slice none 0 0) (.slice none 0 0) (.slice none 0 0) rfl rfl HPX.out rfl rfl ?_)
      intro w8 hR hg8
      have HB8 : Vl (Below w.heap.size w w8) := vl (below_grown HBX.out hg8 HBX.out.size (fun k hk => by cases hk; exact Nat.le_refl _))
      obtain ⟨z0, z1, z2⟩ := hR.cells
      clear hR hg8
      go_wp2_with fail
      refine bodyPost_ret (v := .tuple #[.agg #[.int .i64 0, .slice none 0 0, .slice none 0 0], .int .i64 2]) (by simp [results, Tryz.results17, go_sem, z0, z1, z2]; try rfl) rfl ?_
      exact HZ.out _ HB8.out
    by_cases t2 : cb < 48
    · have HY := vl (HNC.out (by omega))
      have HZ := vl (fun w' hb => rreply_bad (w' := w') (w := w) (L := L) (B := B) HY.out hb)
      go_wp2_with (refine wpList_rpstore _ rfl _ _ rfl w.heap.size 0 0 (.slice none 0 0) (.slice none 0 0) (.slice none 0 0) (.slice none 0 0) rfl rfl HPX.out rfl rfl ?_)
      intro w8 hR hg8
      have HB8 : Vl (Below w.heap.size w w8) := vl (below_grown HBX.out hg8 HBX.out.size (fun k hk => by cases hk; exact Nat.le_refl _))
      obtain ⟨z0, z1, z2⟩ := hR.cells
      clear hR hg8
      go_wp2_with fail
      refine bodyPost_ret (v := .tuple #[.agg #[.int .i64 0, .slice none 0 0, .slice none 0 0], .int .i64 2]) (by simp [results, Tryz.results17, go_sem, z0, z1, z2]; try rfl) rfl ?_
      exact HZ.out _ HB8.out
    by_cases t3 : 57 < cb
    · have HY := vl (HNC.out (by omega))
      have HZ := vl (fun w' hb => rreply_bad (w' := w') (w := w) (L := L) (B := B) HY.out hb)
      go_wp2_with (refine wpList_rpstore _ rfl _ _ rfl w.heap.size 0 0 (.slice none 0 0) (.slice none 0 0) (.slice none 0 0) (.slice none 0 0) rfl rfl HPX.out rfl rfl ?_)
      intro w8 hR hg8
      have HB8 : Vl (Below w.heap.size w w8) := vl (below_grown HBX.out hg8 HBX.out.size (fun k hk => by cases hk; exact Nat.le_refl _))
      obtain ⟨z0, z1, z2⟩ := hR.cells
      clear hR hg8
      go_wp2_with fail
      refine bodyPost_ret (v := .tuple #[.agg #[.int .i64 0, .slice none 0 0, .slice none 0 0], .int .i64 2]) (by simp [results, Tryz.results17, go_sem, z0, z1, z2]; try rfl) rfl ?_
      exact HZ.out _ HB8.out
    by_cases t4 : cc < 48
    · have HY := vl (HNC.out (by omega))
      have HZ := vl (fun w' hb => rreply_bad (w' := w') (w := w) (L := L) (B := B) HY.out hb)
      go_wp2_with (refine wpList_rpstore _ rfl _ _ rfl w.heap.size 0 0 (.slice none 0 0) (.slice none 0 0) (.slice none 0 0) (.slice none 0 0) rfl rfl HPX.out rfl rfl ?_)
      intro w8 hR hg8
      have HB8 : Vl (Below w.heap.size w w8) := vl (below_grown HBX.out hg8 HBX.out.size (fun k hk => by cases hk; exact Nat.le_refl _))
      obtain ⟨z0, z1, z2⟩ := hR.cells
      clear hR hg8
      go_wp2_with fail
      refine bodyPost_ret (v := .tuple #[.agg #[.int .i64 0, .slice none 0 0, .slice none 0 0], .int .i64 2]) (by simp [results, Tryz.results17, go_sem, z0, z1, z2]; try rfl) rfl ?_
      exact HZ.out _ HB8.out
    by_cases t5 : 57 < cc
    · have HY := vl (HNC.out (by omega))
      have HZ := vl (fun w' hb => rreply_bad (w' := w') (w := w) (L := L) (B := B) HY.out hb)
      go_wp2_with (refine wpList_rpstore _ rfl _ _ rfl w.heap.size 0 0 (.slice none 0 0) (.slice none 0 0) (.slice none 0 0) (.slice none 0 0) rfl rfl HPX.out rfl rfl ?_)
      intro w8 hR hg8
      have HB8 : Vl (Below w.heap.size w w8) := vl (below_grown HBX.out hg8 HBX.out.size (fun k hk => by cases hk; exact Nat.le_refl _))
      obtain ⟨z0, z1, z2⟩ := hR.cells
      clear hR hg8
      go_wp2_with fail
      refine bodyPost_ret (v := .tuple #[.agg #[.int .i64 0, .slice none 0 0, .slice none 0 0], .int .i64 2]) (by simp [results, Tryz.results17, go_sem, z0, z1, z2]; try rfl) rfl ?_
      exact HZ.out _ HB8.out
    obtain ⟨cd, hcd⟩ : ∃ cd, cd = (ca - 48) * 100 + (cb - 48) * 10 + cc - 48 := ⟨_, rfl⟩
    have HRC : Vl (replyW (fdsOf L) B = if tellE ⟨cd, (fdsOf (L.drop 1)).filter fun g => !decide (g.1 = lengthN), B⟩ 0 = 0 then (0, ⟨cd, (fdsOf (L.drop 1)).filter fun g => !decide (g.1 = lengthN), B⟩) else (tellE ⟨cd, (fdsOf (L.drop 1)).filter fun g => !decide (g.1 = lengthN), B⟩ 0, default)) := vl (by
      refine HRS.out cd ?_
      unfold code3
      simp only []
      rw [if_pos (by omega), hcd]
      congr 1
      omega)
    have HCD : Vl (100 ≤ cd ∧ cd ≤ 599) := vl (by omega)
    clear HNC HRN HRS
    obtain ⟨W1, hW1⟩ : ∃ x, x = wB.alloc (.cells #[.int .i64 0, .slice none 0 0, .slice none 0 0] 27) := ⟨_, rfl⟩
    have HP1 : Vl (RPB W1 wB.heap.size 0 (.slice none 0 0) (.slice none 0 0)) := vl (by rw [hW1]; exact heap_alloc_new wB _)
    have HB1 : Vl (Below wB.heap.size wB W1) := vl (by rw [hW1]; exact (Below.refl _ wB).alloc (Nat.le_refl _) _)
    obtain ⟨x0, x1, x2⟩ := HP1.out.cells
    have y0 := HP1.out.frozen 0
    have y2 := HP1.out.frozen 2
    have hcdw : IntKind.i64.wrap cd = cd := IntWalk.i64_in _ ⟨by have := HCD.out; omega, by have := HCD.out; omega⟩
    go_wp2_with fail
    rw [← hW1]
    clear hW1
    go_region
    go_wp2_with fail
    rw [← hcd]
    obtain ⟨W3, hW3⟩ : ∃ W3, W3 = ((W1.setCell ⟨wB.heap.size, 0, none⟩ (.int .i64 cd)).setCell ⟨wB.heap.size, 2, none⟩ (.slice ba bn bc)).drew := ⟨_, rfl⟩
    have HP3 : Vl (RPB W3 wB.heap.size cd (.slice none 0 0) (.slice ba bn bc)) := vl (by rw [hW3]; exact HP1.out.set02 cd _)
    have HB3 : Vl (Below wB.heap.size wB W3) := vl (by rw [hW3]; exact ((HB1.out.setCell (Nat.le_refl _) _).setCell (Nat.le_refl _) _).drew)
    rw [← hW3]
    clear hW3 hcd x0 x1 x2 y0 y2 i0 i1 i2 q0 q1 q2 hcdw t0 t1 t2 t3 t4 t5
    have HR3 : Vl (wB.heap.size < W3.heap.size) := vl HP3.out.lt
    go_loopw [9] (fun i wr => ∃ (m : Nat) (fv : Value) (GL : List (ByteArray × ByteArray)), i = .int .i64 m ∧ 1 ≤ m ∧ m ≤ j ∧ GL.length ≤ m ∧ Vl (RPB wr wB.heap.size cd fv (.slice ba bn bc)) ∧ Vl (FOwn wr W3.heap.size fv GL) ∧ Vl (fdsOf GL = (fdsOf ((L.take m).drop 1)).filter fun g => !decide (g.1 = lengthN)) ∧ Vl (∀ p ∈ GL, p.1.size ≤ 140737488351232 ∧ p.2.size ≤ 140737488351232) ∧ Vl (Below wB.heap.size wB wr) ∧ Vl (W3.heap.size ≤ wr.heap.size)) (fun i _ => j - (intOf i).toNat)
    case atStart => exact ⟨1, _, [], rfl, Nat.le_refl _, hpos, Nat.zero_le _, HP3, vl (fown_nil _ _), vl (by
      rw [List.drop_eq_nil_of_le (by rw [List.length_take]; omega)]
      rfl), vl (fun p hp => by cases hp), HB3, vl (Nat.le_refl _)⟩
    case round =>
      obtain ⟨m, fv, GL, rfl, m0, hm, hGL, HP, HO, HE, HZ, HBr, HSr⟩ := hrel
      clear HP3 HB3
      have HBW := vl (HB0.out.trans (HBr.out.mono HB0.out.size))
      obtain ⟨x0, x1, x2⟩ := HP.out.cells
      by_cases h1 : m < j
      case pos =>
        have p2 : (m : Int) < (j : Int) := by omega
        have hf := HR.out wr HBW.out
        have cn2 := hf.hname m h1
        have cv2 := hf.hvalue m h1
        have hsm := HS.out m
        have HSN := vl (len_snoc L m m0 (by rw [HLn.out]; exact h1))
        obtain ⟨n, hn⟩ : ∃ n, n = (L.getD m fnone).1 := ⟨_, rfl⟩
        obtain ⟨v, hv⟩ : ∃ v, v = (L.getD m fnone).2 := ⟨_, rfl⟩
        rw [← hn] at cn2 HSN hsm
        rw [← hv] at cv2 HSN hsm
        have HSM := vl hsm
        clear hf hn hv hsm
        by_cases hln : n.toList = [108, 101, 110, 103, 116, 104]
        · have e3 : (n.toList != [108, 101, 110, 103, 116, 104]) = false := by simpa using hln
          have HE2 : Vl (fdsOf GL = (fdsOf ((L.take (m + 1)).drop 1)).filter fun g => !decide (g.1 = lengthN)) := vl (by
            rw [HSN.out, if_pos (toL_length.1 hln), List.append_nil]
            exact HE.out)
          go_wp2
          go_roundw
          case rel => exact ⟨m + 1, fv, GL, by go_num, by omega, by omega, by omega, HP, HO, HE2, HZ, HBr, HSr⟩
          case measure => first | (simp [intOf]; done) | (simp [intOf]; omega)
        have e3 : (n.toList != [108, 101, 110, 103, 116, 104]) = true := by simpa using hln
        have e4 : (n.toList == [108, 101, 110, 103, 116, 104]) = false := by simpa using hln
        have HE2 : Vl (fdsOf (GL ++ [(n, v)]) = (fdsOf ((L.take (m + 1)).drop 1)).filter fun g => !decide (g.1 = lengthN)) := vl (by
          rw [HSN.out, if_neg (fun e => hln (toL_length.2 e)), fds_app, HE.out]
          rfl)
        have HZ2 : Vl (∀ p ∈ GL ++ [(n, v)], p.1.size ≤ 140737488351232 ∧ p.2.size ≤ 140737488351232) := vl (fun p hp => by
          rcases List.mem_append.1 hp with hp | hp
          · exact HZ.out p hp
          · rw [List.mem_singleton.1 hp]; exact HSM.out)
        have hbA : Below wr.heap.size wr (wr.drew.alloc (.cells #[.string n, .string v] 51)) := ((Below.refl _ _).drew).alloc (Nat.le_refl _) _
        have HWD : Vl (FOwn (wr.drew.alloc (.cells #[.string n, .string v] 51)) W3.heap.size fv GL) := vl (fown_below HO.out hbA)
        have HWH : Vl ((wr.drew.alloc (.cells #[.string n, .string v] 51)).heap[wr.heap.size]? = some (.cells #[.string n, .string v] 51 (0, 0))) := vl (heap_alloc_new wr.drew _)
        have HWS : Vl (W3.heap.size ≤ (wr.drew.alloc (.cells #[.string n, .string v] 51)).heap.size) := vl (Nat.le_trans HSr.out hbA.size)
        have HPA := vl (HP.out.on hbA)
        have HBA := vl (HBr.out.trans (hbA.mono HBr.out.size))
        have LL : Vl (GL.length < 4398046511104) := vl (by omega)
        have HK5 : Vl (∀ w5, (wr.drew.alloc (.cells #[.string n, .string v] 51)).grownBy w5 fv.ownBlock → RPB w5 wB.heap.size cd fv (.slice ba bn bc)) := vl (fun w5 hg => (hg.block _ HPA.out.lt (fun e => by have h1 := (HWD.out.lt _ e.symm).1; have h2 := HR3.out; omega)).trans HPA.out)
        have hRl : wB.heap.size < wr.heap.size := HP.out.lt
        clear hbA
        go_wp2_with fail
        go_region_law (refine step_fappS _ rfl (.tmp 114) (.tmp 119) rfl W3.heap.size fv GL n v (by simp [Act.eval]) HWD.out wr.heap.size (by simp [Act.eval]) HWH.out LL.out HWS.out ?_; intro lg lc w5 ho5 hg5; have k1 := (HK5.out w5 hg5).cells.2.1; have z1 := (HK5.out w5 hg5).frozen 1)
        all_goals
          have HP6 := vl ((HK5.out w5 hg5).set1 (.slice (some ⟨lg, 0, none⟩) (GL.length + 1) lc))
          have HO6 := vl (fown_set (y := wB.heap.size) (i := 1) (u := (.slice (some ⟨lg, 0, none⟩) (GL.length + 1) lc)) ho5 HR3.out)
          have HB6 : Vl (Below wB.heap.size wB (w5.setCell ⟨wB.heap.size, 1, none⟩ (.slice (some ⟨lg, 0, none⟩) (GL.length + 1) lc))) := vl ((below_grown HBA.out hg5 HBA.out.size (fun k hk => by have h1 := (HWD.out.lt k hk).1; have h2 := HR3.out; omega)).setCell (Nat.le_refl _) _)
          have HS6 : Vl (W3.heap.size ≤ (w5.setCell ⟨wB.heap.size, 1, none⟩ (.slice (some ⟨lg, 0, none⟩) (GL.length + 1) lc)).heap.size) := vl (by
            have h3 : (w5.setCell ⟨wB.heap.size, 1, none⟩ (.slice (some ⟨lg, 0, none⟩) (GL.length + 1) lc)).heap.size = w5.heap.size := by unfold World.setCell; simp
            rw [h3]
            exact Nat.le_trans HWS.out hg5.size)
          clear ho5 hg5
          go_simp
          go_wp2
          go_roundw
          case rel => exact ⟨m + 1, (.slice (some ⟨lg, 0, none⟩) (GL.length + 1) lc), GL ++ [(n, v)], by go_num, by omega, by omega, by simp; omega, HP6, HO6, HE2, HZ2, HB6, HS6⟩
          case measure => first | (simp [intOf]; done) | (simp [intOf]; omega)
      have p2 : ¬ ((m : Int) < (j : Int)) := by omega
      obtain rfl : m = j := by omega
      have HEF : Vl (fdsOf GL = (fdsOf (L.drop 1)).filter fun g => !decide (g.1 = lengthN)) := vl (by
        have := HE.out
        rw [show L.take m = L from List.take_of_length_le (by rw [HLn.out]; exact Nat.le_refl _)] at this
        exact this)
      obtain ⟨fa, fc, hfv⟩ := fown_shape HO.out
      subst hfv
      rw [← HEF.out] at HRC
      have hgl : GL.length ≤ 1048576 := by omega
      have HIN : Vl (RpIn wr ⟨cd, fa, GL.length, fc, ba, bn, bc, GL, B⟩) := vl ⟨show I64 cd by have := HCD.out; unfold I64; omega, (nfrow_of HO.out).2, HBB.out.below HBW.out, HNI.out, ⟨by show GL.length ≤ _; omega, hbn⟩, each_of HZ.out⟩
      have HTE := vl (rtell_any ⟨cd, fa, GL.length, fc, ba, bn, bc, GL, B⟩ 0 wr HIN.out)
      obtain ⟨te, hte⟩ : ∃ x, tellE ⟨cd, fdsOf GL, B⟩ 0 = x := ⟨_, rfl⟩
      have HTE' : Vl (Calls Tryz.prog 53 #[.agg #[.int .i64 cd, .slice fa GL.length fc, .slice ba bn bc], .int .i64 0] wr fun e w' => e = .returned (.int .i64 te) ∧ Below wr.heap.size wr w') := vl (by rw [← hte]; exact HTE.out)
      rw [hte] at HRC
      have HFN : Vl (∀ g off, fa = some ⟨g, off, none⟩ → g ≠ w.heap.size) := vl (fun g off e => by
        have h1 := (HO.out.lt g (by rw [e]; rfl)).1
        have h2 := HR3.out
        have h3 := HS0.out
        omega)
      have HFA := vl (nfrow_of HO.out).2
      clear HTE hte hm h1 HE HEF
      go_wp2_with fail
      refine HTE'.out.mono ?_
      rintro e w7 ⟨rfl, hb7⟩
      have HBX := vl (HBW.out.trans (hb7.mono HBW.out.size))
      have HPX := vl (HP0.out.on (HBr.out.trans (hb7.mono HBr.out.size)))
      have HQ7 := vl (HP.out.on hb7)
      have HFA7 := vl (HFA.out.below hb7)
      clear HTE' hb7 x0 x1 x2
      by_cases ht0 : te = 0
      case neg =>
        rw [if_neg ht0] at HRC
        have ht1 : (te != 0) = true := by simpa using ht0
        have HZ := vl (fun w' hb => rreply_bad (w' := w') (w := w) (L := L) (B := B) HRC.out hb)
        go_wp2_with (refine wpList_rpstore _ rfl _ _ rfl w.heap.size 0 0 (.slice none 0 0) (.slice none 0 0) (.slice none 0 0) (.slice none 0 0) rfl rfl HPX.out rfl rfl ?_)
        intro w8 hR hg8
        have HB8 : Vl (Below w.heap.size w w8) := vl (below_grown HBX.out hg8 HBX.out.size (fun k hk => by cases hk; exact Nat.le_refl _))
        obtain ⟨z0, z1, z2⟩ := hR.cells
        clear hR hg8
        go_wp2_with fail
        refine bodyPost_ret (v := .tuple #[.agg #[.int .i64 0, .slice none 0 0, .slice none 0 0], .int .i64 te]) (by simp [results, Tryz.results17, go_sem, z0, z1, z2]; try rfl) rfl ?_
        exact HZ.out _ HB8.out
      subst ht0
      rw [if_pos rfl] at HRC
      obtain ⟨y0, y1, y2⟩ := HQ7.out.cells
      go_wp2_with (refine wpList_rpstore _ rfl _ _ rfl w.heap.size _ cd _ _ (.slice fa GL.length fc) (.slice ba bn bc) rfl rfl HPX.out rfl rfl ?_)
      intro w8 hR hg8
      have HB8 : Vl (Below w.heap.size w w8) := vl (below_grown HBX.out hg8 HBX.out.size (fun k hk => by cases hk; exact Nat.le_refl _))
      obtain ⟨z0, z1, z2⟩ := hR.cells
      have HIN8 : Vl (RpIn w8 ⟨cd, fa, GL.length, fc, ba, bn, bc, GL, B⟩) := vl ⟨HIN.out.code, farg_grown HFA7.out hg8 HFN.out, HBB.out.below HB8.out, HIN.out.nil, HIN.out.most, HIN.out.each⟩
      clear hR hg8
      go_wp2_with fail
      refine bodyPost_ret (v := .tuple #[.agg #[.int .i64 cd, .slice fa GL.length fc, .slice ba bn bc], .int .i64 0]) (by simp [results, Tryz.results17, go_sem, z0, z1, z2]; try rfl) rfl ?_
      unfold RReplyE
      rw [HRC.out]
      exact ⟨⟨cd, fa, GL.length, fc, ba, bn, bc, GL, B⟩, rfl, HIN8.out, rfl, HB8.out⟩
end Go.Proofs.YtglmppadhlkkgagGreatDoor
