/-
  CONTRACT of the method readSpelled of head.Coder. No claim by itself.
-/
import Derived.Test.YtkjfhgoddhigmacDoorM32
namespace Go.Proofs.YtkjfhgoddhigmacDoor
open Go.RowKit
set_option maxRecDepth 100000
set_option maxHeartbeats 4000000 in
theorem hspell_any (cb : Nat) (st : CSt) (S : Nat → Prop) (a : Option Addr) (len cap : Nat) (Z : List Int) (b : Int) (w : World) (hC : HCod w cb st S) (hF : HFit st) (hbad : st.bad = false) (hA : Arg w a len cap Z) (hb1 : 1 ≤ b) (hb2 : b ≤ 8) (hlm : len ≤ 140737488351232) :
    Calls Tryd.prog 38 #[.pointer (some ⟨cb, 0, none⟩), .slice a len cap, .int .i64 b] w fun e w' => FldTold (litF st.AI Z b) e ∧ Below w.heap.size w w' := by
  obtain ⟨w0, hw0⟩ : ∃ w0, w0 = w.alloc (.cells #[.string ⟨#[]⟩, .string ⟨#[]⟩] 33) := ⟨_, rfl⟩
  have hb0 : Below w.heap.size w w0 := by rw [hw0]; exact (Below.refl _ _).alloc (Nat.le_refl _) _
  have hsz0 : w.heap.size + 1 ≤ w0.heap.size := by rw [hw0]; simp
  have hbx : w0.heap[w.heap.size]? = some (.cells #[.string ⟨#[]⟩, .string ⟨#[]⟩] 33 (0, 0)) := by rw [hw0]; exact Array.getElem?_push_size
  have hnm := hname_any cb st S a len cap Z b w0 (hC.below hb0) hF hbad (hA.below hb0) hb1 hb2 hlm
  have hbd := nm_bd st.AI Z b hb1 hb2
  have HL := hide (lit_nm st.AI Z b hb1 hb2)
  have HBX := hide hbx
  have HA : Hid (∀ wx, Below w.heap.size w wx → Arg wx a len cap Z) := fun wx hb => hA.below hb
  have hZl : Z.length = len := by
    rcases hA with ⟨rfl, rfl⟩ | ⟨_, _, _, hr⟩
    · rfl
    · exact hr.hlen
  rw [hZl] at hbd
  have HZ := hide hZl
  generalize litF st.AI Z b = R at *
  generalize nmF st.AI Z b = M at *
  obtain ⟨nm, mu, mk⟩ := M
  simp only at hbd
  clear hC hF hA hbx hZl
  go_enter Tryd.func38, Tryd.ntmps38
  go_wp2_with fail
  rw [← hw0]
  clear hw0
  refine hnm.mono ?_
  rintro e w1 ⟨⟨x, rfl, hx⟩, hbe1⟩
  have hB1 := hb0.trans (hbe1.mono (by omega))
  have hs1 := hbe1.size
  have h1x : w1.heap[w.heap.size]? = some (.cells #[.string ⟨#[]⟩, .string ⟨#[]⟩] 33 (0, 0)) := (hbe1.block _ (by omega)).trans HBX.out
  have HX := hide hx
  clear hnm hx
  simp only
  by_cases hk : mk = 0
  · subst hk
    have hxn : x = .nilIface := by
      rcases HX.out with h | h
      · exact h.2
      · exact absurd rfl h.1
    subst hxn
    obtain ⟨m1, m2⟩ := hbd rfl
    obtain ⟨u, rfl⟩ := Int.eq_ofNat_of_zero_le (show 0 ≤ mu by omega)
    rcases HA.out w1 hB1 with ⟨h0, _⟩ | ⟨g, off, rfl, hr⟩
    · omega
    have HE : Hid (R = litV Z nm u) := by
      show R = _
      rw [HL.out, if_neg (by simp)]; simp
    have hcap := hr.hcap
    have hmx := hr.hmax
    unfold maxLen at hmx
    obtain ⟨o, ho, hrow⟩ := tail_row hr u (by omega)
    have hrd := hread_any (some ⟨g, o, none⟩) (len - u) (cap - u) (Z.drop u) w1 (Or.inr ⟨g, o, rfl, hrow⟩) (by omega)
    have b1 : (0 : Int) ≤ (u : Int) := by omega
    have b2 : (u : Int) ≤ (len : Int) := by omega
    have b3 : (u : Int) ≤ (cap : Int) := by omega
    have HRB := hide (rtF_bd (Z.drop u))
    have HV : Hid (litV Z nm u = if (rtF (Z.drop u)).2.2 ≠ 0 then (fnone, 0, (rtF (Z.drop u)).2.2) else ((nm, strOfNums (rtF (Z.drop u)).1), (u : Int) + (rtF (Z.drop u)).2.1, 0)) := rfl
    have HLD : Hid ((Z.drop u).length ≤ len) := by show (Z.drop u).length ≤ len; rw [List.length_drop, HZ.out]; omega
    clear hr hrow HL HX hbd
    go_wp2_with fail
    refine hrd.mono ?_
    rintro e w2 ⟨⟨x2, rfl, hx2⟩, hbe2⟩
    have hB2 := hB1.trans (hbe2.mono hB1.size)
    have h2x : w2.heap[w.heap.size]? = some (.cells #[.string ⟨#[]⟩, .string ⟨#[]⟩] 33 (0, 0)) := (hbe2.block _ (by omega)).trans h1x
    obtain ⟨⟨q0, q1, f0, f1⟩, qa, qb⟩ := box_rules h2x
    have qa0 := fun a => (qa a).1
    have qa1 := fun a => (qa a).2
    have qc := fun a b => (box_at (qb a b)).1
    have qd := fun a b => (box_at (qb a b)).2
    have HX2 := hide hx2
    clear hrd hx2 qa qb h1x h2x
    generalize rtF (Z.drop u) = T at *
    obtain ⟨t1, t2, t3⟩ := T
    simp only
    simp only at HRB HX2 HV
    by_cases ht : t3 = 0
    · subst ht
      have hrb := HRB.out rfl
      have hld := HLD.out
      have hxn : x2 = .nilIface := by
        rcases HX2.out with h | h
        · exact h.2
        · exact absurd rfl h.1
      subst hxn
      have HE2 : Hid (R = ((nm, strOfNums t1), (u : Int) + t2, 0)) := by
        show R = _
        rw [HE.out, HV.out, if_neg (by simp)]
      have t2a : 0 ≤ t2 := by omega
      have t2b : t2 ≤ 140737488351232 := by omega
      clear hrb hld
      go_wp2
      (try simp only [Exit.inBlock, Exit.then])
      refine bodyPost_ret (by simp [results, Tryd.results38, go_sem, qc, qd]; try rfl) rfl ?_
      refine ⟨fld_told HE2.out (Or.inl ⟨rfl, rfl⟩), ?_⟩
      repeat (first | exact hB2 | refine Below.setCell ?_ (by simp) _)
    · have hxn : x2 = .iface 49 (.int .i64 t3) := by
        rcases HX2.out with h | h
        · exact absurd h.1 ht
        · exact h.2
      subst hxn
      have HE2 : Hid (R = ((⟨#[]⟩, ⟨#[]⟩), 0, t3)) := by
        show R = _
        rw [HE.out, HV.out, if_pos ht]; rfl
      go_wp2
      (try simp only [Exit.inBlock, Exit.then])
      refine bodyPost_ret (by simp [results, Tryd.results38, go_sem, qc, qd]; try rfl) rfl ?_
      refine ⟨fld_told HE2.out (Or.inr ⟨ht, rfl⟩), ?_⟩
      repeat (first | exact hB2 | refine Below.setCell ?_ (by simp) _)
  · have HE : Hid (R = ((⟨#[]⟩, ⟨#[]⟩), 0, mk)) := by
      show R = _
      rw [HL.out, if_pos hk]; rfl
    have hxn : x = .iface 49 (.int .i64 mk) := by
      rcases HX.out with h | h
      · exact absurd h.1 hk
      · exact h.2
    subst hxn
    obtain ⟨⟨q0, q1, f0, f1⟩, qa, qb⟩ := box_rules h1x
    have qa0 := fun a => (qa a).1
    have qa1 := fun a => (qa a).2
    have qc := fun a b => (box_at (qb a b)).1
    have qd := fun a b => (box_at (qb a b)).2
    clear hbd HX qa qb h1x
    go_wp2
    (try simp only [Exit.inBlock, Exit.then])
    refine bodyPost_ret (by simp [results, Tryd.results38, go_sem, qc, qd]; try rfl) rfl ?_
    refine ⟨fld_told HE.out (Or.inr ⟨hk, rfl⟩), ?_⟩
    repeat (first | exact hB1 | refine Below.setCell ?_ (by simp) _)
end Go.Proofs.YtkjfhgoddhigmacDoor
/-
  CONTRACTS of the methods readField and readSize of head.Coder. No claim by itself.
-/
namespace Go.Proofs.YtkjfhgoddhigmacDoor
open Go.RowKit
set_option maxRecDepth 100000
/-- A coder that may read: its table; and what becomes of it where that turns. -/
theorem HCod.inn2 {w : World} {cb : Nat} {st : CSt} {S : Nat → Prop} (h : HCod w cb st S) (hb : st.bad = false) : ∃ ti SI, w.cell? ⟨cb, 3, none⟩ = some (.pointer (some ⟨ti, 0, none⟩)) ∧ TabP w ti st.mi st.AI SI ∧ (∀ k, SI k → S k ∧ k ≠ cb) ∧
    ∀ wx w' mi AI SI', Below w.heap.size w wx → Off SI wx w' → TabP w' ti mi AI SI' → (∀ k, SI' k → SI k ∨ wx.heap.size ≤ k) → HCod w' cb { st with mi := mi, AI := AI } (fun k => S k ∨ SI' k) ∧ Off S w w' ∧ ∀ k, S k ∨ SI' k → S k ∨ w.heap.size ≤ k := by
  obtain ⟨to, SO, vi, hh, hTo, hSo, h1 | ⟨_, ti, SI, rfl, hT, hd⟩⟩ := h.cells
  · rw [hb] at h1; exact absurd h1.1 (by decide)
  · refine ⟨ti, SI, (cell_at hh 3).trans rfl, hT, fun k hk => ⟨(hd k hk).1, (hd k hk).2.1⟩, fun wx w' mi AI SI' hB ho hT' hS' => ?_⟩
    have hcs := h.hlt cb h.hcb
    have hsx := hB.size
    have halp := h.alw.pos
    have hk : ∀ k, k < w.heap.size → ¬ SI k → w'.heap[k]? = w.heap[k]? := fun k hk hn => (ho.block k (by omega) hn).trans (hB.block k hk)
    have hA : w'.heap[0]? = w.heap[0]? := hk _ halp (fun hs => h.hal (hd _ hs).1)
    have hss : w.heap.size ≤ w'.heap.size := Nat.le_trans hsx ho.size
    refine ⟨⟨h.alw.kept hA, Or.inl h.hcb, fun k hk' => ?_, ?_, to, SO, .pointer (some ⟨ti, 0, none⟩), (hk cb hcs (fun hs => (hd cb hs).2.1 rfl)).trans hh, tabKeeps.frame hTo hss (fun k hk' => hk k (tabKeeps.lt hTo k hk') (fun hs => (hd k hs).2.2 hk')) hA, fun k hk' => ⟨Or.inl (hSo k hk').1, (hSo k hk').2⟩, Or.inr ⟨hb, ti, SI', rfl, hT', fun k hk' => ⟨Or.inr hk', ?_, ?_⟩⟩⟩, (Off.of_below hB).trans (ho.mono (fun k hk' => (hd k hk').1)), fun k hk' => ?_⟩
    · rcases hk' with hk' | hk'
      · exact Nat.lt_of_lt_of_le (h.hlt k hk') hss
      · exact tabKeeps.lt hT' k hk'
    · rintro (hk' | hk')
      · exact h.hal hk'
      · exact tab_al hT' hk'
    · rcases hS' k hk' with h1 | h1
      · exact (hd k h1).2.1
      · omega
    · intro hs
      rcases hS' k hk' with h1 | h1
      · exact (hd k h1).2.2 hs
      · have := tabKeeps.lt hTo k hs; omega
    · rcases hk' with hk' | hk'
      · exact Or.inl hk'
      · rcases hS' k hk' with h1 | h1
        · exact Or.inl (hd k h1).1
        · right; omega
/-- What reading a size gives: how many bytes, and the table resized; or a fault. -/
def SzTold (cb : Nat) (st : CSt) (S : Nat → Prop) (n u k : Int) (bh : Bool) (w : World) (e : Ending) (w' : World) : Prop :=
  (k = 0 ∧ n ≤ st.most ∧ bh = false ∧ e = .returned (.tuple #[.int .i64 u, .nilIface]) ∧ Off S w w' ∧ ∃ S', (∀ k, S' k → S k ∨ w.heap.size ≤ k) ∧ HCod w' cb { st with mi := n, AI := st.AI.take (keepN st.AI n st.AI.length) } S') ∨
  (∃ q, q ≠ 0 ∧ q = (if k ≠ 0 then k else if st.most < n then 1 else 6) ∧ ¬ (k = 0 ∧ n ≤ st.most ∧ bh = false) ∧ e = .returned (.tuple #[.int .i64 0, .iface 49 (.int .i64 q)]) ∧ w = w')
set_option maxHeartbeats 4000000 in
theorem hsize_any (cb : Nat) (st : CSt) (S : Nat → Prop) (a : Option Addr) (len cap : Nat) (Z : List Int) (bh : Bool) (w : World) (hC : HCod w cb st S) (hF : HFit st) (hbad : st.bad = false) (hA : Arg w a len cap Z) :
    Calls Tryd.prog 28 #[.pointer (some ⟨cb, 0, none⟩), .slice a len cap, .bool bh] w fun e w' => SzTold cb st S (getF Z 5).1 (getF Z 5).2.1 (getF Z 5).2.2 bh w e w' := by
  obtain ⟨to, SO, vi, hh, _, _, _⟩ := hC.cells
  have c0 : w.cell? ⟨cb, 0, none⟩ = some (.int .i64 st.most) := (cell_at hh 0).trans rfl
  obtain ⟨ti, SI, c3, hT, hS, hturn⟩ := hC.inn2 hbad
  obtain ⟨x, hx, hget⟩ := get_arg a len cap Z 5 w hA (by decide) (by decide)
  have hbd := getF_bd Z 5 (by decide) (by decide)
  have hm1 := hF.hmost.2
  have hrs := tresize ti st.mi st.AI SI (getF Z 5).1 w hT hF.inn
  have HX := hide hx
  have HTU := hide hturn
  generalize (getF Z 5).2.2 = k at *
  generalize (getF Z 5).2.1 = u at *
  generalize (getF Z 5).1 = n at *
  clear hT hC hF hA hturn hx hh hS
  by_cases hk : k = 0
  · subst hk
    have hxn : x = .nilIface := by
      rcases HX.out with h | h
      · exact h.2
      · exact absurd rfl h.1
    subst hxn
    obtain ⟨n0, _, _⟩ := hbd rfl
    by_cases hm : st.most < n
    · have hd : decide (st.most < n) = true := by simpa using hm
      clear hrs HX hbd
      go_enter Tryd.func28, Tryd.ntmps28
      go_wp2_with fail
      refine hget.mono ?_
      rintro e w' ⟨rfl, rfl⟩
      clear hget
      go_wp2
      go_ret2
      exact Or.inr ⟨1, by decide, by rw [if_neg (by simp), if_pos hm], fun h => by omega, rfl, rfl⟩
    · have hd : decide (st.most < n) = false := by simpa using hm
      cases bh
      · clear HX hbd
        go_enter Tryd.func28, Tryd.ntmps28
        go_wp2_with fail
        refine hget.mono ?_
        rintro e w' ⟨rfl, rfl⟩
        clear hget
        go_wp2_with fail
        refine hrs.mono ?_
        rintro e w1 ⟨ho, SI', hS', ⟨h0, h1, rfl, hT1⟩ | ⟨hno, rfl, hT1⟩⟩
        · obtain ⟨q1, q2, q3⟩ := HTU.out w w1 n _ SI' (Below.refl _ _) ho hT1 hS'
          have Q1 := hide q1
          have Q3 := hide q3
          clear hrs q1 q3 hT1 ho hS'
          go_wp2
          go_ret2
          exact Or.inl ⟨rfl, by omega, rfl, rfl, q2, fun k => S k ∨ SI' k, Q3.out, Q1.out⟩
        · exfalso; exact hno ⟨n0, by omega⟩
      · clear hrs HX hbd
        go_enter Tryd.func28, Tryd.ntmps28
        go_wp2_with fail
        refine hget.mono ?_
        rintro e w' ⟨rfl, rfl⟩
        clear hget
        go_wp2
        go_ret2
        exact Or.inr ⟨6, by decide, by rw [if_neg (by simp), if_neg (by omega)], fun h => by simp at h, rfl, rfl⟩
  · have hxn : x = .iface 49 (.int .i64 k) := by
      rcases HX.out with h | h
      · exact absurd h.1 hk
      · exact h.2
    subst hxn
    clear hrs HX hbd
    go_enter Tryd.func28, Tryd.ntmps28
    go_wp2_with fail
    refine hget.mono ?_
    rintro e w' ⟨rfl, rfl⟩
    clear hget
    go_wp2
    go_ret2
    exact Or.inr ⟨k, hk, by rw [if_pos hk], fun h => hk h.1, rfl, rfl⟩
theorem rtF_len (Z : List Int) : (rtF Z).1.length ≤ 400 := by
  unfold rtF
  split
  · simp
  · split
    · simp
    · split
      · simp
      · unfold rtB
        generalize (if 127 < Z.getD 0 0 then decF ((Z.drop (getF Z 7).2.1.toNat).take (getF Z 7).1.toNat) else some ((Z.drop (getF Z 7).2.1.toNat).take (getF Z 7).1.toNat)) = d
        match d with
        | none => simp [rtE]
        | some s =>
          by_cases q1 : 400 < s.length
          · rw [rtE_long _ _ _ q1]; simp
          · by_cases q2 : txtL s = Z.take ((getF Z 7).2.1.toNat + (getF Z 7).1.toNat)
            · rw [rtE_ok _ _ _ (by omega) q2]; show s.length ≤ 400; omega
            · rw [rtE_bad _ _ _ (by omega) q2]; simp
theorem always_small : ∀ f ∈ alwaysL, f.1.size ≤ 4096 := by decide +kernel
theorem name_small {mx : Int} {A : List (ByteArray × ByteArray)} (h : Fit mx A) (i : Nat) : ((alwaysL ++ A).getD i fnone).1.size ≤ 4096 := by
  by_cases hi : i < (alwaysL ++ A).length
  · have hm : (alwaysL ++ A).getD i fnone ∈ alwaysL ++ A := by rw [List.getD, List.getElem?_eq_getElem hi]; exact List.getElem_mem _
    rcases List.mem_append.1 hm with h1 | h1
    · exact always_small _ h1
    · have := h.size _ h1; omega
  · rw [List.getD, List.getElem?_eq_none (by omega)]; decide
theorem litV_small (Z : List Int) (n : ByteArray) (p : Nat) (hn : n.size ≤ 4096) : (litV Z n p).1.1.size + (litV Z n p).1.2.size ≤ 10000 := by
  have h := rtF_len (Z.drop p)
  unfold litV
  split
  · exact (by decide : fnone.1.size + fnone.2.size ≤ 10000)
  · show n.size + (strOfNums (rtF (Z.drop p)).1).size ≤ _
    rw [str_size]; omega
theorem lit_small {mx : Int} (A : List (ByteArray × ByteArray)) (Z : List Int) (b : Int) (h : Fit mx A) : (litF A Z b).2.2 = 0 → (litF A Z b).1.1.size + (litF A Z b).1.2.size ≤ 10000 := by
  intro _
  unfold litF
  split
  · exact (by decide : fnone.1.size + fnone.2.size ≤ 10000)
  · split
    · exact (by decide : fnone.1.size + fnone.2.size ≤ 10000)
    · split
      · exact litV_small _ _ _ (name_small h _)
      · split
        · exact (by decide : fnone.1.size + fnone.2.size ≤ 10000)
        · exact litV_small _ _ _ (by rw [str_size]; have := rtF_len (Z.drop (getF Z b).2.1.toNat); omega)
set_option maxHeartbeats 8000000 in
theorem hfield_any (cb : Nat) (st : CSt) (S : Nat → Prop) (a : Option Addr) (len cap : Nat) (Z : List Int) (w : World) (hC : HCod w cb st S) (hF : HFit st) (hbad : st.bad = false) (hA : Arg w a len cap Z) (hpos : 0 < len) (hlm : len ≤ 140737488351232) :
    Calls Tryd.prog 29 #[.pointer (some ⟨cb, 0, none⟩), .slice a len cap] w fun e w' => FldTold (fldF st.mi st.AI Z).1 e ∧ Off S w w' ∧ ∃ S', (∀ k, S' k → S k ∨ w.heap.size ≤ k) ∧ HCod w' cb { st with AI := (fldF st.mi st.AI Z).2 } S' := by
  obtain ⟨w0, hw0⟩ : ∃ w0, w0 = w.alloc (.cells #[.string ⟨#[]⟩, .string ⟨#[]⟩] 33) := ⟨_, rfl⟩
  have hb0 : Below w.heap.size w w0 := by rw [hw0]; exact (Below.refl _ _).alloc (Nat.le_refl _) _
  have hsz0 : w.heap.size + 1 ≤ w0.heap.size := by rw [hw0]; simp
  have hbx : w0.heap[w.heap.size]? = some (.cells #[.string ⟨#[]⟩, .string ⟨#[]⟩] 33 (0, 0)) := by rw [hw0]; exact Array.getElem?_push_size
  have hcl := hC.hlt cb hC.hcb
  obtain ⟨ti, SI, c3, hT, hS, hturn⟩ := hC.inn2 hbad
  rcases hA with ⟨h0, _⟩ | ⟨g, off, rfl, hr⟩
  · omega
  have hA0 : Arg w0 (some ⟨g, off, none⟩) len cap Z := Or.inr ⟨g, off, rfl, hr.below hb0⟩
  have hcap := hr.hcap
  have hc0 := (hr.below hb0).hcell 0 hpos
  rw [Nat.add_zero] at hc0
  have hz0 := hr.hbyte 0
  have hnum := hnum_any cb st S (some ⟨g, off, none⟩) len cap Z w0 (hC.below hb0) hF hbad hA0
  have hl6 := hspell_any cb st S (some ⟨g, off, none⟩) len cap Z 6 w0 (hC.below hb0) hF hbad hA0 (by decide) (by decide) hlm
  have hl4 := hspell_any cb st S (some ⟨g, off, none⟩) len cap Z 4 w0 (hC.below hb0) hF hbad hA0 (by decide) (by decide) hlm
  have HF : Hid (fldF st.mi st.AI Z = if 127 < Z.getD 0 0 then (numF st.AI Z, st.AI) else if 63 < Z.getD 0 0 then (litF st.AI Z 6, if (litF st.AI Z 6).2.2 = 0 then (addL st.AI (litF st.AI Z 6).1 st.mi).2 else st.AI) else (litF st.AI Z 4, st.AI)) := rfl
  have HC := hide hC
  have HFI := hide hF
  have HT := hide hT
  have HS := hide hS
  have HTU := hide hturn
  have HBX := hide hbx
  have hc0a := hc0
  rw [hw0] at hc0a
  generalize fldF st.mi st.AI Z = FF at *
  generalize Z.getD 0 0 = z at *
  clear hT hC hF hr hA0 hS hturn hbx
  have b00 : 0 < len := hpos
  have HBAD := hide hbad
  clear hbad
  by_cases h1 : 127 < z
  · have d1 : decide (128 ≤ z) = true := by simp; omega
    have HE : Hid (FF = (numF st.AI Z, st.AI)) := by show FF = _; rw [HF.out, if_pos h1]
    clear HF hl6 hl4
    generalize numF st.AI Z = R at *
    obtain ⟨⟨rn, rv⟩, ru, rk⟩ := R
    go_enter Tryd.func29, Tryd.ntmps29
    go_wp2_with fail
    rw [← hw0]
    clear hw0
    refine hnum.mono ?_
    rintro e w1 ⟨⟨x, rfl, hx⟩, hbe1⟩
    have hB1 := hb0.trans (hbe1.mono (by omega))
    have h1x := (hbe1.block w.heap.size (by omega)).trans HBX.out
    obtain ⟨⟨q0, q1, f0, f1⟩, qa, qb⟩ := box_rules h1x
    have qa0 := fun a => (qa a).1
    have qa1 := fun a => (qa a).2
    have qc := fun a b => (box_at (qb a b)).1
    have qd := fun a b => (box_at (qb a b)).2
    have HX := hide hx
    clear hnum hx qa qb h1x
    simp only
    go_wp2
    (try simp only [Exit.inBlock, Exit.then])
    refine bodyPost_ret (by simp [results, Tryd.results29, go_sem, qc, qd]; try rfl) rfl ?_
    have hB2 : Below w.heap.size w ((w1.setCell ⟨w.heap.size, 0, none⟩ (.string rn)).setCell ⟨w.heap.size, 1, none⟩ (.string rv)) := Below.setCell (Below.setCell hB1 (by simp) _) (by simp) _
    rw [HE.out]
    exact ⟨⟨x, rfl, HX.out⟩, Off.of_below hB2, S, fun k hk => Or.inl hk, HC.out.below hB2⟩
  · have d1 : decide (128 ≤ z) = false := by simp; omega
    by_cases h2 : 63 < z
    · have d2 : decide (64 ≤ z) = true := by simp; omega
      have HE : Hid (FF = (litF st.AI Z 6, if (litF st.AI Z 6).2.2 = 0 then (addL st.AI (litF st.AI Z 6).1 st.mi).2 else st.AI)) := by show FF = _; rw [HF.out, if_neg h1, if_pos h2]
      clear HF hnum hl4
      have HNV : Hid ((litF st.AI Z 6).2.2 = 0 → (litF st.AI Z 6).1.1.size + (litF st.AI Z 6).1.2.size ≤ 10000) := lit_small st.AI Z 6 HFI.out.inn
      generalize litF st.AI Z 6 = R at *
      obtain ⟨⟨rn, rv⟩, ru, rk⟩ := R
      go_enter Tryd.func29, Tryd.ntmps29
      go_wp2_with fail
      rw [← hw0]
      clear hw0
      refine hl6.mono ?_
      rintro e w1 ⟨⟨x, rfl, hx⟩, hbe1⟩
      have hB1 := hb0.trans (hbe1.mono (by omega))
      have hs1 := hbe1.size
      have h1x := (hbe1.block w.heap.size (by omega)).trans HBX.out
      obtain ⟨⟨q0, q1, f0, f1⟩, qa, qb⟩ := box_rules h1x
      have qa0 := fun a => (qa a).1
      have qa1 := fun a => (qa a).2
      have HX := hide hx
      obtain ⟨w2, hw2⟩ : ∃ w2, w2 = (w1.setCell ⟨w.heap.size, 0, none⟩ (.string rn)).setCell ⟨w.heap.size, 1, none⟩ (.string rv) := ⟨_, rfl⟩
      have hB2 : Below w.heap.size w w2 := by rw [hw2]; exact Below.setCell (Below.setCell hB1 (by simp) _) (by simp) _
      have hs2 : w2.heap.size = w1.heap.size := by rw [hw2]; simp
      have h2x : w2.heap[w.heap.size]? = some (.cells #[.string rn, .string rv] 33 (0, 0)) := by rw [hw2]; exact qb _ _
      obtain ⟨p0, p1⟩ := box_at h2x
      have p3 : w2.cell? ⟨cb, 3, none⟩ = some (.pointer (some ⟨ti, 0, none⟩)) := (hB2.cell (p := ⟨cb, 3, none⟩) hcl).trans c3
      have HS2 := hide hs2
      clear hl6 hx qa qb h1x hs2 hc0 hc0a
      simp only
      by_cases hk : rk = 0
      · subst hk
        have hxn : x = .nilIface := by
          rcases HX.out with h | h
          · exact h.2
          · exact absurd rfl h.1
        subst hxn
        have HE2 : Hid (FF = (((rn, rv), ru, 0), (addL st.AI (rn, rv) st.mi).2)) := by show FF = _; rw [HE.out, if_pos rfl]
        have hBd : Below w.heap.size w w2.drew := hB2.trans (((Below.refl _ _).drew).mono hB2.size)
        have hnv : rn.size + rv.size ≤ 1152921504606846976 := by have := HNV.out rfl; omega
        have hadd := tadd ti st.mi st.AI SI rn rv w2.drew (tabKeeps.below HT.out hBd) HFI.out.inn hnv
        have hgl : w.heap.size < w2.heap.size := by rw [HS2.out]; omega
        have hxS : ¬ SI w.heap.size := fun h => by have := HC.out.hlt _ (HS.out _ h).1; omega
        have hcS : ¬ SI cb := fun h => (HS.out _ h).2 rfl
        have hcl2 : cb < w2.heap.size := by omega
        have HBd := hide hBd
        clear hBd HE hnv
        go_wp2_with fail
        rw [← hw2]
        clear hw2
        go_region_held3 (fun w' => w'.cell? ⟨w.heap.size, 0, none⟩ = some (.string rn) ∧ w'.cell? ⟨w.heap.size, 1, none⟩ = some (.string rv) ∧ w'.cell? ⟨cb, 3, none⟩ = some (.pointer (some ⟨ti, 0, none⟩)))
          (first | go_keep | (exact ⟨(off_cell hoff5 (by simpa using hgl) hxS).trans p0, (off_cell hoff5 (by simpa using hgl) hxS).trans p1, (off_cell hoff5 (by simpa using hcl2) hcS).trans p3⟩))
          ((go_at_call 27; refine hadd.mono ?_; rintro e w5 ⟨rfl, hoff5, SI5, hT5, hS5⟩))
        obtain ⟨k1, k2, k3⟩ := HTU.out w2.drew w5 st.mi _ SI5 HBd.out hoff5 hT5 hS5
        have h5x : w5.heap[w.heap.size]? = some (.cells #[.string rn, .string rv] 33 (0, 0)) := (hoff5.block w.heap.size (by simpa using hgl) hxS).trans h2x
        obtain ⟨⟨u0, u1, uf0, uf1⟩, ua, ub⟩ := box_rules h5x
        have ua0 := fun a => (ua a).1
        have ua1 := fun a => (ua a).2
        have uc := fun a b => (box_at (ub a b)).1
        have ud := fun a b => (box_at (ub a b)).2
        have K1 := hide k1
        have K2 := hide k2
        have K3 := hide k3
        have hs5 := hoff5.size
        have HN5 : Hid (¬ (S w.heap.size ∨ SI5 w.heap.size)) := by
          rintro (h | h)
          · have := HC.out.hlt _ h; omega
          · rcases hS5 _ h with h | h
            · exact hxS h
            · simp at h; omega
        clear hadd hoff5 hT5 hS5 k1 k2 k3 ua ub h5x
        go_wp2
        (try simp only [Exit.inBlock, Exit.then])
        refine bodyPost_ret (by simp [results, Tryd.results29, go_sem, uc, ud]; try rfl) rfl ?_
        rw [HE2.out]
        have hBz : Below w.heap.size w5 ((w5.setCell ⟨w.heap.size, 0, none⟩ (.string rn)).setCell ⟨w.heap.size, 1, none⟩ (.string rv)) := Below.setCell (Below.setCell (Below.refl _ _) (by simp) _) (by simp) _
        refine ⟨⟨_, rfl, HX.out⟩, ⟨hBz.os.trans K2.out.os, hBz.tape.trans K2.out.tape, hBz.output.trans K2.out.output, Nat.le_trans K2.out.size hBz.size, fun k hk hn => (hBz.block k hk).trans (K2.out.block k hk hn)⟩, fun k => S k ∨ SI5 k, K3.out, ?_⟩
        have hal := HC.out.alw.pos
        have hkk : ∀ k, k ≠ w.heap.size → ((w5.setCell ⟨w.heap.size, 0, none⟩ (.string rn)).setCell ⟨w.heap.size, 1, none⟩ (.string rv)).heap[k]? = w5.heap[k]? := fun k hk => (Below.heap_setCell _ ⟨w.heap.size, 1, none⟩ _ k hk).trans (Below.heap_setCell w5 ⟨w.heap.size, 0, none⟩ _ k hk)
        exact K1.out.frame (by simp) (fun k hk => hkk k (fun e => HN5.out (e ▸ hk))) (hkk _ (by omega))
      · have hxn : x = .iface 49 (.int .i64 rk) := by
          rcases HX.out with h | h
          · exact absurd h.1 hk
          · exact h.2
        subst hxn
        have HE2 : Hid (FF = (((rn, rv), ru, rk), st.AI)) := by show FF = _; rw [HE.out, if_neg hk]
        obtain ⟨⟨u0, u1, uf0, uf1⟩, ua, ub⟩ := box_rules h2x
        have ua0 := fun a => (ua a).1
        have ua1 := fun a => (ua a).2
        have uc := fun a b => (box_at (ub a b)).1
        have ud := fun a b => (box_at (ub a b)).2
        rw [hw2] at u0 u1 uf0 uf1 ua0 ua1 uc ud
        clear HE ua ub
        go_wp2
        (try simp only [Exit.inBlock, Exit.then])
        refine bodyPost_ret (by simp [results, Tryd.results29, go_sem, uc, ud]; try rfl) rfl ?_
        rw [HE2.out, ← hw2]
        have hB3 : Below w.heap.size w ((w2.setCell ⟨w.heap.size, 0, none⟩ (.string rn)).setCell ⟨w.heap.size, 1, none⟩ (.string rv)) := Below.setCell (Below.setCell hB2 (by simp) _) (by simp) _
        exact ⟨⟨_, rfl, HX.out⟩, Off.of_below hB3, S, fun k hk => Or.inl hk, HC.out.below hB3⟩
    · have d2 : decide (64 ≤ z) = false := by simp; omega
      have HE : Hid (FF = (litF st.AI Z 4, st.AI)) := by show FF = _; rw [HF.out, if_neg h1, if_neg h2]
      clear HF hnum hl6
      generalize litF st.AI Z 4 = R at *
      obtain ⟨⟨rn, rv⟩, ru, rk⟩ := R
      go_enter Tryd.func29, Tryd.ntmps29
      go_wp2_with fail
      rw [← hw0]
      clear hw0
      refine hl4.mono ?_
      rintro e w1 ⟨⟨x, rfl, hx⟩, hbe1⟩
      have hB1 := hb0.trans (hbe1.mono (by omega))
      have h1x := (hbe1.block w.heap.size (by omega)).trans HBX.out
      obtain ⟨⟨q0, q1, f0, f1⟩, qa, qb⟩ := box_rules h1x
      have qa0 := fun a => (qa a).1
      have qa1 := fun a => (qa a).2
      have qc := fun a b => (box_at (qb a b)).1
      have qd := fun a b => (box_at (qb a b)).2
      have HX := hide hx
      clear hl4 hx qa qb h1x
      simp only
      go_wp2
      (try simp only [Exit.inBlock, Exit.then])
      refine bodyPost_ret (by simp [results, Tryd.results29, go_sem, qc, qd]; try rfl) rfl ?_
      have hB2 : Below w.heap.size w ((w1.setCell ⟨w.heap.size, 0, none⟩ (.string rn)).setCell ⟨w.heap.size, 1, none⟩ (.string rv)) := Below.setCell (Below.setCell hB1 (by simp) _) (by simp) _
      rw [HE.out]
      exact ⟨⟨x, rfl, HX.out⟩, Off.of_below hB2, S, fun k hk => Or.inl hk, HC.out.below hB2⟩
end Go.Proofs.YtkjfhgoddhigmacDoor
