/-
  CONTRACT of the method readSpelled of head.Coder. No claim by itself.
-/
import Derived.Test.YtkjfhgoddhigmacDoorDcod9
namespace Go.Proofs.YtkjfhgoddhigmacDoor
open Go.RowKit
set_option maxRecDepth 100000
set_option maxHeartbeats 4000000 in
theorem hspell_any (cb : Nat) (st : CSt) (S : Nat → Prop) (a : Option Addr) (len cap : Nat) (Z : List Int) (b : Int) (w : World) (hC : HCod w cb st S) (hF : HFit st) (hbad : st.bad = false) (hA : Arg w a len cap Z) (hb1 : 1 ≤ b) (hb2 : b ≤ 8) (hlm : len ≤ 140737488351232) :
    Calls Tryd.prog 38 #[.pointer (some ⟨cb, 0, none⟩), .slice a len cap, .int .i64 b] w fun e w' => FldTold (litF st.AI Z b) e ∧ Below w.heap.size w w' := by
  obtain ⟨w0, hw0⟩ : ∃ w0, w0 = w.alloc (.cells #[.string ⟨#[]⟩, .string ⟨#[]⟩] 33) := ⟨_, rfl⟩
  have hb0 : Below w.heap.size w w0 := by rw [hw0]; exact (Below.refl _ _).alloc (Nat.le_refl _) _
  have hsz0 : w.heap.size + 1 ≤ w0.heap.size := by rw [hw0]; simp
  have hbx : w0.heap[w.heap.size]? = some (.cells #[.string ⟨#[]⟩, .string ⟨#[]⟩] 33 (0, 0)) := by rw [hw0]; exact Array.getElem?_push_size
  have hnm := hname_any cb st S a len cap Z b w0 (hC.below hb0) hF hbad (hA.below hb0) hb1 hb2 hlm
  have hbd := nm_bd st.AI Z b hb1 hb2
  have HL := hide (lit_nm st.AI Z b hb1 hb2)
  have HBX := hide hbx
  have HA : Hid (∀ wx, Below w.heap.size w wx → Arg wx a len cap Z) := fun wx hb => hA.below hb
  have hZl : Z.length = len := by
    rcases hA with ⟨rfl, rfl⟩ | ⟨_, _, _, hr⟩
    · rfl
    · exact hr.hlen
  rw [hZl] at hbd
  have HZ := hide hZl
  generalize litF st.AI Z b = R at *
  generalize nmF st.AI Z b = M at *
  obtain ⟨nm, mu, mk⟩ := M
  simp only at hbd
  clear hC hF hA hbx hZl
  go_enter Tryd.func38, Tryd.ntmps38
  go_wp2_with fail
  rw [← hw0]
  clear hw0
  refine hnm.mono ?_
  rintro e w1 ⟨⟨x, rfl, hx⟩, hbe1⟩
  have hB1 := hb0.trans (hbe1.mono (by omega))
  have hs1 := hbe1.size
  have h1x : w1.heap[w.heap.size]? = some (.cells #[.string ⟨#[]⟩, .string ⟨#[]⟩] 33 (0, 0)) := (hbe1.block _ (by omega)).trans HBX.out
  have HX := hide hx
  clear hnm hx
  simp only
  by_cases hk : mk = 0
  · subst hk
    have hxn : x = .nilIface := by
      rcases HX.out with h | h
      · exact h.2
      · exact absurd rfl h.1
    subst hxn
    obtain ⟨m1, m2⟩ := hbd rfl
    obtain ⟨u, rfl⟩ := Int.eq_ofNat_of_zero_le (show 0 ≤ mu by omega)
    rcases HA.out w1 hB1 with ⟨h0, _⟩ | ⟨g, off, rfl, hr⟩
    · omega
    have HE : Hid (R = litV Z nm u) := by
      show R = _
      rw [HL.out, if_neg (by simp)]; simp
    have hcap := hr.hcap
    have hmx := hr.hmax
    unfold maxLen at hmx
    obtain ⟨o, ho, hrow⟩ := tail_row hr u (by omega)
    have hrd := hread_any (some ⟨g, o, none⟩) (len - u) (cap - u) (Z.drop u) w1 (Or.inr ⟨g, o, rfl, hrow⟩) (by omega)
    have b1 : (0 : Int) ≤ (u : Int) := by omega
    have b2 : (u : Int) ≤ (len : Int) := by omega
    have b3 : (u : Int) ≤ (cap : Int) := by omega
    have HRB := hide (rtF_bd (Z.drop u))
    have HV : Hid (litV Z nm u = if (rtF (Z.drop u)).2.2 ≠ 0 then (fnone, 0, (rtF (Z.drop u)).2.2) else ((nm, strOfNums (rtF (Z.drop u)).1), (u : Int) + (rtF (Z.drop u)).2.1, 0)) := rfl
    have HLD : Hid ((Z.drop u).length ≤ len) := by show (Z.drop u).length ≤ len; rw [List.length_drop, HZ.out]; omega
    clear hr hrow HL HX hbd
    go_wp2_with fail
    refine hrd.mono ?_
    rintro e w2 ⟨⟨x2, rfl, hx2⟩, hbe2⟩
    have hB2 := hB1.trans (hbe2.mono hB1.size)
    have h2x : w2.heap[w.heap.size]? = some (.cells #[.string ⟨#[]⟩, .string ⟨#[]⟩] 33 (0, 0)) := (hbe2.block _ (by omega)).trans h1x
    obtain ⟨⟨q0, q1, f0, f1⟩, qa, qb⟩ := box_rules h2x
    have qa0 := fun a => (qa a).1
    have qa1 := fun a => (qa a).2
    have qc := fun a b => (box_at (qb a b)).1
    have qd := fun a b => (box_at (qb a b)).2
    have HX2 := hide hx2
    clear hrd hx2 qa qb h1x h2x
    generalize rtF (Z.drop u) = T at *
    obtain ⟨t1, t2, t3⟩ := T
    simp only
    simp only at HRB HX2 HV
    by_cases ht : t3 = 0
    · subst ht
      have hrb := HRB.out rfl
      have hld := HLD.out
      have hxn : x2 = .nilIface := by
        rcases HX2.out with h | h
        · exact h.2
        · exact absurd rfl h.1
      subst hxn
      have HE2 : Hid (R = ((nm, strOfNums t1), (u : Int) + t2, 0)) := by
        show R = _
        rw [HE.out, HV.out, if_neg (by simp)]
      have t2a : 0 ≤ t2 := by omega
      have t2b : t2 ≤ 140737488351232 := by omega
      clear hrb hld
      go_wp2
      (try simp only [Exit.inBlock, Exit.then])
      refine bodyPost_ret (by simp [results, Tryd.results38, go_sem, qc, qd]; try rfl) rfl ?_
      refine ⟨fld_told HE2.out (Or.inl ⟨rfl, rfl⟩), ?_⟩
      repeat (first | exact hB2 | refine Below.setCell ?_ (by simp) _)
    · have hxn : x2 = .iface 49 (.int .i64 t3) := by
        rcases HX2.out with h | h
        · exact absurd h.1 ht
        · exact h.2
      subst hxn
      have HE2 : Hid (R = ((⟨#[]⟩, ⟨#[]⟩), 0, t3)) := by
        show R = _
        rw [HE.out, HV.out, if_pos ht]; rfl
      go_wp2
      (try simp only [Exit.inBlock, Exit.then])
      refine bodyPost_ret (by simp [results, Tryd.results38, go_sem, qc, qd]; try rfl) rfl ?_
      refine ⟨fld_told HE2.out (Or.inr ⟨ht, rfl⟩), ?_⟩
      repeat (first | exact hB2 | refine Below.setCell ?_ (by simp) _)
  · have HE : Hid (R = ((⟨#[]⟩, ⟨#[]⟩), 0, mk)) := by
      show R = _
      rw [HL.out, if_pos hk]; rfl
    have hxn : x = .iface 49 (.int .i64 mk) := by
      rcases HX.out with h | h
      · exact absurd h.1 hk
      · exact h.2
    subst hxn
    obtain ⟨⟨q0, q1, f0, f1⟩, qa, qb⟩ := box_rules h1x
    have qa0 := fun a => (qa a).1
    have qa1 := fun a => (qa a).2
    have qc := fun a b => (box_at (qb a b)).1
    have qd := fun a b => (box_at (qb a b)).2
    clear hbd HX qa qb h1x
    go_wp2
    (try simp only [Exit.inBlock, Exit.then])
    refine bodyPost_ret (by simp [results, Tryd.results38, go_sem, qc, qd]; try rfl) rfl ?_
    refine ⟨fld_told HE.out (Or.inr ⟨hk, rfl⟩), ?_⟩
    repeat (first | exact hB1 | refine Below.setCell ?_ (by simp) _)
end Go.Proofs.YtkjfhgoddhigmacDoor
