/-
  FROM THE ONE TO THE OTHER: the developers' List. No claim by itself.
-/
import Derived.Test.YtglmppadhlkkgagGreatDoorG6
import Derived.Test.YtglmppadhlkkgagGreatDoorG1
import Derived.Test.YtglmppadhlkkgagGreatDoorNdw6X
namespace Go.Proofs.YtglmppadhlkkgagGreatDoor
open Go Go.RowKit Go.Maps
set_option maxRecDepth 100000
theorem flds_small {L : List (ByteArray × ByteArray)} (h : fldsE (fdsOf L) = 0) : ∀ t, (L.getD t fnone).1.size ≤ 400 ∧ (L.getD t fnone).2.size ≤ 400 := fun t => by
  by_cases ht : t < L.length
  · have hm : (unums (L.getD t fnone).1, unums (L.getD t fnone).2) ∈ fdsOf L := by
      have : L.getD t fnone ∈ L := by rw [List.getD, List.getElem?_eq_getElem ht]; exact List.getElem_mem _
      exact List.mem_map_of_mem (f := fun f : ByteArray × ByteArray => (unums f.1, unums f.2)) this
    have h0 := flds_each h _ hm
    unfold fldE at h0
    split at h0
    · rename_i hx
      have h1 := (name_small hx.1).2.1
      have h2 := (plain_ok hx.2).1
      rw [unums_len] at h1 h2
      exact ⟨h1, h2⟩
    · cases h0
  · rw [List.getD, List.getElem?_eq_none (by omega)]
    simp [fnone]
theorem VSm.of400 {L : List (ByteArray × ByteArray)} (h : ∀ t, (L.getD t fnone).1.size ≤ 400 ∧ (L.getD t fnone).2.size ≤ 400) : VSm L := fun t => ⟨by have := (h t).1; omega, by have := (h t).2; omega⟩
theorem fown_nil (w : World) (base : Nat) : FOwn w base (.slice none 0 0) [] := ⟨rfl, Or.inl ⟨rfl, rfl⟩⟩
theorem three_own (w : World) (a b c d e f : ByteArray) : FOwn (w.alloc (.cells #[.string a, .string b, .string c, .string d, .string e, .string f] 51)) w.heap.size (.slice (some ⟨w.heap.size, 0, none⟩) 3 3) [(a, b), (c, d), (e, f)] :=
  ⟨rfl, .inr ⟨w.heap.size, 3, #[.string a, .string b, .string c, .string d, .string e, .string f], rfl, Nat.le_refl _, heap_alloc_new w _, Nat.le_refl _, by decide, rfl, by simp [fcells]⟩⟩
theorem fown_none {w : World} {base n sc : Nat} {sa : Option Addr} {L : List (ByteArray × ByteArray)} (h : FOwn w base (.slice sa n sc) L) (e : sa = none) : sc = 0 := by
  obtain ⟨_, ⟨hv, _⟩ | ⟨g, cp, cur, hv, _⟩⟩ := id h
  · injection hv
  · injection hv with h1
    rw [e] at h1
    cases h1
theorem errW_zero : errW 0 = .nilIface := rfl
def xld : NLd := ⟨fun w => NLaid w ∧ mxP w, fun h hb => ⟨h.1.below hb, h.2.below hb⟩⟩
set_option maxHeartbeats 4000000 in
theorem xlist_any (q : RqM) (w : World) (hd : xld.P w) (h : RqIn w q) : Calls Tryz.prog 9 #[q.val] w fun e w' => ∃ v FL, e = .returned (.tuple #[v, errW (listW q.rq).1]) ∧ FOwn w' w.heap.size v FL ∧ fdsOf FL = (listW q.rq).2 ∧ Below w.heap.size w w' := by
  have HD := vl hd
  have HI := vl h
  have HAR : Vl (q.rq.fields = fdsOf q.FL) := rfl
  have HB0 : Vl (Below w.heap.size w (w.alloc (.cells #[.string q.m, .string q.p, .string q.h, .slice q.fa q.fn q.fc, .slice q.ba q.bn q.bc] 25))) := vl ((Below.refl _ w).alloc (Nat.le_refl _) _)
  have HK := vl (nask_any q (w.alloc (.cells #[.string q.m, .string q.p, .string q.h, .slice q.fa q.fn q.fc, .slice q.ba q.bn q.bc] 25)) (HD.out.1.below HB0.out) (HI.out.below HB0.out))
  have hcells : Vl (∀ W, Below (w.heap.size + 1) (w.alloc (.cells #[.string q.m, .string q.p, .string q.h, .slice q.fa q.fn q.fc, .slice q.ba q.bn q.bc] 25)) W → W.cell? ⟨w.heap.size, 0, none⟩ = some (.string q.m) ∧ W.cell? ⟨w.heap.size, 1, none⟩ = some (.string q.p) ∧ W.cell? ⟨w.heap.size, 2, none⟩ = some (.string q.h) ∧ W.cell? ⟨w.heap.size, 3, none⟩ = some (.slice q.fa q.fn q.fc)) := fun W hb => by
    have hk := (hb.block w.heap.size (by omega)).trans (heap_alloc_new w (.cells #[.string q.m, .string q.p, .string q.h, .slice q.fa q.fn q.fc, .slice q.ba q.bn q.bc] 25 (0, 0)))
    exact ⟨by simp only [World.cell?, hk]; rfl, by simp only [World.cell?, hk]; rfl, by simp only [World.cell?, hk]; rfl, by simp only [World.cell?, hk]; rfl⟩
  have HLW : Vl (listW q.rq = if askE q.rq = 0 then (0, listL q.rq) else (askE q.rq, [])) := rfl
  unfold RqM.val at HK ⊢
  clear h hd
  by_cases he : askE q.rq = 0
  · rw [if_pos he] at HLW
    rw [HLW.out]
    rw [he] at HK
    obtain ⟨hf40, _⟩ := ask_ok he
    have hsm := flds_small (ask_flds he)
    have HFS := vl hsm
    have hfn : q.fn ≤ 40 := by
      have := HI.out.fields.len
      rw [HAR.out, fds_len] at hf40
      omega
    clear hf40 hsm he
    go_enter Tryz.func9, Tryz.ntmps9
    go_wp2_with fail
    refine HK.out.mono ?_
    rintro e w1 ⟨v1, rfl, _, hb1⟩
    rw [World.size_alloc] at hb1
    obtain ⟨c0, c1, c2, c3⟩ := hcells.out w1 hb1
    rw [errW_zero]
    have hs1 : w.heap.size < w1.heap.size := by have := hb1.size; simp at this; omega
    have HB1 : Vl (Below w.heap.size w w1) := HB0.out.trans (hb1.mono (by omega))
    have HO1 := vl (three_own w1 ⟨#[58, 109, 101, 116, 104, 111, 100]⟩ q.m ⟨#[58, 112, 97, 116, 104]⟩ q.p ⟨#[58, 104, 111, 115, 116]⟩ q.h)
    obtain ⟨w2, hw2⟩ : ∃ x, w1.alloc (.cells #[.string ⟨#[58, 109, 101, 116, 104, 111, 100]⟩, .string q.m, .string ⟨#[58, 112, 97, 116, 104]⟩, .string q.p, .string ⟨#[58, 104, 111, 115, 116]⟩, .string q.h] 51) = x := ⟨_, rfl⟩
    have hb2 : Below w1.heap.size w1 w2 := by rw [← hw2]; exact (Below.refl _ w1).alloc (Nat.le_refl _) _
    have hs2 : w1.heap.size < w2.heap.size := by rw [← hw2]; simp
    rw [hw2] at HO1
    have HB2 : Vl (Below w.heap.size w w2) := HB1.out.trans (hb2.mono (by omega))
    have c3' := (hb2.cell (p := ⟨w.heap.size, 3, none⟩) hs1).trans c3
    have HC := vl (xcut_any q.fa q.fn q.fc q.FL w2 (HI.out.fields.below HB2.out) (by omega) (VSm.of400 HFS.out) (HD.out.2.below HB2.out))
    clear hb1 hcells HK HB0 hb2
    go_wp2_with fail
    refine HC.out.mono ?_
    rintro e w3 ⟨vc, CL, rfl, hoc, hec, hb3⟩
    have HB3 : Vl (Below w.heap.size w w3) := HB2.out.trans (hb3.mono (by omega))
    have HO3 := vl (fown_below HO1.out hb3)
    obtain ⟨ca, cc, rfl⟩ := fown_shape hoc
    have HCA := vl (nfrow_of hoc).2
    have HEC := vl hec
    have hcn : ca = none → cc = 0 := fun e => fown_none hoc e
    have hcl : CL.length ≤ 1099512676352 := by
      have h1 := (VSm.of400 HFS.out).pcs (by have := HI.out.fields.len; omega) q.FL.length
      rw [List.take_length, ← hec, fds_len] at h1
      exact h1
    have hs3 : w2.heap.size ≤ w3.heap.size := hb3.size
    clear hoc hec hb3 HC HO1 c0 c1 c2 c3 c3'
    go_wp2_with (at_builtin; refine wpList_fapps w3 rfl _ _ rfl w1.heap.size (.slice (some ⟨w1.heap.size, 0, none⟩) 3 3) [(⟨#[58, 109, 101, 116, 104, 111, 100]⟩, q.m), (⟨#[58, 112, 97, 116, 104]⟩, q.p), (⟨#[58, 104, 111, 115, 116]⟩, q.h)] CL ca CL.length cc rfl HO3.out rfl hcn HCA.out (by simp; omega) (by omega) ?_)
    intro v4 w4 ho4 hg4
    have hrow : ∀ k, (Value.slice (some ⟨w1.heap.size, 0, none⟩) 3 3).ownBlock = some k → w.heap.size ≤ k := fun k hk => by
      have := (HO3.out.lt k hk).1
      omega
    have HB4 := vl (below_grown HB3.out hg4 HB3.out.size hrow)
    have HF4 := vl (fown_mono ho4 (Nat.le_of_lt hs1))
    have HE4 : Vl (fdsOf ([(⟨#[58, 109, 101, 116, 104, 111, 100]⟩, q.m), (⟨#[58, 112, 97, 116, 104]⟩, q.p), (⟨#[58, 104, 111, 115, 116]⟩, q.h)] ++ CL) = listL q.rq) := vl (by rw [fds_app, HEC.out]; rfl)
    clear ho4 hg4 hrow HO3 HB3 HCA
    go_wp2_with fail
    go_returns
    exact ⟨_, _, rfl, HF4.out, HE4.out, HB4.out⟩
  · rw [if_neg he] at HLW
    rw [HLW.out]
    obtain ⟨x, hx⟩ : ∃ x, askE q.rq = x := ⟨_, rfl⟩
    rw [hx] at HK he ⊢
    have HEW : Vl (errW x = .iface 88 (.int .i64 x)) := vl (if_neg he)
    rw [HEW.out] at HK
    go_enter Tryz.func9, Tryz.ntmps9
    go_wp2_with fail
    refine HK.out.mono ?_
    rintro e w1 ⟨v1, rfl, _, hb1⟩
    rw [World.size_alloc] at hb1
    have HB1 : Vl (Below w.heap.size w w1) := HB0.out.trans (hb1.mono (by omega))
    clear hb1 hcells HK HB0
    go_wp2_with fail
    go_returns
    exact ⟨.slice none 0 0, [], by rw [HEW.out]; rfl, fown_nil _ _, rfl, HB1.out⟩
end Go.Proofs.YtglmppadhlkkgagGreatDoor
