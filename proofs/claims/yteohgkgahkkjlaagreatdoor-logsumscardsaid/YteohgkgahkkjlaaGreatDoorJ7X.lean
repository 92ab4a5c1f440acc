/-
  WHAT WAS DONE: slices.SortedFunc of the keys of a map of paths, walked. No claim by itself.
-/
import Derived.Shelf.SlIter.Nil
import Derived.Shelf.SlSortCmp.NoneTotal
import Derived.Test.YteohgkgahkkjlaaGreatDoorTop0
import Derived.Test.YteohgkgahkkjlaaGreatDoorMJ
namespace Go.Proofs.YteohgkgahkkjlaaGreatDoor
open Go Go.RowKit Go.Maps Go.Sort Go.Shelf
set_option maxRecDepth 100000
theorem jkeysf (mb : Option Nat) (W : World) : Calls Tryz.prog 33 #[.map mb] W fun e w' => e = .returned (.func (.func 54) #[] #[.pointer (some ⟨W.heap.size, 0, none⟩)]) ∧ w' = W.alloc (.cells #[.map mb] 65) :=
  (callsIn_wide (n := 5)).1 (AnyZ.keys_in Tryz.gkeys Fence.wide 5 trivial rfl mb W)
set_option maxHeartbeats 1000000 in
theorem jcollect (kb b nn : Nat) (D0 : JDat) (w : World) (hk : w.cell? ⟨kb, 0, none⟩ = some (.map (some b))) (hown : JOwn w b nn D0) (hsz : Maps.size D0 ≤ 1000) :
    Calls Tryz.prog 52 #[.func (.func 54) #[] #[.pointer (some ⟨kb, 0, none⟩)]] w fun e w' => ∃ (v : Value) (ss : List (List UInt8)), e = .returned v ∧ ss.Perm (strKeys D0) ∧
      w'.ownsRow w.heap.size 9 1 v ss.length (ss.map encStr) ∧ (v = .slice none 0 0 ↔ ss = []) ∧ Below w.heap.size w w' := by
  have hseq : SeqGives Fence.wide 3 Tryz.prog 54 #[.pointer (some ⟨kb, 0, none⟩)] encStr (fun ss => ss.Perm (strKeys D0)) (Maps.size D0) w :=
    AnyZ.keys_gives (ρ := Tryz.gkeys_ren) { Tryz.gkeys with } Fence.wide _ trivial rfl (by omega) kb b nn D0 _ (jblk_of_cell hk) hk hown
  exact (callsIn_wide (n := 5)).1 (AnyZ.collect_in Tryz.gcollect Fence.wide 5 trivial trivial rfl (by omega) 54 #[.pointer (some ⟨kb, 0, none⟩)] trivial (enters_of Tryz.func54 (by kernel_rfl) rfl) _ _ (by unfold maxLen; omega) (by omega) _ hseq)
set_option maxHeartbeats 4000000 in
theorem jsortedf (kb bx mb nn : Nat) (D : JDat) (P : List (List UInt8)) (w : World) (hk : w.cell? ⟨kb, 0, none⟩ = some (.map (some mb))) (hb : w.cell? ⟨bx, 0, none⟩ = some (.map (some mb))) (hO : JOwn w mb nn D) (hC : JCnt D P) (hP : ∀ x ∈ P, x.length ≤ 400) (hsz : Maps.size D ≤ 1000) :
    Calls Tryz.prog 32 #[.func (.func 54) #[] #[.pointer (some ⟨kb, 0, none⟩)], .func (.func 34) #[] #[.pointer (some ⟨bx, 0, none⟩)]] w fun e w' => ∃ (v : Value) (K : List (List UInt8)), e = .returned v ∧ K.Nodup ∧ (∀ x, x ∈ K ↔ x ∈ P) ∧ K.Pairwise (topL (cnt P)) ∧ TxRow w' v K ∧ Below w.heap.size w w' := by
  have HCOL := vl (jcollect kb mb nn D w hk hO hsz)
  obtain ⟨hnd, hmem⟩ := jkeys_are hO
  have hlb := jblk_of_cell hb
  have hlm := hO.lt
  have HB := vl hb
  have HO := vl hO
  have HLS : Vl ((strKeys D).length ≤ 1000) := vl (by
    have : (strKeys D).length = Maps.size D := by cases D <;> simp [strKeys, Maps.size]
    omega)
  clear hk hb hO
  go_enter Tryz.func32, Tryz.ntmps32
  go_wp2_with fail
  refine HCOL.out.mono ?_
  rintro _ w2 ⟨v, ss, rfl, hS, hrow, hnil, hb2⟩
  have hsn : ss.Nodup := hS.nodup_iff.2 hnd
  have hsm : ∀ x, x ∈ ss ↔ x ∈ P := fun x => (hS.mem_iff.trans (hmem x)).trans (hC.has_ x)
  have hsl : ∀ x ∈ ss, x.length ≤ 400 := fun x hx => hP x ((hsm x).1 hx)
  have hlen : ss.length ≤ 1000 := by rw [hS.length_eq]; exact HLS.out
  clear HCOL hnd hmem HLS hS
  by_cases hs : ss = []
  · obtain rfl := hnil.2 hs
    have HN : Vl (∀ W, Calls Tryz.prog 53 #[.slice none 0 0, .func (.func 34) #[] #[.pointer (some ⟨bx, 0, none⟩)]] W fun e w' => e = .returned (.tuple #[]) ∧ w' = W) := vl (fun W => AnyF.slices_SortFunc_none (P := Tryz.prog) (ρ := Tryz.gsortf_ren) { Tryz.gsortf with } none 0 (.func (.func 34) #[] #[.pointer (some ⟨bx, 0, none⟩)]) W)
    subst hs
    have HFIN : Vl (∃ K : List (List UInt8), K.Nodup ∧ (∀ x, x ∈ K ↔ x ∈ P) ∧ K.Pairwise (topL (cnt P)) ∧ TxRow w2 (.slice none 0 0) K) := vl ⟨[], hsn, hsm, List.Pairwise.nil, Or.inl ⟨rfl, rfl⟩⟩
    have HB2 := vl hb2
    clear hrow hnil hsn hsm hsl hlen hb2 hC hP
    go_wp2_with fail
    refine (HN.out _).mono ?_
    rintro _ w3 ⟨rfl, rfl⟩
    go_wp2_with fail
    go_ret
    obtain ⟨K, h1, h2, h3, h4⟩ := HFIN.out
    exact ⟨_, K, rfl, h1, h2, h3, h4, HB2.out⟩
  · rcases hrow.2 with ⟨hv, _⟩ | ⟨gb, c, cur, hv, hbase, hgb, r1, r2, r3, r4⟩
    · exact absurd (hnil.1 hv) hs
    subst hv
    have hgl : gb < w2.heap.size := (Array.getElem?_eq_some_iff.1 hgb).1
    have hdl : (toP ss hsl).toArray.size = ss.length := by rw [List.size_toArray, toP_len]
    have hH : Holds encP w2 gb 0 (toP ss hsl).toArray := holdsP hsl hgb (by simpa using r4)
    have hcmp : CmpLays1 Tryz.prog 34 #[.pointer (some ⟨bx, 0, none⟩)] encP (cfP (cnt P)) gb 0 (toP ss hsl).toArray.size w2 := by
      intro m os dk _ x y
      have k1 := (sortW_old (n := m) (os := os) (g := gb) dk (Nat.lt_of_lt_of_le hlb hb2.size) (by omega)).trans (hb2.block bx hlb)
      have k2 := (sortW_old (n := m) (os := os) (g := gb) dk (Nat.lt_of_lt_of_le hlm hb2.size) (by omega)).trans (hb2.block mb hlm)
      have h1 : (sortWorld encP w2 gb 0 m dk os).cell? ⟨bx, 0, none⟩ = some (.map (some mb)) := (World.cell?_of_block (a := ⟨bx, 0, none⟩) k1).trans HB.out
      have h2 : JOwn (sortWorld encP w2 gb 0 m dk os) mb nn D := by
        obtain ⟨es, clock, h1, r⟩ := HO.out
        exact ⟨es, clock, k2.trans h1, r⟩
      have h := gtop1_any bx mb nn D P ⟨x.1.toArray⟩ ⟨y.1.toArray⟩ _ h1 h2 hC (by have := x.2; show x.1.toArray.size ≤ _; simp; omega) (by have := y.2; show y.1.toArray.size ≤ _; simp; omega)
      exact h
    have eg : ∀ args w, (callFunc 34 args).run Tryz.prog w = .ok (.enter 34 args) w := enters_of Tryz.func34 (by kernel_rfl) rfl
    have HSO := Any.slices_SortFunc_total Tryz.gsortf encP oneP (cfP (cnt P)) (swoP _) 34 #[.pointer (some ⟨bx, 0, none⟩)] gb 0 c (toP ss hsl).toArray w2 eg hcmp hH hgl (by rw [hdl]; omega) (triP _)
    rw [hdl] at HSO
    have HSR : Vl (Calls Tryz.prog 53 #[.slice (some ⟨gb, 0, none⟩) ss.length c, .func (.func 34) #[] #[.pointer (some ⟨bx, 0, none⟩)]] w2 fun e w' => e = .returned (.tuple #[]) ∧ ∃ n os, w' = sortWorld encP w2 gb 0 n (rowP (cnt P) (toP ss hsl)).toArray os) := vl HSO
    have hrl : (rowP (cnt P) (toP ss hsl)).length = ss.length := by unfold rowP; rw [List.length_mergeSort, toP_len]
    obtain ⟨q1, q2, q3⟩ := rowP_is (n := cnt P) (ss := toP ss hsl) (by rw [toP_map]; exact hsn)
    have HFIN : Vl (∀ n os, ∃ K : List (List UInt8), K.Nodup ∧ (∀ x, x ∈ K ↔ x ∈ P) ∧ K.Pairwise (topL (cnt P)) ∧ TxRow (sortWorld encP w2 gb 0 n (rowP (cnt P) (toP ss hsl)).toArray os) (.slice (some ⟨gb, 0, none⟩) ss.length c) K ∧ Below w.heap.size w (sortWorld encP w2 gb 0 n (rowP (cnt P) (toP ss hsl)).toArray os)) := vl (fun n os => by
      have hkl : ((rowP (cnt P) (toP ss hsl)).map (·.1)).length = ss.length := by rw [List.length_map, hrl]
      refine ⟨(rowP (cnt P) (toP ss hsl)).map (·.1), q1, fun x => (q2 x).trans (by rw [toP_map]; exact hsm x), q3, Or.inr ⟨gb, c, by rw [hkl], by rw [hkl]; exact r1, r2, fun t ht => ?_⟩, hb2.grown (sortW_grown _) hb2.size (fun j hj => by cases hj; exact hbase)⟩
      rw [hkl] at ht
      have hh := (SW.holds (dk := (rowP (cnt P) (toP ss hsl)).toArray) ⟨n, os, rfl⟩ hgl hH (by rw [hdl, List.size_toArray, hrl]) t (by rw [List.size_toArray, hrl]; exact ht)).1
      rw [Nat.zero_add] at hh
      rw [hh]
      have ht' : t < (rowP (cnt P) (toP ss hsl)).length := by rw [hrl]; exact ht
      unfold encP
      simp [List.getD, ht'])
    generalize rowP (cnt P) (toP ss hsl) = R at HSR HFIN hrl
    clear hrow hnil hsn hsm HSO hcmp hH hdl q1 q2 q3 hsl hb2 hC hP hgb r1 r2 r3 r4
    go_wp2_with fail
    refine HSR.out.mono ?_
    rintro _ w3 ⟨rfl, n, os, rfl⟩
    have HF2 := vl (HFIN.out n os)
    obtain ⟨W3, hW3⟩ : ∃ W3, sortWorld encP w2 gb 0 n R.toArray os = W3 := ⟨_, rfl⟩
    rw [hW3] at HF2 ⊢
    clear hW3 HFIN HSR
    go_wp2_with fail
    go_ret
    obtain ⟨K, h1, h2, h3, h4, h5⟩ := HF2.out
    exact ⟨_, K, rfl, h1, h2, h3, h4, h5⟩
end Go.Proofs.YteohgkgahkkjlaaGreatDoor
