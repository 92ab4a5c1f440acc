/-
  CONTRACT of the method Encode of head.Coder. No claim by itself.
-/
import Derived.Test.YtkjfhgoddhigmacDoorDcod6
import Derived.Maps.AppendAt
namespace Go.Proofs.YtkjfhgoddhigmacDoor
open Go.RowKit
set_option maxRecDepth 100000
theorem dweight_most : ∀ (L : List (ByteArray × ByteArray)), (∀ f ∈ L, f.1.size + f.2.size ≤ 281474976710656) → weight L ≤ 281474976710688 * L.length
  | [], _ => by simp [weight]
  | f :: L, h => by
    have ih := dweight_most L (fun g hg => h g (List.mem_cons_of_mem _ hg))
    have h1 := h f List.mem_cons_self
    rw [weight_cons, List.length_cons]
    unfold fsize
    omega
theorem FArg.len {w : World} {a : Option Addr} {len cap : Nat} {L : List (ByteArray × ByteArray)} (h : FArg w a len cap L) : L.length = len := by
  rcases h with ⟨rfl, rfl⟩ | ⟨_, _, _, hr⟩
  · rfl
  · exact hr.hlen
set_option maxHeartbeats 4000000 in
theorem hencode_no (cb : Nat) (a : Option Addr) (len cap : Nat) (L : List (ByteArray × ByteArray)) (w : World) (hA : FArg w a len cap L) (hlm : len ≤ 4611686018427387904) (hL : ∀ f ∈ L, f.1.size + f.2.size ≤ 281474976710656) (hbad : tooMuch L) :
    Calls Tryd.prog 6 #[.pointer (some ⟨cb, 0, none⟩), .slice a len cap] w fun e w' => e = .returned (.tuple #[.slice none 0 0, .iface 49 (.int .i64 4)]) ∧ Below w.heap.size w w' := by
  have hlen := hA.len
  have hwm := dweight_most L hL
  by_cases hm : len ≤ 40 ∧ weight L ≤ 2000
  · have hex : ∃ f ∈ L, ¬ small f := by
      rcases hbad with h | h | h
      · omega
      · omega
      · exact h
    have hmay := hmay_any a len cap L w hA hlm (fun h => by rw [hlen] at hwm; omega) true (by simpa using hm)
    have HA := hide hA
    clear hA hbad
    go_enter Tryd.func6, Tryd.ntmps6
    go_wp2_with fail
    refine hmay.mono ?_
    rintro e w1 ⟨rfl, hb1⟩
    have hc := hcont_yes a len cap L w1 (HA.out.below hb1) hex
    clear hmay
    go_wp2_with fail
    refine hc.mono ?_
    rintro e w2 ⟨rfl, hb2⟩
    have hB := hb1.trans (hb2.mono hb1.size)
    clear hc
    go_wp2
    go_ret2
    exact ⟨rfl, hB⟩
  · have hmay := hmay_any a len cap L w hA hlm (fun h => by rw [hlen] at hwm; omega) false (by simpa using hm)
    go_enter Tryd.func6, Tryd.ntmps6
    go_wp2_with fail
    refine hmay.mono ?_
    rintro e w1 ⟨rfl, hb1⟩
    clear hmay
    go_wp2
    go_ret2
    exact ⟨rfl, hb1⟩
theorem enc1_byte (mx : Int) (A : List (ByteArray × ByteArray)) (f : ByteArray × ByteArray) (hA : A.length ≤ 128) : ∀ x ∈ (enc1 mx A f).1, 0 ≤ x ∧ x < 256 := by
  have hL : (alwaysL ++ A).length = 12 + A.length := by rw [List.length_append, always_len]
  have h1 := fnd_le (isF f.1 f.2) (alwaysL ++ A) 0
  have h2 := fnd_le (isN f.1) (alwaysL ++ A) 0
  intro x hx
  unfold enc1 at hx
  split at hx
  · exact put_bytes _ 7 128 ⟨by omega, by omega, by decide, by decide, by decide, by decide, by decide⟩ x hx
  · rcases List.mem_append.1 hx with hx | hx
    · exact put_bytes _ 6 64 ⟨by omega, by omega, by decide, by decide, by decide, by decide, by decide⟩ x hx
    · rcases List.mem_append.1 hx with hx | hx
      · split at hx
        · exact txt_byte _ (nums_mem f.1) x hx
        · simp at hx
      · exact txt_byte _ (nums_mem f.2) x hx
theorem encL_byte {mx : Int} : ∀ (r : List (ByteArray × ByteArray)) {A : List (ByteArray × ByteArray)}, Fit mx A → ∀ x ∈ (encL mx A r).1, 0 ≤ x ∧ x < 256
  | [], _, _, x, hx => by simp [encL] at hx
  | f :: r, A, h, x, hx => by
    have hx' : x ∈ (enc1 mx A f).1 ++ (encL mx (enc1 mx A f).2 r).1 := hx
    rcases List.mem_append.1 hx' with h1 | h1
    · exact enc1_byte mx A f h.len x h1
    · exact encL_byte r (h.enc1 f) x h1
theorem szL_byte (z : List Int) (h : ∀ x ∈ z, 0 ≤ x ∧ x ≤ 4096) : ∀ x ∈ szL z, 0 ≤ x ∧ x < 256 := by
  intro x hx
  by_cases hz : z = []
  · rw [hz] at hx; simp [szL] at hx
  · rw [szL_ne z hz] at hx
    have hb := leastOf_bd z 4096 hz h
    have hla : z.getLastD 0 ∈ z := by
      cases z with
      | nil => exact absurd rfl hz
      | cons y r => simp [List.getLastD]
    rcases List.mem_append.1 hx with h1 | h1
    · exact put_bytes _ 5 32 (putOk_sz _ hb.1 hb.2) x h1
    · split at h1
      · exact put_bytes _ 5 32 (putOk_sz _ (h _ hla).1 (h _ hla).2) x h1
      · simp at h1
theorem HFit.enc {st : CSt} (h : HFit st) (L : List (ByteArray × ByteArray)) : HFit { st with sz := [], AO := (encL st.mo st.AO L).2 } :=
  ⟨Fit.encL L h.out, h.inn, h.hmost, fun x hx => by simp at hx, fun h => absurd rfl h⟩
theorem dszL_len (z : List Int) : (szL z).length ≤ 12 := by
  by_cases h : z = []
  · rw [h]; decide
  · rw [szL_ne z h, List.length_append]
    have h1 := (putL_len (leastOf z) 5 32).2
    have h2 := (putL_len (z.getLastD 0) 5 32).2
    split
    · omega
    · simp only [List.length_nil]; omega
set_option maxHeartbeats 8000000 in
theorem hencode_yes (cb : Nat) (st : CSt) (S : Nat → Prop) (a : Option Addr) (len cap : Nat) (L : List (ByteArray × ByteArray)) (w : World) (hC : HCod w cb st S) (hF : HFit st) (hA : ∀ wx, Off S w wx → FArg wx a len cap L) (hok : ¬ tooMuch L) :
    Calls Tryd.prog 6 #[.pointer (some ⟨cb, 0, none⟩), .slice a len cap] w fun e w' => ∃ v, e = .returned (.tuple #[v, .nilIface]) ∧ w'.ownsRow w.heap.size 5 1 v (szL st.sz ++ (encL st.mo st.AO L).1).length ((szL st.sz ++ (encL st.mo st.AO L).1).map (Value.int .u8)) ∧ Off S w w' ∧
      ∃ S', (∀ k, S' k → S k ∨ w.heap.size ≤ k) ∧ (∀ k, v.ownBlock = some k → ¬ S' k) ∧ HCod w' cb { st with sz := [], AO := (encL st.mo st.AO L).2 } S' := by
  obtain ⟨i0, hi, hz0, hz1, hz2⟩ := info_parts info5
  have hA0 := hA w (Off.of_below (Below.refl _ _))
  have hlen := hA0.len
  have hl40 : len ≤ 40 := by rw [← hlen]; exact Nat.le_of_not_lt (fun h => hok (Or.inl h))
  have hw2 : weight L ≤ 2000 := Nat.le_of_not_lt (fun h => hok (Or.inr (Or.inl h)))
  have hsm : ∀ f ∈ L, small f := fun f hf => Classical.byContradiction (fun h => hok (Or.inr (Or.inr ⟨f, hf, h⟩)))
  have hmay := hmay_any a len cap L w hA0 (by omega) (fun _ => by omega) true (by simp; omega)
  have HC := hide hC
  have HF := hide hF
  have HA := hide hA
  have HSM := hide hsm
  have HLN := hide hlen
  have hcl := hC.hlt cb hC.hcb
  clear hC hF hA hsm hok hA0 hlen
  go_enter Tryd.func6, Tryd.ntmps6
  go_wp2_with fail
  refine hmay.mono ?_
  rintro e w1 ⟨rfl, hb1⟩
  have hc := hcont_no a len cap L w1 (HA.out w1 (Off.of_below hb1)) HSM.out
  clear hmay
  go_wp2_with fail
  refine hc.mono ?_
  rintro e w2 ⟨rfl, hb2⟩
  have hB2 := hb1.trans (hb2.mono hb1.size)
  have hs2 := hB2.size
  have ht := htells_any cb st S w2 (HC.out.below hB2) HF.out
  clear hc hb1 hb2
  go_wp2_with fail
  refine ht.mono ?_
  rintro e w3 ⟨⟨v3, rfl, hown3⟩, hoff3, hC3⟩
  have HO3 := hide (own_mono (base' := w.heap.size) hown3 hs2)
  have HC3 := hide hC3
  have HF3 := hide ((Off.of_below (S := S) hB2).trans hoff3)
  have HN3 : Hid (∀ k, v3.ownBlock = some k → ¬ S k) := fun k hk hs => by
    have h1 := (hown3.lt k hk).1
    have h2 := HC.out.hlt k hs
    omega
  have hs3 := hoff3.size
  have hZl := dszL_len st.sz
  clear ht hown3 hoff3 hC3
  go_wp2_with fail
  go_loopw [6, 21] (fun b i wr => ∃ j : Nat, i = .int .i64 j ∧ j ≤ len ∧ wr.ownsRow w.heap.size 5 1 b (szL st.sz ++ (encL st.mo st.AO (L.take j)).1).length ((szL st.sz ++ (encL st.mo st.AO (L.take j)).1).map (Value.int .u8)) ∧ Off S w wr ∧
      ∃ T, (∀ k, T k → S k ∨ w.heap.size ≤ k) ∧ (∀ k, b.ownBlock = some k → ¬ T k) ∧ HCod wr cb { st with sz := [], AO := (encL st.mo st.AO (L.take j)).2 } T) (fun _ i _ => len - (intOf i).toNat)
  case atStart => exact ⟨0, rfl, by omega, by simpa [encL] using HO3.out, HF3.out, S, fun k hk => Or.inl hk, HN3.out, by simpa [encL] using HC3.out⟩
  case round =>
    obtain ⟨j, rfl, hj, hown, hoff, T, hT, hN, hCo⟩ := hrel
    have HO := hide hown
    have HOF := hide hoff
    have HT := hide hT
    have HN := hide hN
    have HCo := hide hCo
    have hsr := hoff.size
    clear hown hoff hT hN hCo HO3 HC3 HF3 HN3
    by_cases hlt : j < len
    · rcases HA.out wr HOF.out with ⟨h0, _⟩ | ⟨g, off, rfl, hr⟩
      · omega
      have c1 := hr.hname j hlt
      have c2 := hr.hvalue j hlt
      have hcap := hr.hcap
      have hmx := hr.hmax
      unfold maxLen at hmx
      clear hr
      have HST := hide (encL_take st.mo st.AO L j (by rw [HLN.out]; exact hlt))
      have hss := HSM.out _ (getD_mem (L := L) (k := j) (by rw [HLN.out]; exact hlt))
      generalize hfe : L.getD j fnone = f at *
      obtain ⟨n, v⟩ := f
      have hPl : (szL st.sz ++ (encL st.mo st.AO (L.take j)).1).length ≤ 41000 := by
        have h1 := encL_len st.mo (L.take j) st.AO (fun f hf => HSM.out f (List.mem_of_mem_take hf))
        have h2 := dszL_len st.sz
        rw [List.length_take, HLN.out] at h1
        rw [List.length_append]
        omega
      clear hfe
      have hFj := HF.out.enc (L.take j)
      have hAl := (Fit.encL (L.take j) HF.out.out).len
      have hel := (fld_back st.mo (encL st.mo st.AO (L.take j)).2 (n, v) [] hss hAl).2.2
      have hem := enc1_len st.mo (encL st.mo st.AO (L.take j)).2 (n, v) hss
      have heb := enc1_byte st.mo (encL st.mo st.AO (L.take j)).2 (n, v) hAl
      obtain ⟨w0, hw0⟩ : ∃ w0, w0 = wr.alloc (.cells #[.string n, .string v] 33) := ⟨_, rfl⟩
      have hb0 : Below wr.heap.size wr w0 := by rw [hw0]; exact (Below.refl _ _).alloc (Nat.le_refl _) _
      have hs0 := hb0.size
      have htf := htellf_any cb { st with sz := [], AO := (encL st.mo st.AO (L.take j)).2 } T n v w0 (HCo.out.below hb0) hFj hss
      simp only at htf
      generalize (encL st.mo st.AO (L.take j)).2 = A at *
      generalize hP : szL st.sz ++ (encL st.mo st.AO (L.take j)).1 = P at *
      have HP := hide hP
      generalize enc1 st.mo A (n, v) = X at *
      obtain ⟨X, A'⟩ := X
      simp only at htf hel hem heb
      clear hP hFj
      go_wp2_with fail
      rw [← hw0]
      clear hw0
      refine htf.mono ?_
      rintro e w5 ⟨⟨x, rfl, hown5⟩, hoff5, T5, hT5, hC5⟩
      obtain ⟨g5, cap5, rfl⟩ := shape_n hown5 hel
      have HR5 := hide (row_of rfl hown5 heb)
      have HC5 := hide hC5
      have hs5 := hoff5.size
      have HO5 : Hid (w5.ownsRow w.heap.size 5 1 u6 P.length (P.map (Value.int .u8))) := own_kept HO.out (fun k hk => (hoff5.block k (by have := (HO.out.lt k hk).2; omega) (HN.out k hk)).trans (hb0.block k (HO.out.lt k hk).2))
      have HN5 : Hid (∀ k, u6.ownBlock = some k → ¬ T5 k ∧ w.heap.size ≤ k) := fun k hk => ⟨fun h => by
        rcases hT5 k h with h1 | h1
        · exact HN.out k hk h1
        · have := (HO.out.lt k hk).2; omega, (HO.out.lt k hk).1⟩
      have HT5 : Hid (∀ k, T5 k → S k ∨ w.heap.size ≤ k) := fun k hk => by
        rcases hT5 k hk with h1 | h1
        · exact HT.out k h1
        · right; omega
      have HF5 : Hid (Off S w w5) := (HOF.out.trans (Off.of_below hb0)).trans2 hoff5 HT.out
      obtain ⟨_, ub, uc, rfl, _⟩ := slen_own HO5.out
      clear htf hown5 hoff5 hT5 hC5 HO HN HT HOF HCo
      go_wp2_with (at_builtin; refine wpList_append_own_at _ rfl _ _ 29 rfl w.heap.size 5 i0 _ 1 1 Tryd.underlying29 hi hz0 hz1 hz2 rfl (by decide) _ _ _ rfl HO5.out ⟨g5, 0, none⟩ X.length cap5 (X.map (Value.int .u8)) rfl (by simp) (row_news HR5.out) (one_bytes X) ?c3 ?c4 ?c5 ?_)
      case c3 => unfold maxLen; omega
      case c4 => omega
      case c5 => omega
      intro v6 w6 hown6 hgrow6 _ hat6
      have HO6 := hide hown6
      have HG6 := hide hgrow6
      have HA6 := hide hat6
      clear hown6 hgrow6 hat6
      go_wp2
      go_roundw
      case rel =>
        have hal := HC.out.alw.pos
        have eE : szL st.sz ++ (encL st.mo st.AO (L.take (j + 1))).1 = P ++ X := by rw [HST.out, ← HP.out, List.append_assoc]
        refine ⟨j + 1, by go_num, by omega, ?_, HF5.out.trans2 (off_grown HG6.out) (fun k hk => Or.inr (HN5.out k hk).2), T5, HT5.out, fun k hk hT => ?_, ?_⟩
        · rw [eE, List.length_append, List.map_append]; exact HO6.out
        · rcases HA6.out with h1 | h1
          · exact (HN5.out k (h1.symm.trans hk)).1 hT
          · rw [h1] at hk
            cases hk
            have := HC5.out.hlt _ hT
            omega
        · rw [HST.out]
          exact HC5.out.frame HG6.out.size (fun k hk => HG6.out.block k (HC5.out.hlt k hk) (fun e => (HN5.out k e.symm).1 hk)) (HG6.out.block _ (by omega) (fun e => by have := (HN5.out _ e.symm).2; omega))
      case measure => simp [intOf]; omega
    · have e : L.take j = L := List.take_of_length_le (by rw [HLN.out]; omega)
      rw [e] at HO HCo
      go_wp2
      go_ret2
      exact ⟨_, rfl, HO.out, HOF.out, T, HT.out, HN.out, HCo.out⟩
end Go.Proofs.YtkjfhgoddhigmacDoor
