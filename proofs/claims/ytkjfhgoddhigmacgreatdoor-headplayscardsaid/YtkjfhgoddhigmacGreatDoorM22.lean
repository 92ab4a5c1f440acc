/-
  CONTRACT of the method Encode of head.Coder. No claim by itself.
-/
import Derived.Maps.AppendAt
import Derived.Test.YtkjfhgoddhigmacGreatDoorM21
namespace Go.Proofs.YtkjfhgoddhigmacGreatDoor
open Go.RowKit
set_option maxRecDepth 100000
theorem dweight_most : ∀ (L : List (ByteArray × ByteArray)), (∀ f ∈ L, f.1.size + f.2.size ≤ 281474976710656) → weight L ≤ 281474976710688 * L.length
  | [], _ => by simp [weight]
  | f :: L, h => by
    have ih := dweight_most L (fun g hg => h g (List.mem_cons_of_mem _ hg))
    have h1 := h f List.mem_cons_self
    rw [weight_cons, List.length_cons]
    unfold fsize
    omega
theorem FArg.len {w : World} {a : Option Addr} {len cap : Nat} {L : List (ByteArray × ByteArray)} (h : FArg w a len cap L) : L.length = len := by
  rcases h with ⟨rfl, rfl⟩ | ⟨_, _, _, hr⟩
  · rfl
  · exact hr.hlen
set_option maxHeartbeats 4000000 in
theorem hencode_no (cb : Nat) (a : Option Addr) (len cap : Nat) (L : List (ByteArray × ByteArray)) (w : World) (hA : FArg w a len cap L) (hlm : len ≤ 4611686018427387904) (hL : ∀ f ∈ L, f.1.size + f.2.size ≤ 281474976710656) (hbad : tooMuch L) :
    Calls Tryz.prog 10 #[.pointer (some ⟨cb, 0, none⟩), .slice a len cap] w fun e w' => e = .returned (.tuple #[.slice none 0 0, .iface 53 (.int .i64 4)]) ∧ Below w.heap.size w w' := by
  have hlen := hA.len
  have hwm := dweight_most L hL
  by_cases hm : len ≤ 40 ∧ weight L ≤ 2000
  · have hex : ∃ f ∈ L, ¬ small f := by
      rcases hbad with h | h | h
      · omega
      · omega
      · exact h
    have hmay := hmay_any a len cap L w hA hlm (fun h => by rw [hlen] at hwm; omega) true (by simpa using hm)
    have HA := hide hA
    clear hA hbad
    go_enter Tryz.func10, Tryz.ntmps10
    go_wp2_with fail
    refine hmay.mono ?_
    rintro e w1 ⟨rfl, hb1⟩
    have hc := hcont_yes a len cap L w1 (HA.out.below hb1) hex
    clear hmay
    go_wp2_with fail
    refine hc.mono ?_
    rintro e w2 ⟨rfl, hb2⟩
    have hB := hb1.trans (hb2.mono hb1.size)
    clear hc
    go_wp2
    go_ret2
    exact ⟨rfl, hB⟩
  · have hmay := hmay_any a len cap L w hA hlm (fun h => by rw [hlen] at hwm; omega) false (by simpa using hm)
    go_enter Tryz.func10, Tryz.ntmps10
    go_wp2_with fail
    refine hmay.mono ?_
    rintro e w1 ⟨rfl, hb1⟩
    clear hmay
    go_wp2
    go_ret2
    exact ⟨rfl, hb1⟩
theorem enc1_byte (mx : Int) (A : List (ByteArray × ByteArray)) (f : ByteArray × ByteArray) (hA : A.length ≤ 128) : ∀ x ∈ (enc1 mx A f).1, 0 ≤ x ∧ x < 256 := by
  have hL : (alwaysL ++ A).length = 12 + A.length := by rw [List.length_append, always_len]
  have h1 := fnd_le (isF f.1 f.2) (alwaysL ++ A) 0
  have h2 := fnd_le (isN f.1) (alwaysL ++ A) 0
  intro x hx
  unfold enc1 at hx
  split at hx
  · exact put_bytes _ 7 128 ⟨by omega, by omega, by decide, by decide, by decide, by decide, by decide⟩ x hx
  · rcases List.mem_append.1 hx with hx | hx
    · exact put_bytes _ 6 64 ⟨by omega, by omega, by decide, by decide, by decide, by decide, by decide⟩ x hx
    · rcases List.mem_append.1 hx with hx | hx
      · split at hx
        · exact txt_byte _ (nums_mem f.1) x hx
        · simp at hx
      · exact txt_byte _ (nums_mem f.2) x hx
theorem encL_byte {mx : Int} : ∀ (r : List (ByteArray × ByteArray)) {A : List (ByteArray × ByteArray)}, Fit mx A → ∀ x ∈ (encL mx A r).1, 0 ≤ x ∧ x < 256
  | [], _, _, x, hx => by simp [encL] at hx
  | f :: r, A, h, x, hx => by
    have hx' : x ∈ (enc1 mx A f).1 ++ (encL mx (enc1 mx A f).2 r).1 := hx
    rcases List.mem_append.1 hx' with h1 | h1
    · exact enc1_byte mx A f h.len x h1
    · exact encL_byte r (h.enc1 f) x h1
theorem szL_byte (z : List Int) (h : ∀ x ∈ z, 0 ≤ x ∧ x ≤ 4096) : ∀ x ∈ szL z, 0 ≤ x ∧ x < 256 := by
  intro x hx
  by_cases hz : z = []
  · rw [hz] at hx; simp [szL] at hx
  · rw [szL_ne z hz] at hx
    have hb := leastOf_bd z 4096 hz h
    have hla : z.getLastD 0 ∈ z := by
      cases z with
      | nil => exact absurd rfl hz
      | cons y r => simp [List.getLastD]
    rcases List.mem_append.1 hx with h1 | h1
    · exact put_bytes _ 5 32 (putOk_sz _ hb.1 hb.2) x h1
    · split at h1
      · exact put_bytes _ 5 32 (putOk_sz _ (h _ hla).1 (h _ hla).2) x h1
      · simp at h1
theorem HFit.enc {st : CSt} (h : HFit st) (L : List (ByteArray × ByteArray)) : HFit { st with sz := [], AO := (encL st.mo st.AO L).2 } :=
  ⟨Fit.encL L h.out, h.inn, h.hmost, fun x hx => by simp at hx, fun h => absurd rfl h⟩
theorem dszL_len (z : List Int) : (szL z).length ≤ 12 := by
  by_cases h : z = []
  · rw [h]; decide
  · rw [szL_ne z h, List.length_append]
    have h1 := (putL_len (leastOf z) 5 32).2
    have h2 := (putL_len (z.getLastD 0) 5 32).2
    split
    · omega
    · simp only [List.length_nil]; omega
set_option maxHeartbeats 8000000 in
theorem hencode_yes (cb : Nat) (st : CSt) (S : Nat → Prop) (a : Option Addr) (len cap : Nat) (L : List (ByteArray × ByteArray)) (w : World) (hC : HCod w cb st S) (hF : HFit st) (hA : ∀ wx, Off S w wx → FArg wx a len cap L) (hok : ¬ tooMuch L) :
    Calls Tryz.prog 10 #[.pointer (some ⟨cb, 0, none⟩), .slice a len cap] w fun e w' => ∃ v, e = .returned (.tuple #[v, .nilIface]) ∧ w'.ownsRow w.heap.size 5 1 v (szL st.sz ++ (encL st.mo st.AO L).1).length ((szL st.sz ++ (encL st.mo st.AO L).1).map (Value.int .u8)) ∧ Off S w w' ∧
      ∃ S', (∀ k, S' k → S k ∨ w.heap.size ≤ k) ∧ (∀ k, v.ownBlock = some k → ¬ S' k) ∧ HCod w' cb { st with sz := [], AO := (encL st.mo st.AO L).2 } S' := by
  obtain ⟨i0, hi, hz0, hz1, hz2⟩ := info_parts info5
  have hA0 := hA w (Off.of_below (Below.refl _ _))
  have hlen := hA0.len
  have hl40 : len ≤ 40 := by rw [← hlen]; exact Nat.le_of_not_lt (fun h => hok (Or.inl h))
  have hw2 : weight L ≤ 2000 := Nat.le_of_not_lt (fun h => hok (Or.inr (Or.inl h)))
  have hsm : ∀ f ∈ L, small f := fun f hf => Classical.byContradiction (fun h => hok (Or.inr (Or.inr ⟨f, hf, h⟩)))
  have hmay := hmay_any a len cap L w hA0 (by omega) (fun _ => by omega) true (by simp; omega)
  have HC := hide hC
  have HF := hide hF
  have HA := hide hA
  have HSM := hide hsm
  have HLN := hide hlen
  have hcl := hC.hlt cb hC.hcb
  clear hC hF hA hsm hok hA0 hlen
  go_enter Tryz.func10, Tryz.ntmps10
  go_wp2_with fail
  refine hmay.mono ?_
  rintro e w1 ⟨rfl, hb1⟩
  have hc := hcont_no a len cap L w1 (HA.out w1 (Off.of_below hb1)) HSM.out
  clear hmay
  go_wp2_with fail
  refine hc.mono ?_
  rintro e w2 ⟨rfl, hb2⟩
  have hB2 := hb1.trans (hb2.mono hb1.size)
  have hs2 := hB2.size
  have ht := htells_any cb st S w2 (HC.out.below hB2) HF.out
  clear hc hb1 hb2
  go_wp2_with fail
  refine ht.mono ?_
  rintro e w3 ⟨⟨v3, rfl, hown3⟩, hoff3, hC3⟩
  have HO3 := hide (own_mono (base' := w.heap.size) hown3 hs2)
  have HC3 := hide hC3
  have HF3 := hide ((Off.of_below (S := S) hB2).trans hoff3)
  have HN3 : Hid (∀ k, v3.ownBlock = some k → ¬ S k) := fun k hk hs => by
    have h1 := (hown3.lt k hk).1
    have h2 := HC.out.hlt k hs
    omega
  have hs3 := hoff3.size
  have hZl := dszL_len st.sz
  clear ht hown3 hoff3 hC3
  go_wp2_with fail
  go_loopw [6, 21] (fun b i wr => ∃ j : Nat, i = .int .i64 j ∧ j ≤ len ∧ wr.ownsRow w.heap.size 5 1 b (szL st.sz ++ (encL st.mo st.AO (L.take j)).1).length ((szL st.sz ++ (encL st.mo st.AO (L.take j)).1).map (Value.int .u8)) ∧ Off S w wr ∧
      ∃ T, (∀ k, T k → S k ∨ w.heap.size ≤ k) ∧ (∀ k, b.ownBlock = some k → ¬ T k) ∧ HCod wr cb { st with sz := [], AO := (encL st.mo st.AO (L.take j)).2 } T) (fun _ i _ => len - (intOf i).toNat)
  case atStart => exact ⟨0, rfl, by omega, by simpa [encL] using HO3.out, HF3.out, S, fun k hk => Or.inl hk, HN3.out, by simpa [encL] using HC3.out⟩
  case round =>
    obtain ⟨j, rfl, hj, hown, hoff, T, hT, hN, hCo⟩ := hrel
    have HO := hide hown
    have HOF := hide hoff
    have HT := hide hT
    have HN := hide hN
    have HCo := hide hCo
    have hsr := hoff.size
    clear hown hoff hT hN hCo HO3 HC3 HF3 HN3
    by_cases hlt : j < len
    · rcases HA.out wr HOF.out with ⟨h0, _⟩ | ⟨g, off, rfl, hr⟩
      · omega
      have c1 := hr.hname j hlt
      have c2 := hr.hvalue j hlt
      have hcap := hr.hcap
      have hmx := hr.hmax
      unfold maxLen at hmx
      clear hr
      have HST := hide (encL_take st.mo st.AO L j (by rw [HLN.out]; exact hlt))
      have hss := HSM.out _ (getD_mem (L := L) (k := j) (by rw [HLN.out]; exact hlt))
      generalize hfe : L.getD j fnone = f at *
      obtain ⟨n, v⟩ := f
      have hPl : (szL st.sz ++ (encL st.mo st.AO (L.take j)).1).length ≤ 41000 := by
        have h1 := encL_len st.mo (L.take j) st.AO (fun f hf => HSM.out f (List.mem_of_mem_take hf))
        have h2 := dszL_len st.sz
        rw [List.length_take, HLN.out] at h1
        rw [List.length_append]
        omega
      clear hfe
      have hFj := HF.out.enc (L.take j)
      have hAl := (Fit.encL (L.take j) HF.out.out).len
      have hel := (fld_back st.mo (encL st.mo st.AO (L.take j)).2 (n, v) [] hss hAl).2.2
      have hem := enc1_len st.mo (encL st.mo st.AO (L.take j)).2 (n, v) hss
      have heb := enc1_byte st.mo (encL st.mo st.AO (L.take j)).2 (n, v) hAl
      obtain ⟨w0, hw0⟩ : ∃ w0, w0 = wr.alloc (.cells #[.string n, .string v] 60) := ⟨_, rfl⟩
      have hb0 : Below wr.heap.size wr w0 := by rw [hw0]; exact (Below.refl _ _).alloc (Nat.le_refl _) _
      have hs0 := hb0.size
      have htf := htellf_any cb { st with sz := [], AO := (encL st.mo st.AO (L.take j)).2 } T n v w0 (HCo.out.below hb0) hFj hss
      simp only at htf
      generalize (encL st.mo st.AO (L.take j)).2 = A at *
      generalize hP : szL st.sz ++ (encL st.mo st.AO (L.take j)).1 = P at *
      have HP := hide hP
      generalize enc1 st.mo A (n, v) = X at *
      obtain ⟨X, A'⟩ := X
      simp only at htf hel hem heb
      clear hP hFj
      go_wp2_with fail
      rw [← hw0]
      clear hw0
      refine htf.mono ?_
      rintro e w5 ⟨⟨x, rfl, hown5⟩, hoff5, T5, hT5, hC5⟩
      obtain ⟨g5, cap5, rfl⟩ := shape_n hown5 hel
      have HR5 := hide (row_of rfl hown5 heb)
      have HC5 := hide hC5
      have hs5 := hoff5.size
      have HO5 : Hid (w5.ownsRow w.heap.size 5 1 u6 P.length (P.map (Value.int .u8))) := own_kept HO.out (fun k hk => (hoff5.block k (by have := (HO.out.lt k hk).2; omega) (HN.out k hk)).trans (hb0.block k (HO.out.lt k hk).2))
      have HN5 : Hid (∀ k, u6.ownBlock = some k → ¬ T5 k ∧ w.heap.size ≤ k) := fun k hk => ⟨fun h => by
        rcases hT5 k h with h1 | h1
        · exact HN.out k hk h1
        · have := (HO.out.lt k hk).2; omega, (HO.out.lt k hk).1⟩
      have HT5 : Hid (∀ k, T5 k → S k ∨ w.heap.size ≤ k) := fun k hk => by
        rcases hT5 k hk with h1 | h1
        · exact HT.out k h1
        · right; omega
      have HF5 : Hid (Off S w w5) := (HOF.out.trans (Off.of_below hb0)).trans2 hoff5 HT.out
      obtain ⟨_, ub, uc, rfl, _⟩ := slen_own HO5.out
      clear htf hown5 hoff5 hT5 hC5 HO HN HT HOF HCo
      go_wp2_with (at_builtin; refine wpList_append_own_at _ rfl _ _ 35 rfl w.heap.size 5 i0 _ 1 1 Tryz.underlying35 hi hz0 hz1 hz2 rfl (by decide) _ _ _ rfl HO5.out ⟨g5, 0, none⟩ X.length cap5 (X.map (Value.int .u8)) rfl (by simp) (row_news HR5.out) (one_bytes X) ?c3 ?c4 ?c5 ?_)
      case c3 => unfold maxLen; omega
      case c4 => omega
      case c5 => omega
      intro v6 w6 hown6 hgrow6 _ hat6
      have HO6 := hide hown6
      have HG6 := hide hgrow6
      have HA6 := hide hat6
      clear hown6 hgrow6 hat6
      go_wp2
      go_roundw
      case rel =>
        have hal := HC.out.alw.pos
        have eE : szL st.sz ++ (encL st.mo st.AO (L.take (j + 1))).1 = P ++ X := by rw [HST.out, ← HP.out, List.append_assoc]
        refine ⟨j + 1, by go_num, by omega, ?_, HF5.out.trans2 (off_grown HG6.out) (fun k hk => Or.inr (HN5.out k hk).2), T5, HT5.out, fun k hk hT => ?_, ?_⟩
        · rw [eE, List.length_append, List.map_append]; exact HO6.out
        · rcases HA6.out with h1 | h1
          · exact (HN5.out k (h1.symm.trans hk)).1 hT
          · rw [h1] at hk
            cases hk
            have := HC5.out.hlt _ hT
            omega
        · rw [HST.out]
          exact HC5.out.frame HG6.out.size (fun k hk => HG6.out.block k (HC5.out.hlt k hk) (fun e => (HN5.out k e.symm).1 hk)) (HG6.out.block _ (by omega) (fun e => by have := (HN5.out _ e.symm).2; omega))
      case measure => simp [intOf]; omega
    · have e : L.take j = L := List.take_of_length_le (by rw [HLN.out]; omega)
      rw [e] at HO HCo
      go_wp2
      go_ret2
      exact ⟨_, rfl, HO.out, HOF.out, T, HT.out, HN.out, HCo.out⟩
end Go.Proofs.YtkjfhgoddhigmacGreatDoor
/-
  CONTRACT of the method readNumber of head.Coder. No claim by itself.
-/
namespace Go.Proofs.YtkjfhgoddhigmacGreatDoor
open Go.RowKit
set_option maxRecDepth 100000
/-- What is known of a box for a field's two texts, and of stores into it. -/
theorem box_rules {w : World} {B : Nat} {n v : Value} (h : w.heap[B]? = some (.cells #[n, v] 60 (0, 0))) :
    (w.cell? ⟨B, 0, none⟩ = some n ∧ w.cell? ⟨B, 1, none⟩ = some v ∧ w.frozen? ⟨B, 0, none⟩ = false ∧ w.frozen? ⟨B, 1, none⟩ = false) ∧
    (∀ a, (w.setCell ⟨B, 0, none⟩ a).cell? ⟨B, 0, none⟩ = some a ∧ (w.setCell ⟨B, 0, none⟩ a).cell? ⟨B, 1, none⟩ = some v) ∧
    ∀ a b, ((w.setCell ⟨B, 0, none⟩ a).setCell ⟨B, 1, none⟩ b).heap[B]? = some (.cells #[a, b] 60 (0, 0)) := by
  have h1 : ∀ a, (w.setCell ⟨B, 0, none⟩ a).heap[B]? = some (.cells #[a, v] 60 (0, 0)) := fun a => by rw [heap_set h]; rfl
  refine ⟨⟨(cell_at h 0).trans rfl, (cell_at h 1).trans rfl, frozen_at h 0, frozen_at h 1⟩, fun a => ⟨(cell_at (h1 a) 0).trans rfl, (cell_at (h1 a) 1).trans rfl⟩, fun a b => by rw [heap_set (h1 a)]; rfl⟩
theorem box_at {w : World} {B : Nat} {n v : Value} (h : w.heap[B]? = some (.cells #[n, v] 60 (0, 0))) : w.cell? ⟨B, 0, none⟩ = some n ∧ w.cell? ⟨B, 1, none⟩ = some v := ⟨(cell_at h 0).trans rfl, (cell_at h 1).trans rfl⟩
/-- Get of bytes that are handed in. -/
theorem get_arg (a : Option Addr) (len cap : Nat) (Z : List Int) (b : Int) (w : World) (hA : Arg w a len cap Z) (h1 : 1 ≤ b) (h2 : b ≤ 8) : ∃ x, Err (getF Z b).2.2 x ∧
    Calls Tryz.prog 63 #[.slice a len cap, .int .i64 b] w fun e w' => e = .returned (.tuple #[.int .i64 (getF Z b).1, .int .i64 (getF Z b).2.1, x]) ∧ w = w' := by
  obtain ⟨n, u, k, hg⟩ : ∃ n u k, getF Z b = (n, u, k) := ⟨_, _, _, rfl⟩
  obtain ⟨x, hx⟩ : ∃ x, Err k x := by
    by_cases hk : k = 0
    · exact ⟨_, Or.inl ⟨hk, rfl⟩⟩
    · exact ⟨_, Or.inr ⟨hk, rfl⟩⟩
  rw [hg]
  refine ⟨x, hx, ?_⟩
  have key : Calls Tryz.prog 63 #[.slice a len cap, .int .i64 b] w fun e w' => (∃ n u x, e = .returned (.tuple #[.int .i64 n, .int .i64 u, x]) ∧ Told3 (getF Z b) n u x) ∧ w = w' := by
    rcases hA with ⟨rfl, rfl⟩ | ⟨g, off, rfl, hr⟩
    · exact get_nil a cap b w h1 h2
    · exact get_row g off len cap Z b w hr
  refine key.mono ?_
  rintro e w' ⟨⟨n', u', x', rfl, hg'⟩, rfl⟩
  rw [hg] at hg'
  rcases hg' with ⟨h, rfl⟩ | ⟨k', hk', h, rfl⟩
  · cases h
    rcases hx with ⟨_, rfl⟩ | ⟨h, _⟩
    · exact ⟨rfl, rfl⟩
    · exact absurd rfl h
  · cases h
    rcases hx with ⟨h, _⟩ | ⟨_, rfl⟩
    · exact absurd h hk'
    · exact ⟨rfl, rfl⟩
/-- What reading a field gives. -/
def FldTold (t : (ByteArray × ByteArray) × Int × Int) (e : Ending) : Prop := ∃ x, e = .returned (.tuple #[.agg #[.string t.1.1, .string t.1.2], .int .i64 t.2.1, x]) ∧ Err t.2.2 x
theorem fld_told {t : (ByteArray × ByteArray) × Int × Int} {n v : ByteArray} {u k : Int} {x : Value} (h : t = ((n, v), u, k)) (hx : Err k x) : FldTold t (.returned (.tuple #[.agg #[.string n, .string v], .int .i64 u, x])) := ⟨x, by rw [h], by rw [h]; exact hx⟩
/-- A coder that may read: its table. -/
theorem HCod.inn {w : World} {cb : Nat} {st : CSt} {S : Nat → Prop} (h : HCod w cb st S) (hb : st.bad = false) : ∃ ti SI, w.cell? ⟨cb, 3, none⟩ = some (.pointer (some ⟨ti, 0, none⟩)) ∧ TabP w ti st.mi st.AI SI ∧ (∀ k, SI k → S k ∧ k ≠ cb) := by
  obtain ⟨to, SO, vi, hh, _, _, h1 | ⟨_, ti, SI, rfl, hT, hd⟩⟩ := h.cells
  · rw [hb] at h1; exact absurd h1.1 (by decide)
  · exact ⟨ti, SI, (cell_at hh 3).trans rfl, hT, fun k hk => ⟨(hd k hk).1, (hd k hk).2.1⟩⟩
set_option maxHeartbeats 4000000 in
theorem hnum_any (cb : Nat) (st : CSt) (S : Nat → Prop) (a : Option Addr) (len cap : Nat) (Z : List Int) (w : World) (hC : HCod w cb st S) (hF : HFit st) (hbad : st.bad = false) (hA : Arg w a len cap Z) :
    Calls Tryz.prog 64 #[.pointer (some ⟨cb, 0, none⟩), .slice a len cap] w fun e w' => FldTold (numF st.AI Z) e ∧ Below w.heap.size w w' := by
  obtain ⟨w0, hw0⟩ : ∃ w0, w0 = w.alloc (.cells #[.string ⟨#[]⟩, .string ⟨#[]⟩] 60) := ⟨_, rfl⟩
  have hb0 : Below w.heap.size w w0 := by rw [hw0]; exact (Below.refl _ _).alloc (Nat.le_refl _) _
  have hsz0 : w.heap.size + 1 ≤ w0.heap.size := by rw [hw0]; simp
  have hbx : w0.heap[w.heap.size]? = some (.cells #[.string ⟨#[]⟩, .string ⟨#[]⟩] 60 (0, 0)) := by rw [hw0]; exact Array.getElem?_push_size
  have hcl := hC.hlt cb hC.hcb
  obtain ⟨ti, SI, c3, hT, hS⟩ := (hC.below hb0).inn hbad
  obtain ⟨x, hx, hget⟩ := get_arg a len cap Z 7 w0 (hA.below hb0) (by decide) (by decide)
  have HN : Hid (numF st.AI Z = if (getF Z 7).2.2 ≠ 0 then (fnone, 0, (getF Z 7).2.2) else if 1 ≤ (getF Z 7).1 ∧ (getF Z 7).1 ≤ ((12 + st.AI.length : Nat) : Int) then ((alwaysL ++ st.AI).getD ((getF Z 7).1 - 1).toNat fnone, (getF Z 7).2.1, 0) else (fnone, 0, 5)) := rfl
  generalize numF st.AI Z = N at *
  generalize (getF Z 7).2.2 = k at *
  generalize (getF Z 7).2.1 = u at *
  generalize (getF Z 7).1 = n at *
  have htg := tget ti st.mi st.AI SI n w0 hT hF.inn
  have hL : (alwaysL ++ st.AI).length = 12 + st.AI.length := by rw [List.length_append, always_len]
  have HX := hide hx
  have HBX := hide hbx
  clear hx hT hC hF hA
  by_cases hk : k = 0
  · subst hk
    have hxn : x = .nilIface := by
      rcases HX.out with h | h
      · exact h.2
      · exact absurd rfl h.1
    subst hxn
    clear hbx
    go_enter Tryz.func64, Tryz.ntmps64
    go_wp2_with fail
    rw [← hw0]
    clear hw0
    refine hget.mono ?_
    rintro e w' ⟨rfl, rfl⟩
    clear hget
    go_wp2_with fail
    refine htg.mono ?_
    rintro e w1 ⟨v, rfl, hgot, hb1⟩
    have hB1 := hb0.trans (hb1.mono (by omega))
    have h1x : w1.heap[w.heap.size]? = some (.cells #[.string ⟨#[]⟩, .string ⟨#[]⟩] 60 (0, 0)) := (hb1.block _ (by omega)).trans HBX.out
    obtain ⟨⟨q0, q1, f0, f1⟩, qa, qb⟩ := box_rules h1x
    have qa0 := fun a => (qa a).1
    have qa1 := fun a => (qa a).2
    have qc := fun a b => (box_at (qb a b)).1
    have qd := fun a b => (box_at (qb a b)).2
    have qbr := fun a b => box_rules (qb a b)
    have qe := fun a b c => ((qbr a b).2.1 c).1
    have qf := fun a b c => ((qbr a b).2.1 c).2
    have qg := fun a b c d => (box_at ((qbr a b).2.2 c d)).1
    have qh := fun a b c d => (box_at ((qbr a b).2.2 c d)).2
    have HG := hide hgot
    clear htg hgot qa qb qbr h1x
    rcases HG.out with ⟨g1, g2, rfl⟩ | ⟨gn, rfl⟩
    · have HE : Hid (N = ((alwaysL ++ st.AI).getD (n - 1).toNat fnone, u, 0)) := by
        show N = _
        rw [HN.out, if_neg (by simp), if_pos (by rw [hL] at g2; omega)]
      clear HG HN g1 g2
      generalize (alwaysL ++ st.AI).getD (n - 1).toNat fnone = f at *
      obtain ⟨fn, fv⟩ := f
      unfold fval
      go_wp2
      (try simp only [Exit.inBlock, Exit.then])
      refine bodyPost_ret (by simp [results, Tryz.results64, go_sem, qg, qh]; try rfl) rfl ?_
      refine ⟨fld_told HE.out (Or.inl ⟨rfl, rfl⟩), ?_⟩
      repeat (first | exact hB1 | refine Below.setCell ?_ (by simp) _)
    · have HE : Hid (N = ((⟨#[]⟩, ⟨#[]⟩), 0, 5)) := by
        show N = _
        rw [HN.out, if_neg (by simp), if_neg (by rw [hL] at gn; exact gn)]; rfl
      clear HG HN gn
      unfold fval
      go_wp2
      (try simp only [Exit.inBlock, Exit.then])
      refine bodyPost_ret (by simp [results, Tryz.results64, go_sem, qg, qh]; try rfl) rfl ?_
      refine ⟨fld_told HE.out (Or.inr ⟨by decide, rfl⟩), ?_⟩
      repeat (first | exact hB1 | refine Below.setCell ?_ (by simp) _)
  · have HE : Hid (N = ((⟨#[]⟩, ⟨#[]⟩), 0, k)) := by
      show N = _
      rw [HN.out, if_pos hk]; rfl
    have hxn : x = .iface 53 (.int .i64 k) := by
      rcases HX.out with h | h
      · exact absurd h.1 hk
      · exact h.2
    subst hxn
    obtain ⟨⟨q0, q1, f0, f1⟩, qa, qb⟩ := box_rules hbx
    have qa0 := fun a => (qa a).1
    have qa1 := fun a => (qa a).2
    have qc := fun a b => (box_at (qb a b)).1
    have qd := fun a b => (box_at (qb a b)).2
    clear htg HN hbx qa qb
    go_enter Tryz.func64, Tryz.ntmps64
    go_wp2_with fail
    rw [← hw0]
    clear hw0
    refine hget.mono ?_
    rintro e w' ⟨rfl, rfl⟩
    clear hget
    go_wp2
    (try simp only [Exit.inBlock, Exit.then])
    refine bodyPost_ret (by simp [results, Tryz.results64, go_sem, qc, qd]; try rfl) rfl ?_
    refine ⟨fld_told HE.out (Or.inr ⟨hk, rfl⟩), ?_⟩
    repeat (first | exact hb0 | refine Below.setCell ?_ (by simp) _)
end Go.Proofs.YtkjfhgoddhigmacGreatDoor
/-
  CONTRACT of the method readName of head.Coder. No claim by itself.
-/
namespace Go.Proofs.YtkjfhgoddhigmacGreatDoor
open Go.RowKit
set_option maxRecDepth 100000
/-- What lies behind so many bytes, wherever the cut lays it. -/
theorem tail_row {w : World} {g off len cap : Nat} {Z : List Int} (h : Row w g off len cap Z) (u : Nat) (hu : u ≤ len) :
    ∃ o, (if cap = u then some (⟨g, off, none⟩ : Addr) else some ⟨g, off + u, none⟩) = some ⟨g, o, none⟩ ∧ Row w g o (len - u) (cap - u) (Z.drop u) := by
  obtain ⟨o, ho, hr⟩ := cut_row h u (len - u) (by omega)
  have e : (Z.drop u).take (len - u) = Z.drop u := List.take_of_length_le (by rw [List.length_drop, h.hlen]; omega)
  rw [e] at hr
  exact ⟨o, ho, hr⟩
theorem rtF_zero (Z : List Int) (h : (rtF Z).2.2 ≠ 0) : (rtF Z).2.1 = 0 := by
  unfold rtF at h ⊢
  split
  · rfl
  · rename_i h1
    rw [if_neg h1] at h
    split
    · rfl
    · rename_i h2
      rw [if_neg h2] at h
      split
      · rfl
      · rename_i h3
        rw [if_neg h3] at h
        unfold rtB at h ⊢
        generalize (if 127 < Z.getD 0 0 then decF ((Z.drop (getF Z 7).2.1.toNat).take (getF Z 7).1.toNat) else some ((Z.drop (getF Z 7).2.1.toNat).take (getF Z 7).1.toNat)) = d at h ⊢
        match d with
        | none => rfl
        | some s =>
          by_cases q1 : 400 < s.length
          · rw [rtE_long _ _ _ q1]
          · by_cases q2 : txtL s = Z.take ((getF Z 7).2.1.toNat + (getF Z 7).1.toNat)
            · rw [rtE_ok _ _ _ (by omega) q2] at h; exact absurd rfl h
            · rw [rtE_bad _ _ _ (by omega) q2]
/-- A name, by its number or as a text: the name, how many bytes, the fault. -/
def nmF (A : List (ByteArray × ByteArray)) (Z : List Int) (b : Int) : ByteArray × Int × Int :=
  if (getF Z b).2.2 ≠ 0 then (⟨#[]⟩, 0, (getF Z b).2.2)
  else if 0 < (getF Z b).1 then (if (getF Z b).1 ≤ ((12 + A.length : Nat) : Int) then (((alwaysL ++ A).getD ((getF Z b).1 - 1).toNat fnone).1, (getF Z b).2.1, 0) else (⟨#[]⟩, (getF Z b).2.1, 5))
  else (strOfNums (rtF (Z.drop (getF Z b).2.1.toNat)).1, (getF Z b).2.1 + (rtF (Z.drop (getF Z b).2.1.toNat)).2.1, (rtF (Z.drop (getF Z b).2.1.toNat)).2.2)
theorem lit_nm (A : List (ByteArray × ByteArray)) (Z : List Int) (b : Int) (h1 : 1 ≤ b) (h2 : b ≤ 8) : litF A Z b = if (nmF A Z b).2.2 ≠ 0 then (fnone, 0, (nmF A Z b).2.2) else litV Z (nmF A Z b).1 (nmF A Z b).2.1.toNat := by
  have hb := getF_bd Z b h1 h2
  have hr := rtF_bd (Z.drop (getF Z b).2.1.toNat)
  unfold litF nmF
  by_cases hk : (getF Z b).2.2 ≠ 0
  · rw [if_pos hk, if_pos hk]
    simp only [if_pos hk]
  · rw [if_neg hk, if_neg hk]
    have hb' := hb (by simpa using hk)
    by_cases hn : 0 < (getF Z b).1
    · by_cases hl : (getF Z b).1 ≤ ((12 + A.length : Nat) : Int)
      · rw [if_neg (by omega), if_pos hn, if_pos hn, if_pos hl, if_neg (by simp)]
      · rw [if_pos (by omega), if_pos hn, if_neg hl, if_pos (by simp)]
    · rw [if_neg (by omega), if_neg hn, if_neg hn]
      by_cases hq : (rtF (Z.drop (getF Z b).2.1.toNat)).2.2 ≠ 0
      · rw [if_pos hq]
        simp only [if_pos hq]
      · have hr' := hr (by simpa using hq)
        rw [if_neg hq]
        simp only [if_neg hq]
        congr 1
        omega
theorem nm_bd (A : List (ByteArray × ByteArray)) (Z : List Int) (b : Int) (h1 : 1 ≤ b) (h2 : b ≤ 8) (h : (nmF A Z b).2.2 = 0) : 1 ≤ (nmF A Z b).2.1 ∧ (nmF A Z b).2.1 ≤ Z.length := by
  have hb := getF_bd Z b h1 h2
  have hr := rtF_bd (Z.drop (getF Z b).2.1.toNat)
  unfold nmF at h ⊢
  by_cases hk : (getF Z b).2.2 ≠ 0
  · rw [if_pos hk] at h; exact absurd h hk
  · rw [if_neg hk] at h ⊢
    have hb' := hb (by simpa using hk)
    by_cases hn : 0 < (getF Z b).1
    · rw [if_pos hn] at h ⊢
      by_cases hl : (getF Z b).1 ≤ ((12 + A.length : Nat) : Int)
      · rw [if_pos hl]; exact hb'.2
      · rw [if_neg hl] at h; simp at h
    · rw [if_neg hn] at h ⊢
      have hr' := hr h
      rw [List.length_drop] at hr'
      show 1 ≤ _ + _ ∧ _ + _ ≤ _
      omega
/-- What readName gives. -/
def NmTold (t : ByteArray × Int × Int) (e : Ending) : Prop := ∃ x, e = .returned (.tuple #[.string t.1, .int .i64 t.2.1, x]) ∧ Err t.2.2 x
theorem nm_told {t : ByteArray × Int × Int} {n : ByteArray} {u k : Int} {x : Value} (h : t = (n, u, k)) (hx : Err k x) : NmTold t (.returned (.tuple #[.string n, .int .i64 u, x])) := ⟨x, by rw [h], by rw [h]; exact hx⟩
set_option maxHeartbeats 4000000 in
theorem hname_any (cb : Nat) (st : CSt) (S : Nat → Prop) (a : Option Addr) (len cap : Nat) (Z : List Int) (b : Int) (w : World) (hC : HCod w cb st S) (hF : HFit st) (hbad : st.bad = false) (hA : Arg w a len cap Z) (hb1 : 1 ≤ b) (hb2 : b ≤ 8) (hlm : len ≤ 140737488351232) :
    Calls Tryz.prog 80 #[.pointer (some ⟨cb, 0, none⟩), .slice a len cap, .int .i64 b] w fun e w' => NmTold (nmF st.AI Z b) e ∧ Below w.heap.size w w' := by
  have hcl := hC.hlt cb hC.hcb
  obtain ⟨ti, SI, c3, hT, hS⟩ := hC.inn hbad
  obtain ⟨x, hx, hget⟩ := get_arg a len cap Z b w hA hb1 hb2
  have hbd := getF_bd Z b hb1 hb2
  have HX := hide hx
  by_cases hk : (getF Z b).2.2 = 0
  · have hbd' := hbd hk
    rcases hA with ⟨rfl, rfl⟩ | ⟨g, off, rfl, hr⟩
    · have := hbd'.2; simp at this; omega
    have hxn : x = .nilIface := by
      rcases HX.out with h | h
      · exact h.2
      · exact absurd hk h.1
    subst hxn
    have hl := hr.hlen
    rw [hl] at hbd'
    have hcap := hr.hcap
    have hmx := hr.hmax
    unfold maxLen at hmx
    by_cases hn : 0 < (getF Z b).1
    · have htg := tget ti st.mi st.AI SI (getF Z b).1 w hT hF.inn
      have hL : (alwaysL ++ st.AI).length = 12 + st.AI.length := by rw [List.length_append, always_len]
      have HN : Hid (nmF st.AI Z b = if (getF Z b).1 ≤ ((12 + st.AI.length : Nat) : Int) then (((alwaysL ++ st.AI).getD ((getF Z b).1 - 1).toNat fnone).1, (getF Z b).2.1, 0) else (⟨#[]⟩, (getF Z b).2.1, 5)) := by
        show nmF st.AI Z b = _
        unfold nmF; rw [if_neg (by simpa using hk), if_pos hn]
      generalize nmF st.AI Z b = N at *
      generalize (getF Z b).2.1 = u at *
      generalize (getF Z b).1 = n at *
      clear hT hC hF hr hbd HX hx hk
      have hd : decide (0 < n) = true := by simpa using hn
      go_enter Tryz.func80, Tryz.ntmps80
      go_wp2_with fail
      refine hget.mono ?_
      rintro e w' ⟨rfl, rfl⟩
      clear hget
      go_wp2_with fail
      refine htg.mono ?_
      rintro e w1 ⟨v, rfl, hgot, hbe1⟩
      have hs1 := hbe1.size
      have HG := hide hgot
      clear htg hgot
      rcases HG.out with ⟨g1, g2, rfl⟩ | ⟨gn, rfl⟩
      · have HE : Hid (N = (((alwaysL ++ st.AI).getD (n - 1).toNat fnone).1, u, 0)) := by
          show N = _
          rw [HN.out, if_pos (by rw [hL] at g2; omega)]
        clear HG HN g1 g2
        generalize (alwaysL ++ st.AI).getD (n - 1).toNat fnone = f at *
        obtain ⟨fn, fv⟩ := f
        unfold fval
        go_wp2
        go_ret3
        exact ⟨nm_told HE.out (Or.inl ⟨rfl, rfl⟩), hbe1.alloc hs1 _⟩
      · have HE : Hid (N = (⟨#[]⟩, u, 5)) := by
          show N = _
          rw [HN.out, if_neg (by rw [hL] at gn; omega)]
        clear HG HN gn
        unfold fval
        go_wp2
        go_ret3
        exact ⟨nm_told HE.out (Or.inr ⟨by decide, rfl⟩), hbe1.alloc hs1 _⟩
    · have HN : Hid (nmF st.AI Z b = (strOfNums (rtF (Z.drop (getF Z b).2.1.toNat)).1, (getF Z b).2.1 + (rtF (Z.drop (getF Z b).2.1.toNat)).2.1, (rtF (Z.drop (getF Z b).2.1.toNat)).2.2)) := by
        show nmF st.AI Z b = _
        unfold nmF; rw [if_neg (by simpa using hk), if_neg hn]
      obtain ⟨u, hu⟩ := Int.eq_ofNat_of_zero_le (show 0 ≤ (getF Z b).2.1 by omega)
      have hn0 : (getF Z b).1 = 0 := by omega
      rw [hn0] at hget
      rw [hu] at hget HN hbd'
      rw [Int.toNat_natCast] at HN
      obtain ⟨o, ho, hrow⟩ := tail_row hr u (by omega)
      have hrd := hread_any (some ⟨g, o, none⟩) (len - u) (cap - u) (Z.drop u) w (Or.inr ⟨g, o, rfl, hrow⟩) (by omega)
      have b1 : (0 : Int) ≤ (u : Int) := by omega
      have b2 : (u : Int) ≤ (len : Int) := by omega
      have b3 : (u : Int) ≤ (cap : Int) := by omega
      have hrb := rtF_bd (Z.drop u)
      have hru : 0 ≤ (rtF (Z.drop u)).2.1 ∧ (rtF (Z.drop u)).2.1 ≤ len := by
        by_cases h : (rtF (Z.drop u)).2.2 = 0
        · have := hrb h
          rw [List.length_drop, hl] at this
          omega
        · have e := rtF_zero _ h
          omega
      generalize nmF st.AI Z b = N at *
      clear hT hC hF hr hbd HX hx hk hrb hn0 hn hu hrow
      go_enter Tryz.func80, Tryz.ntmps80
      go_wp2_with fail
      refine hget.mono ?_
      rintro e w' ⟨rfl, rfl⟩
      clear hget
      go_wp2_with fail
      refine hrd.mono ?_
      rintro e w1 ⟨⟨x1, rfl, hx1⟩, hbe1⟩
      have HX1 := hide hx1
      clear hrd hx1
      generalize rtF (Z.drop u) = R at *
      obtain ⟨r1, r2, r3⟩ := R
      simp only at hru HX1 HN
      go_wp2
      go_ret3
      exact ⟨nm_told HN.out HX1.out, hbe1⟩
  · have HN : Hid (nmF st.AI Z b = (⟨#[]⟩, 0, (getF Z b).2.2)) := by
      show nmF st.AI Z b = _
      unfold nmF; rw [if_pos hk]
    have hxn : x = .iface 53 (.int .i64 (getF Z b).2.2) := by
      rcases HX.out with h | h
      · exact absurd h.1 hk
      · exact h.2
    subst hxn
    generalize nmF st.AI Z b = N at *
    generalize (getF Z b).2.2 = k at *
    generalize (getF Z b).2.1 = u at *
    generalize (getF Z b).1 = n at *
    clear hT hC hF hbd HX hx hA
    go_enter Tryz.func80, Tryz.ntmps80
    go_wp2_with fail
    refine hget.mono ?_
    rintro e w' ⟨rfl, rfl⟩
    clear hget
    go_wp2
    go_ret3
    exact ⟨nm_told HN.out (Or.inr ⟨hk, rfl⟩), Below.refl _ _⟩
end Go.Proofs.YtkjfhgoddhigmacGreatDoor
