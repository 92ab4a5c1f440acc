/-
  CODERS OF FIELDS: what they hold; the document's coder in memory, New and Resize. No claim by itself.
-/
import Derived.Deep.AppendLies
import Derived.Deep.RegionLaw
import Derived.Test.YtkjfhgoddhigmacGreatDoorM26
import Derived.Test.YtkjfhgoddhigmacGreatDoorM01
import Derived.Test.YtkjfhgoddhigmacGreatDoorM08
import Derived.Test.YtkjfhgoddhigmacGreatDoorM23
import Derived.Test.YtkjfhgoddhigmacGreatDoorM15
namespace Go.Proofs.YtkjfhgoddhigmacGreatDoor
open Go.RowKit
set_option maxRecDepth 100000
/-- The document's coder in memory. -/
structure CodR (w : World) (cb : Nat) (st : CSt) (S : Nat → Prop) : Prop where
  hcb : S cb
  hlt : ∀ k, S k → k < w.heap.size
  hmost : w.cell? ⟨cb, 4, none⟩ = some (.int .i64 st.most)
  hbad : w.cell? ⟨cb, 6, none⟩ = some (.bool st.bad)
  hfz : w.frozen? ⟨cb, 5, none⟩ = false ∧ w.frozen? ⟨cb, 6, none⟩ = false
  hrest : ∃ v, w.cell? ⟨cb, 5, none⟩ = some v ∧ w.ownsRow 0 3 1 v st.sz.length (st.sz.map (Value.int .i64)) ∧ (∀ k, v.ownBlock = some k → S k ∧ k ≠ cb) ∧
    TabR w cb 0 st.mo st.AO (fun q => S q ∧ v.ownBlock ≠ some q) ∧ TabR w cb 2 st.mi st.AI (fun q => S q ∧ v.ownBlock ≠ some q)
theorem CodR.frame {w w' : World} {cb : Nat} {st : CSt} {S : Nat → Prop} (h : CodR w cb st S) (hs : w.heap.size ≤ w'.heap.size) (hk : ∀ k, S k → w'.heap[k]? = w.heap[k]?) : CodR w' cb st S := by
  obtain ⟨h1, h2, h3, h4, h5, v, h6, h7, h8, h9, h10⟩ := h
  have hc : ∀ i, w'.cell? ⟨cb, i, none⟩ = w.cell? ⟨cb, i, none⟩ := fun i => World.cell?_of_block (w := w) (a := ⟨cb, i, none⟩) (hk cb h1)
  have hf : ∀ i, w'.frozen? ⟨cb, i, none⟩ = w.frozen? ⟨cb, i, none⟩ := fun i => World.frozen?_of_block (w := w) (a := ⟨cb, i, none⟩) (hk cb h1)
  exact ⟨h1, fun k hk => Nat.lt_of_lt_of_le (h2 k hk) hs, (hc _).trans h3, (hc _).trans h4, ⟨(hf _).trans h5.1, (hf _).trans h5.2⟩, v, (hc _).trans h6, own_kept h7 (fun k e => hk k (h8 k e).1), h8, h9.kept (hk cb h1) (fun q _ hq => hk q hq.1), h10.kept (hk cb h1) (fun q _ hq => hk q hq.1)⟩
theorem CodR.below {w w' : World} {cb : Nat} {st : CSt} {S : Nat → Prop} (h : CodR w cb st S) (hb : Below w.heap.size w w') : CodR w' cb st S := h.frame hb.size (fun k hk => hb.block k (h.hlt k hk))
theorem rcnew_any (max : Int) (w : World) : Calls Tryz.prog 6 #[.int .i64 max] w fun e w' => ∃ cb S, e = .returned (.pointer (some ⟨cb, 0, none⟩)) ∧ CodR w' cb ⟨max, max, max, [], [], [], false⟩ S ∧ (∀ k, S k → w.heap.size ≤ k) ∧ Below w.heap.size w w' := by
  go_enter Tryz.func6, Tryz.ntmps6
  go_wp2
  go_ret
  have hn : (w.alloc (.cells #[.slice none 0 0, .int .i64 max, .slice none 0 0, .int .i64 max, .int .i64 max, .slice none 0 0, .bool false] 58)).heap[w.heap.size]? = some (.cells #[.slice none 0 0, .int .i64 max, .slice none 0 0, .int .i64 max, .int .i64 max, .slice none 0 0, .bool false] 58 (0, 0)) := Array.getElem?_push_size
  have hc : ∀ i, (w.alloc (.cells #[.slice none 0 0, .int .i64 max, .slice none 0 0, .int .i64 max, .int .i64 max, .slice none 0 0, .bool false] 58)).cell? ⟨w.heap.size, i, none⟩ = (#[.slice none 0 0, .int .i64 max, .slice none 0 0, .int .i64 max, .int .i64 max, .slice none 0 0, .bool false] : Array Value)[i]? := fun i => cell_of_row _ _ i _ _ _ hn
  have hf : ∀ i, (w.alloc (.cells #[.slice none 0 0, .int .i64 max, .slice none 0 0, .int .i64 max, .int .i64 max, .slice none 0 0, .bool false] 58)).frozen? ⟨w.heap.size, i, none⟩ = false := fun i => by unfold World.frozen?; rw [hn]; simp
  refine ⟨w.heap.size, fun k => k = w.heap.size, rfl, ⟨rfl, fun k hk => by rw [hk]; simp, by rw [hc]; rfl, by rw [hc]; rfl, ⟨hf _, hf _⟩, .slice none 0 0, by rw [hc]; rfl, World.ownsRow_nil _ _ _ _, fun k hk => by simp [Value.ownBlock] at hk, ⟨by rw [hc]; rfl, ⟨hf _, hf _⟩, _, by rw [hc]; rfl, Or.inl ⟨rfl, rfl⟩⟩, ⟨by rw [hc]; rfl, ⟨hf _, hf _⟩, _, by rw [hc]; rfl, Or.inl ⟨rfl, rfl⟩⟩⟩, fun k hk => by omega, (Below.refl _ _).alloc (Nat.le_refl _) _⟩
end Go.Proofs.YtkjfhgoddhigmacGreatDoor
/-
  CONTRACT of the method Resize of tollref1.C. No claim by itself.
-/
namespace Go.Proofs.YtkjfhgoddhigmacGreatDoor
open Go.RowKit
set_option maxRecDepth 100000
/-- A table whose own cells and list are as they were is as it was. -/
theorem TabR.same {w w' : World} {tb o : Nat} {max : Int} {A : List (ByteArray × ByteArray)} {G : Nat → Prop} (h : TabR w tb o max A G) (hc : ∀ i, i = o ∨ i = o + 1 → w'.cell? ⟨tb, i, none⟩ = w.cell? ⟨tb, i, none⟩) (hf : ∀ i, i = o ∨ i = o + 1 → w'.frozen? ⟨tb, i, none⟩ = w.frozen? ⟨tb, i, none⟩)
    (hb : ∀ k, k < w.heap.size → k ≠ tb → G k → w'.heap[k]? = w.heap[k]?) : TabR w' tb o max A G := by
  obtain ⟨h1, h2, v, h3, h4⟩ := h
  refine ⟨(hc _ (Or.inr rfl)).trans h1, ⟨(hf _ (Or.inl rfl)).trans h2.1, (hf _ (Or.inr rfl)).trans h2.2⟩, v, (hc _ (Or.inl rfl)).trans h3, ?_⟩
  rcases h4 with h4 | ⟨g, cap, hv, hg, hG, hr⟩
  · exact Or.inl h4
  · have hne : ∀ t, t < A.length → A ≠ [] := fun t ht e => by rw [e] at ht; simp at ht
    refine Or.inr ⟨g, cap, hv, hg, hG, hr.hlen, hr.hcap, hr.hmax, fun t ht => ?_, fun t ht => ?_⟩
    · have k := hr.hname t ht
      exact (World.cell?_of_block (w := w) (a := ⟨g, _, none⟩) (hb g (blk_lt k) hg (hG (hne t ht)))).trans k
    · have k := hr.hvalue t ht
      exact (World.cell?_of_block (w := w) (a := ⟨g, _, none⟩) (hb g (blk_lt k) hg (hG (hne t ht)))).trans k
theorem info3 : (Tryz.prog.info? 3).map (fun i => (i.zero, i.size, i.bytes)) = some (some (.int .i64 0), 1, 8) := by kernel_rfl
theorem Off.of_but {S : Nat → Prop} {tb o : Nat} {w w' : World} (h : But tb o w w') (ht : S tb) : Off S w w' := ⟨h.os, h.tape, h.output, h.size, fun k hk hn => h.block k hk (fun e => hn (e ▸ ht))⟩
set_option maxHeartbeats 4000000 in
theorem rcresize_any (cb : Nat) (st : CSt) (S : Nat → Prop) (n : Int) (w : World) (hC : CodR w cb st S) (hF : CFit st) :
    Calls Tryz.prog 7 #[.pointer (some ⟨cb, 0, none⟩), .int .i64 n] w fun e w' => e = .returned (.tuple #[]) ∧ Off S w w' ∧ ∃ S', CodR w' cb { st with mo := n, AO := st.AO.take (keepN st.AO n st.AO.length), sz := st.sz ++ [n] } S' ∧ ∀ k, S' k → S k ∨ w.heap.size ≤ k := by
  obtain ⟨i0, hi, hz0, hz1, hz2⟩ := info_parts info3
  obtain ⟨hcb, hlt, hmost, hbad, hfz, v, hv, hown, hvS, hout, hinn⟩ := hC
  have hcl := hlt cb hcb
  have hwA : weight st.AO ≤ 1152921504606846976 := by have h1 := hF.out.h1; have h2 := hF.out.h2; omega
  have hszl := hF.hlen
  have c1 := hout.hmax
  have f1 := hout.hfz.2
  obtain ⟨w1, hw1⟩ : ∃ w1, w1 = w.setCell ⟨cb, 1, none⟩ (.int .i64 n) := ⟨_, rfl⟩
  have hout1 : TabR w1 cb 0 n st.AO (fun q => S q ∧ v.ownBlock ≠ some q) := by rw [hw1]; exact hout.setMax n
  have hs1 : w1.heap.size = w.heap.size := by rw [hw1]; simp
  have hO1 : Off S w w1 := by rw [hw1]; exact (Off.of_below (Below.refl _ w)).setCell cb 1 hcb _
  have hce1 : ∀ i, i ≠ 1 → w1.cell? ⟨cb, i, none⟩ = w.cell? ⟨cb, i, none⟩ := fun i hi => by rw [hw1]; exact World.cell?_setCell_other w ⟨cb, 1, none⟩ ⟨cb, i, none⟩ _ (by intro h; cases h; exact hi rfl)
  have hfr1 : ∀ i, w1.frozen? ⟨cb, i, none⟩ = w.frozen? ⟨cb, i, none⟩ := fun i => by rw [hw1, World.frozen?_setCell]
  have hbl1 : ∀ k, k ≠ cb → w1.heap[k]? = w.heap[k]? := fun k hk => by rw [hw1]; exact Below.heap_setCell w ⟨cb, 1, none⟩ _ k hk
  have hsh := rshrink_any cb 0 n n st.AO w1 hout1 hwA
  have HSH := hide hsh
  clear hsh hout1
  go_enter Tryz.func7, Tryz.ntmps7
  go_wp2_with fail
  rw [← hw1]
  refine HSH.out.mono ?_
  rintro e w2 ⟨rfl, hbut, hout2⟩
  have hs2 := hbut.size
  have k5 : w2.cell? ⟨cb, 5, none⟩ = some v := (hbut.cells 5 (by decide) (by omega)).trans ((hce1 5 (by decide)).trans hv)
  have g5 : w2.frozen? ⟨cb, 5, none⟩ = false := (hbut.froz 5 (by omega)).trans ((hfr1 5).trans hfz.1)
  have hown2 : w2.ownsRow 0 3 1 v st.sz.length (st.sz.map (Value.int .i64)) := own_kept hown (fun k hk => (hbut.block k (by have := hlt k (hvS k hk).1; omega) (hvS k hk).2).trans (hbl1 k (hvS k hk).2))
  have hinn2 : TabR w2 cb 2 st.mi st.AI (fun q => S q ∧ v.ownBlock ≠ some q) := hinn.same (fun i hi => (hbut.cells i (by omega) (by omega)).trans (hce1 i (by omega))) (fun i _ => (hbut.froz i (by omega)).trans (hfr1 i)) (fun k hk hn _ => (hbut.block k (by omega) hn).trans (hbl1 k hn))
  have m4 : w2.cell? ⟨cb, 4, none⟩ = some (.int .i64 st.most) := (hbut.cells 4 (by decide) (by omega)).trans ((hce1 4 (by decide)).trans hmost)
  have m6 : w2.cell? ⟨cb, 6, none⟩ = some (.bool st.bad) := (hbut.cells 6 (by decide) (by omega)).trans ((hce1 6 (by decide)).trans hbad)
  have g6 : w2.frozen? ⟨cb, 6, none⟩ = false := (hbut.froz 6 (by omega)).trans ((hfr1 6).trans hfz.2)
  have hO2 : Off S w w2 := hO1.trans (Off.of_but hbut hcb)
  have hcl2 : cb < w2.heap.size := by omega
  have hvne : v.ownBlock ≠ some cb := fun h => (hvS cb h).2 rfl
  have HOWN := hide ((hown2.alloc (.cells #[.int .i64 n] 3)))
  have H1 := hide hout2
  have H2 := hide hinn2
  have H3 := hide hO2
  have H4 := hide hvS
  have H5 := hide hlt
  have M4 := hide m4
  have M6 := hide m6
  have G6 := hide g6
  clear hw1 hown hown2 hout2 hinn2 hO2 hvS hlt hbut hout hinn hce1 hfr1 hbl1 hO1 HSH hF m4 m6 g6 hmost hbad hv
  have HNW := hide (World.news_of_block (w := w2.alloc (.cells #[.int .i64 n] 3)) (B := w2.heap.size) (cs := #[.int .i64 n]) (t := 3) (fr := (0, 0)) Array.getElem?_push_size)
  go_wp2_with (at_builtin; refine wpList_append_own_at _ rfl _ _ 23 rfl 0 3 i0 _ 1 8 Tryz.underlying23 hi hz0 hz1 hz2 rfl (by decide) _ _ _ rfl HOWN.out ⟨w2.heap.size, 0, none⟩ 1 1 [.int .i64 n] rfl rfl HNW.out (by simp [Value.oneCell']) ?c3 ?c4 (Nat.zero_le _) ?_)
  case c3 => unfold maxLen; omega
  case c4 => omega
  intro v' w3 hown' hgrow hnil hat
  obtain ⟨g, cap, rfl, _, hglt⟩ := World.ownsRow.form hown' (by omega)
  have hs3 := hgrow.size
  simp at hs3
  have hb2 : Below w2.heap.size w2 (w2.alloc (.cells #[.int .i64 n] 3)) := (Below.refl _ _).alloc (Nat.le_refl _) _
  have hkeep : ∀ k, k < w2.heap.size → v.ownBlock ≠ some k → w3.heap[k]? = w2.heap[k]? := fun k hk hn => (hgrow.block k (by simp; omega) (fun e => hn e.symm)).trans (hb2.block k hk)
  have hcb3 : w3.heap[cb]? = w2.heap[cb]? := hkeep cb hcl2 hvne
  have k53 : w3.cell? ⟨cb, 5, none⟩ = some v := (World.cell?_of_block (w := w2) (a := ⟨cb, 5, none⟩) hcb3).trans k5
  have g53 : w3.frozen? ⟨cb, 5, none⟩ = false := (World.frozen?_of_block (w := w2) (a := ⟨cb, 5, none⟩) hcb3).trans g5
  have HOW := hide hown'
  have HGR := hide hgrow
  have HAT := hide hat
  have HKP := hide hkeep
  have HC3 := hide hcb3
  clear hown' hgrow hat hkeep hcb3 hnil
  go_wp2
  go_end0
  have hgat : v.ownBlock = some g ∨ g = w2.heap.size + 1 := by
    rcases HAT.out with h | h
    · exact Or.inl h.symm
    · right; simp [Value.ownBlock] at h; exact h
  have hgc : g ≠ cb := by
    rcases hgat with h | h
    · exact (H4.out g h).2
    · omega
  have hce : ∀ i, i ≠ 5 → (w3.setCell ⟨cb, 5, none⟩ (.slice (some ⟨g, 0, none⟩) (st.sz.length + 1) cap)).cell? ⟨cb, i, none⟩ = w2.cell? ⟨cb, i, none⟩ := fun i hi =>
    (World.cell?_setCell_other w3 ⟨cb, 5, none⟩ ⟨cb, i, none⟩ _ (by intro h; cases h; exact hi rfl)).trans (World.cell?_of_block (w := w2) (a := ⟨cb, i, none⟩) HC3.out)
  have hfe : ∀ i, (w3.setCell ⟨cb, 5, none⟩ (.slice (some ⟨g, 0, none⟩) (st.sz.length + 1) cap)).frozen? ⟨cb, i, none⟩ = w2.frozen? ⟨cb, i, none⟩ := fun i => by
    rw [World.frozen?_setCell]; exact World.frozen?_of_block (w := w2) (a := ⟨cb, i, none⟩) HC3.out
  have hbl : ∀ k, k < w2.heap.size → k ≠ cb → v.ownBlock ≠ some k → (w3.setCell ⟨cb, 5, none⟩ (.slice (some ⟨g, 0, none⟩) (st.sz.length + 1) cap)).heap[k]? = w2.heap[k]? := fun k hk hn hv => (Below.heap_setCell w3 ⟨cb, 5, none⟩ _ k hn).trans (HKP.out k hk hv)
  have hs4 : (w3.setCell ⟨cb, 5, none⟩ (.slice (some ⟨g, 0, none⟩) (st.sz.length + 1) cap)).heap.size = w3.heap.size := by simp
  have hne : ∀ q, q < w2.heap.size → S q ∧ v.ownBlock ≠ some q → (S q ∨ q = g) ∧ (Value.slice (some ⟨g, 0, none⟩) (st.sz.length + 1) cap).ownBlock ≠ some q := fun q hq h => ⟨Or.inl h.1, fun e => by
    simp [Value.ownBlock] at e
    rcases hgat with h2 | h2
    · exact h.2 (by rw [h2, e])
    · omega⟩
  refine ⟨rfl, ?_, fun k => S k ∨ k = g, ⟨Or.inl hcb, fun k hk => ?_, (hce 4 (by decide)).trans M4.out, (hce 6 (by decide)).trans M6.out, ⟨(hfe 5).trans g5, (hfe 6).trans G6.out⟩, _, World.cell?_setCell_same w3 _ _ k53, ?_, ?_, ?_, ?_⟩, fun k hk => ?_⟩
  · exact ((H3.out.trans (Off.of_below ((Below.refl _ w2).alloc (Nat.le_refl _) (.cells #[.int .i64 n] 3)))).trans ((off_grown HGR.out).mono (fun k hk => (H4.out k hk).1))).setCell cb 5 hcb _
  · rw [hs4]
    rcases hk with h | h
    · have := H5.out k h; omega
    · omega
  · rw [List.length_append, List.map_append]
    exact own_kept HOW.out (fun k hk => Below.heap_setCell w3 ⟨cb, 5, none⟩ _ k (by simp [Value.ownBlock] at hk; rw [← hk]; exact hgc))
  · intro k hk
    simp [Value.ownBlock] at hk
    exact ⟨Or.inr hk.symm, by omega⟩
  · exact (H1.out.same (fun i hi => hce i (by omega)) (fun i _ => hfe i) (fun k hk hn hG => hbl k hk hn hG.2)).imp (fun q _ hq => hne q (by have := H5.out q hq.1; omega) hq)
  · exact (H2.out.same (fun i hi => hce i (by omega)) (fun i _ => hfe i) (fun k hk hn hG => hbl k hk hn hG.2)).imp (fun q _ hq => hne q (by have := H5.out q hq.1; omega) hq)
  · rcases hk with h | h
    · exact Or.inl h
    · rcases hgat with h2 | h2
      · exact Or.inl (h ▸ (H4.out g h2).1)
      · right; omega
end Go.Proofs.YtkjfhgoddhigmacGreatDoor
/-
  CONTRACT of the method literal of tollref1.C. No claim by itself.
-/
namespace Go.Proofs.YtkjfhgoddhigmacGreatDoor
open Go.RowKit
set_option maxRecDepth 100000
/-- Get of the document, of bytes that are handed in. -/
theorem rget_arg (a : Option Addr) (len cap : Nat) (Z : List Int) (b : Int) (w : World) (hA : Arg w a len cap Z) (h1 : 1 ≤ b) (h2 : b ≤ 8) :
    Calls Tryz.prog 46 #[.slice a len cap, .int .i64 b] w fun e w' => e = .returned (.tuple #[.int .i64 (getF Z b).1, .int .i64 (getF Z b).2.1, .int .i64 (getF Z b).2.2]) ∧ w = w' := by
  rcases hA with ⟨rfl, rfl⟩ | ⟨g, off, rfl, hr⟩
  · refine (rget_nil a cap b w h1 h2).mono ?_
    rintro e w' ⟨⟨n, u, k, rfl, hg⟩, rfl⟩
    rw [hg]
    exact ⟨rfl, rfl⟩
  · refine (rget_row g off len cap Z b w hr).mono ?_
    rintro e w' ⟨⟨n, u, k, rfl, hg⟩, rfl⟩
    rw [hg]
    exact ⟨rfl, rfl⟩
def lval2 (r : (ByteArray × ByteArray) × Int × Int) : Value := .tuple #[.agg #[.string r.1.1, .string r.1.2], .int .i64 r.2.1, .int .i64 r.2.2]
set_option maxHeartbeats 8000000 in
theorem rlit_any (cb : Nat) (mi : Int) (A : List (ByteArray × ByteArray)) (G : Nat → Prop) (a : Option Addr) (len cap : Nat) (Z : List Int) (b : Int) (w : World) (hT : TabR w cb 2 mi A G) (hAl : A.length ≤ 1048576) (hA : Arg w a len cap Z) (hb1 : 1 ≤ b) (hb2 : b ≤ 8) (hlm : len ≤ 4611686018427387904) :
    Calls Tryz.prog 47 #[.pointer (some ⟨cb, 0, none⟩), .slice a len cap, .int .i64 b] w fun e w' => e = .returned (lval2 (litF A Z b)) ∧ Below w.heap.size w w' := by
  obtain ⟨w0, hw0⟩ : ∃ w0, w0 = w.alloc (.cells #[.string ⟨#[]⟩, .string ⟨#[]⟩] 60) := ⟨_, rfl⟩
  have hbe0 : Below w.heap.size w w0 := by rw [hw0]; exact (Below.refl _ _).alloc (Nat.le_refl _) _
  have hsz0 : w0.heap.size = w.heap.size + 1 := by rw [hw0]; simp
  have k0 : w0.heap[w.heap.size]? = some (.cells #[.string ⟨#[]⟩, .string ⟨#[]⟩] 60 (0, 0)) := by rw [hw0]; exact Array.getElem?_push_size
  have hget := rget_arg a len cap Z b w0 (hA.below hbe0) hb1 hb2
  have hbd := getF_bd Z b hb1 hb2
  have HAR : Hid (∀ wx, Below w.heap.size w wx → Arg wx a len cap Z) := fun wx hb => hA.below hb
  have HT : Hid (∀ wx, Below w.heap.size w wx → TabR wx cb 2 mi A G) := fun wx hb => hT.below hb
  have hZl : Z.length = len := by
    rcases hA with ⟨rfl, rfl⟩ | ⟨_, _, _, hr⟩
    · rfl
    · exact hr.hlen
  rw [hZl] at hbd
  have HZL := hide hZl
  have HL := hide (show litF A Z b = _ from rfl)
  clear hT
  by_cases hk : (getF Z b).2.2 = 0
  · obtain ⟨n0, u1, u2⟩ := hbd hk
    rcases hA with ⟨rfl, rfl⟩ | ⟨g, off, rfl, hrow0⟩
    · omega
    have hcap := hrow0.hcap
    have hmx := hrow0.hmax
    unfold maxLen at hmx
    clear hrow0
    obtain ⟨u, hu⟩ := Int.eq_ofNat_of_zero_le (show 0 ≤ (getF Z b).2.1 by omega)
    obtain ⟨m, hm⟩ := Int.eq_ofNat_of_zero_le n0
    have HLF : Hid (litF A Z b = if ((12 + A.length : Nat) : Int) < (m : Int) then (fnone, 0, 5) else if 0 < (m : Int) then litV Z ((alwaysL ++ A).getD ((m : Int) - 1).toNat fnone).1 u else if (rtF (Z.drop u)).2.2 ≠ 0 then (fnone, 0, (rtF (Z.drop u)).2.2) else litV Z (strOfNums (rtF (Z.drop u)).1) (u + (rtF (Z.drop u)).2.1.toNat)) := by
      show litF A Z b = _
      unfold litF
      rw [if_neg (by simpa using hk), hm, hu, Int.toNat_natCast]
    rw [hm, hu, hk] at hget
    have hul : u ≤ len := by omega
    have hu1 : 1 ≤ u := by omega
    obtain ⟨w1, hw1⟩ : ∃ w1, w1 = w0.alloc (.cells #[.string ⟨#[]⟩, .string ⟨#[]⟩] 60) := ⟨_, rfl⟩
    have hbe1 : Below w0.heap.size w0 w1 := by rw [hw1]; exact (Below.refl _ _).alloc (Nat.le_refl _) _
    have hB1 := hbe0.trans (hbe1.mono (by omega))
    have k11 : w1.heap[w.heap.size]? = some (.cells #[.string ⟨#[]⟩, .string ⟨#[]⟩] 60 (0, 0)) := (hbe1.block _ (by omega)).trans k0
    have k12 : w1.heap[w.heap.size + 1]? = some (.cells #[.string ⟨#[]⟩, .string ⟨#[]⟩] 60 (0, 0)) := by rw [hw1, ← hsz0]; exact Array.getElem?_push_size
    have hall := rall_any cb 2 mi A w1 (HT.out w1 hB1) hAl
    generalize litF A Z b = R at *
    have K11 := hide k11
    have K12 := hide k12
    have HB1 := hide hB1
    have HSZ0 := hide hsz0
    clear hbd hk hu hm n0 u1 u2 k0 k11 k12 hbe1 HL hZl hsz0 hB1 hbe0
    go_enter Tryz.func47, Tryz.ntmps47
    go_wp2_with fail
    rw [← hw0]
    clear hw0
    refine hget.mono ?_
    rintro e w' ⟨rfl, rfl⟩
    clear hget
    go_wp2_with fail
    rw [← hw1, HSZ0.out]
    clear hw1
    refine hall.mono ?_
    rintro e w2 ⟨gg, cc, rfl, hfr, hbe2⟩
    have HB2 := hide (HB1.out.trans (hbe2.mono HB1.out.size))
    have K21 : Hid (w2.heap[w.heap.size]? = some (.cells #[.string ⟨#[]⟩, .string ⟨#[]⟩] 60 (0, 0))) := (hbe2.block _ (lt_of_heap K11.out)).trans K11.out
    have K22 : Hid (w2.heap[w.heap.size + 1]? = some (.cells #[.string ⟨#[]⟩, .string ⟨#[]⟩] 60 (0, 0))) := (hbe2.block _ (lt_of_heap K12.out)).trans K12.out
    have hfl := hfr.hlen
    have hfc := hfr.hcap
    have hfm := hfr.hmax
    unfold maxLen at hfm
    have HFR := hide hfr
    clear hall hfr hbe2 K11 K12 HB1
    by_cases hbig : 12 + A.length < m
    · have hd : decide (((12 + A.length : Nat) : Int) < (m : Int)) = true := by simp; omega
      have HE : Hid (R = ((⟨#[]⟩, ⟨#[]⟩), 0, 5)) := by
        show R = _
        rw [HLF.out, if_pos (by omega)]; rfl
      obtain ⟨⟨q0, q1, f0, f1⟩, qa, qb⟩ := box_rules K21.out
      have qa0 := fun a => (qa a).1
      have qa1 := fun a => (qa a).2
      have qc := fun a b => (box_at (qb a b)).1
      have qd := fun a b => (box_at (qb a b)).2
      clear qa qb hfl HLF
      generalize 12 + A.length = nA at *
      go_wp2
      (try simp only [Exit.inBlock, Exit.then])
      refine bodyPost_ret (by simp [results, Tryz.results47, go_sem, qc, qd]; try rfl) rfl ?_
      refine ⟨by rw [HE.out]; rfl, ?_⟩
      exact Below.setCell (Below.setCell HB2.out (by simp) _) (by simp) _
    · have hd : decide (((12 + A.length : Nat) : Int) < (m : Int)) = false := by simp; omega
      by_cases hm0 : 0 < m
      · obtain ⟨m', rfl⟩ : ∃ m', m = m' + 1 := ⟨m - 1, by omega⟩
        have hd2 : decide ((0 : Int) < (m' : Int) + 1) = true := decide_eq_true (by omega)
        have hd3 : decide (((12 + A.length : Nat) : Int) < (m' : Int) + 1) = false := decide_eq_false (by omega)
        have HR : Hid (R = litV Z ((alwaysL ++ A).getD m' fnone).1 u) := by
          show R = _
          rw [HLF.out, if_neg (by omega), if_pos (by omega), show (((m' + 1 : Nat) : Int) - 1).toNat = m' by omega]
        have cn := HFR.out.hname m' (by omega)
        obtain ⟨⟨q0, q1, f0, f1⟩, _, _⟩ := box_rules K22.out
        have im1 : (m' : Int) < ((12 + A.length : Nat) : Int) := by omega
        rw [Nat.zero_add] at cn
        clear HLF hfl HFR hd
        generalize 12 + A.length = nA at *
        generalize (alwaysL ++ A).getD m' fnone = fx at *
        obtain ⟨nm, fv⟩ := fx
        simp only at HR cn
        obtain ⟨w3, hw3⟩ : ∃ w3, w3 = w2.setCell ⟨w.heap.size + 1, 0, none⟩ (.string nm) := ⟨_, rfl⟩
        have K1 : Hid (w3.heap[w.heap.size]? = some (.cells #[.string ⟨#[]⟩, .string ⟨#[]⟩] 60 (0, 0))) := by
          show w3.heap[w.heap.size]? = _
          rw [hw3]; exact (Below.heap_setCell w2 ⟨w.heap.size + 1, 0, none⟩ _ w.heap.size (by simp)).trans K21.out
        have K2 : Hid (w3.heap[w.heap.size + 1]? = some (.cells #[.string nm, .string ⟨#[]⟩] 60 (0, 0))) := by
          show w3.heap[w.heap.size + 1]? = _
          rw [hw3, heap_set K22.out]; rfl
        have HBn : Hid (Below w.heap.size w w3) := by show Below _ _ _; rw [hw3]; exact Below.setCell HB2.out (by simp) _
        have hp : u ≤ len := hul
        rcases HAR.out w3 HBn.out with ⟨h0, _⟩ | ⟨g', off', e', hr⟩
        · omega
        cases e'
        obtain ⟨o2, ho2, hrow2⟩ := tail_row hr u hp
        have hrd2 := rread_any (some ⟨g, o2, none⟩) (len - u) (cap - u) (Z.drop u) w3 (Or.inr ⟨g, o2, rfl, hrow2⟩) (by omega)
        have c1 : (0 : Int) ≤ (u : Int) := by omega
        have c2 : (u : Int) ≤ (len : Int) := by omega
        have c3 : (u : Int) ≤ (cap : Int) := by omega
        have HRB := hide (rtF_bd (Z.drop u))
        have HV : Hid (litV Z nm u = if (rtF (Z.drop u)).2.2 ≠ 0 then (fnone, 0, (rtF (Z.drop u)).2.2) else ((nm, strOfNums (rtF (Z.drop u)).1), (u : Int) + (rtF (Z.drop u)).2.1, 0)) := rfl
        have HLD : Hid ((Z.drop u).length + u ≤ len) := by show (Z.drop u).length + u ≤ len; rw [List.length_drop, HZL.out]; omega
        unfold rval at hrd2
        have hsn := HBn.out.size
        clear hr hrow2
        go_wp2_with fail
        rw [← hw3]
        clear hw3
        refine hrd2.mono ?_
        rintro e wz ⟨rfl, hbz⟩
        have HBz := hide (HBn.out.trans (hbz.mono hsn))
        have K1z : wz.heap[w.heap.size]? = some (.cells #[.string ⟨#[]⟩, .string ⟨#[]⟩] 60 (0, 0)) := (hbz.block _ (lt_of_heap K1.out)).trans K1.out
        have K2z : wz.heap[w.heap.size + 1]? = some (.cells #[.string nm, .string ⟨#[]⟩] 60 (0, 0)) := (hbz.block _ (lt_of_heap K2.out)).trans K2.out
        obtain ⟨⟨q0, q1, f0, f1⟩, qa, qb⟩ := box_rules K1z
        have qa0 := fun a => (qa a).1
        have qa1 := fun a => (qa a).2
        have qc := fun a b => (box_at (qb a b)).1
        have qd := fun a b => (box_at (qb a b)).2
        clear hrd2 hbz qa qb
        generalize rtF (Z.drop u) = T at *
        obtain ⟨t1, t2, t3⟩ := T
        simp only
        simp only at HRB HV
        by_cases ht : t3 = 0
        · subst ht
          have hrb := HRB.out rfl
          have hld := HLD.out
          have HE2 : Hid (R = ((nm, strOfNums t1), (u : Int) + t2, 0)) := by
            show R = _
            rw [HR.out, HV.out, if_neg (by simp)]
          have t2a : 0 ≤ t2 := by omega
          have t2b : (u : Int) + t2 ≤ 4611686018427387904 := by omega
          obtain ⟨⟨r0, r1, rf0, rf1⟩, _, _⟩ := box_rules K2z
          obtain ⟨wy, hwy⟩ : ∃ wy, wy = wz.setCell ⟨w.heap.size + 1, 1, none⟩ (.string (strOfNums t1)) := ⟨_, rfl⟩
          have K2y : wy.heap[w.heap.size + 1]? = some (.cells #[.string nm, .string (strOfNums t1)] 60 (0, 0)) := by rw [hwy, heap_set K2z]; rfl
          have K1y : wy.heap[w.heap.size]? = some (.cells #[.string ⟨#[]⟩, .string ⟨#[]⟩] 60 (0, 0)) := by
            rw [hwy]; exact (Below.heap_setCell wz ⟨w.heap.size + 1, 1, none⟩ _ w.heap.size (by simp)).trans K1z
          have HBy : Hid (Below w.heap.size w wy) := by show Below _ _ _; rw [hwy]; exact Below.setCell HBz.out (by simp) _
          obtain ⟨y0, y1⟩ := box_at K2y
          obtain ⟨⟨p0, p1, pf0, pf1⟩, pa, pb⟩ := box_rules K1y
          have pa0 := fun a => (pa a).1
          have pa1 := fun a => (pa a).2
          have pc := fun a b => (box_at (pb a b)).1
          have pd := fun a b => (box_at (pb a b)).2
          rw [hwy] at y0 y1 p0 p1 pf0 pf1 pa0 pa1 pc pd
          clear hrb hld K1z K2z K2y K1y pa pb
          go_wp2
          (try simp only [Exit.inBlock, Exit.then])
          refine bodyPost_ret (by simp [results, Tryz.results47, go_sem, pc, pd]; try rfl) rfl ?_
          refine ⟨by rw [HE2.out]; rfl, ?_⟩
          rw [← hwy]
          exact Below.setCell (Below.setCell HBy.out (by simp) _) (by simp) _
        · have HE2 : Hid (R = ((⟨#[]⟩, ⟨#[]⟩), 0, t3)) := by
            show R = _
            rw [HR.out, HV.out, if_pos ht]; rfl
          have dt : (t3 != 0) = true := by simpa using ht
          clear K1z K2z
          go_wp2
          (try simp only [Exit.inBlock, Exit.then])
          refine bodyPost_ret (by simp [results, Tryz.results47, go_sem, qc, qd]; try rfl) rfl ?_
          refine ⟨by rw [HE2.out]; rfl, ?_⟩
          exact Below.setCell (Below.setCell HBz.out (by simp) _) (by simp) _
      · obtain rfl : m = 0 := by omega
        have HR0 : Hid (R = if (rtF (Z.drop u)).2.2 ≠ 0 then (fnone, 0, (rtF (Z.drop u)).2.2) else litV Z (strOfNums (rtF (Z.drop u)).1) (u + (rtF (Z.drop u)).2.1.toNat)) := by
          show R = _
          rw [HLF.out, if_neg (by omega), if_neg (by omega)]
        have hd0 : decide (((12 + A.length : Nat) : Int) < 0) = false := decide_eq_false (by omega)
        rcases HAR.out w2 HB2.out with ⟨h0, _⟩ | ⟨g', off', e', hr⟩
        · omega
        cases e'
        obtain ⟨o1, ho1, hrow1⟩ := tail_row hr u hul
        have hrd1 := rread_any (some ⟨g, o1, none⟩) (len - u) (cap - u) (Z.drop u) w2 (Or.inr ⟨g, o1, rfl, hrow1⟩) (by omega)
        unfold rval at hrd1
        have e1 : (0 : Int) ≤ (u : Int) := by omega
        have e2 : (u : Int) ≤ (len : Int) := by omega
        have e3 : (u : Int) ≤ (cap : Int) := by omega
        have HRB1 := hide (rtF_bd (Z.drop u))
        have HLD1 : Hid ((Z.drop u).length + u ≤ len) := by show (Z.drop u).length + u ≤ len; rw [List.length_drop, HZL.out]; omega
        have hs2 := HB2.out.size
        clear hr hrow1 HLF hfl HFR hd
        generalize 12 + A.length = nA at *
        go_wp2_with fail
        refine hrd1.mono ?_
        rintro e w3 ⟨rfl, hb3⟩
        have HB3 := hide (HB2.out.trans (hb3.mono hs2))
        have K31 : Hid (w3.heap[w.heap.size]? = some (.cells #[.string ⟨#[]⟩, .string ⟨#[]⟩] 60 (0, 0))) := (hb3.block _ (lt_of_heap K21.out)).trans K21.out
        have K32 : Hid (w3.heap[w.heap.size + 1]? = some (.cells #[.string ⟨#[]⟩, .string ⟨#[]⟩] 60 (0, 0))) := (hb3.block _ (lt_of_heap K22.out)).trans K22.out
        clear hrd1 hb3 K21 K22 HB2 ho1
        generalize rtF (Z.drop u) = T1 at *
        obtain ⟨a1, a2, a3⟩ := T1
        simp only
        simp only at HRB1 HR0
        by_cases ha : a3 = 0
        · subst ha
          obtain ⟨b1, b2⟩ := HRB1.out rfl
          have hld1 := HLD1.out
          obtain ⟨t, rfl⟩ := Int.eq_ofNat_of_zero_le (show 0 ≤ a2 by omega)
          have HR : Hid (R = litV Z (strOfNums a1) (u + t)) := by
            show R = _
            rw [HR0.out, if_neg (by simp), Int.toNat_natCast]
          generalize strOfNums a1 = nm at *
          have hpt : ((u : Int) + (t : Int)).toNat = u + t := by omega
          have hp : u + t ≤ len := by omega
          obtain ⟨⟨q0, q1, f0, f1⟩, _, _⟩ := box_rules K32.out
          obtain ⟨w4, hw4⟩ : ∃ w4, w4 = w3.setCell ⟨w.heap.size + 1, 0, none⟩ (.string nm) := ⟨_, rfl⟩
          have K1 : Hid (w4.heap[w.heap.size]? = some (.cells #[.string ⟨#[]⟩, .string ⟨#[]⟩] 60 (0, 0))) := by
            show w4.heap[w.heap.size]? = _
            rw [hw4]; exact (Below.heap_setCell w3 ⟨w.heap.size + 1, 0, none⟩ _ w.heap.size (by simp)).trans K31.out
          have K2 : Hid (w4.heap[w.heap.size + 1]? = some (.cells #[.string nm, .string ⟨#[]⟩] 60 (0, 0))) := by
            show w4.heap[w.heap.size + 1]? = _
            rw [hw4, heap_set K32.out]; rfl
          have HBn : Hid (Below w.heap.size w w4) := by show Below _ _ _; rw [hw4]; exact Below.setCell HB3.out (by simp) _
          clear HR0 HRB1 HLD1 b1 b2 hld1
          rcases HAR.out w4 HBn.out with ⟨h0, _⟩ | ⟨g', off', e', hr⟩
          · omega
          cases e'
          obtain ⟨o2, ho2, hrow2⟩ := tail_row hr (u + t) hp
          have hrd2 := rread_any (some ⟨g, o2, none⟩) (len - (u + t)) (cap - (u + t)) (Z.drop (u + t)) w4 (Or.inr ⟨g, o2, rfl, hrow2⟩) (by omega)
          have c1 : (0 : Int) ≤ ((u + t) : Int) := by omega
          have c2 : ((u + t) : Int) ≤ (len : Int) := by omega
          have c3 : ((u + t) : Int) ≤ (cap : Int) := by omega
          have HRB := hide (rtF_bd (Z.drop (u + t)))
          have HV : Hid (litV Z nm (u + t) = if (rtF (Z.drop (u + t))).2.2 ≠ 0 then (fnone, 0, (rtF (Z.drop (u + t))).2.2) else ((nm, strOfNums (rtF (Z.drop (u + t))).1), ((u + t) : Int) + (rtF (Z.drop (u + t))).2.1, 0)) := rfl
          have HLD : Hid ((Z.drop (u + t)).length + (u + t) ≤ len) := by show (Z.drop (u + t)).length + (u + t) ≤ len; rw [List.length_drop, HZL.out]; omega
          unfold rval at hrd2
          have hsn := HBn.out.size
          clear hr hrow2
          go_wp2_with fail
          rw [← hw4]
          clear hw4
          refine hrd2.mono ?_
          rintro e wz ⟨rfl, hbz⟩
          have HBz := hide (HBn.out.trans (hbz.mono hsn))
          have K1z : wz.heap[w.heap.size]? = some (.cells #[.string ⟨#[]⟩, .string ⟨#[]⟩] 60 (0, 0)) := (hbz.block _ (lt_of_heap K1.out)).trans K1.out
          have K2z : wz.heap[w.heap.size + 1]? = some (.cells #[.string nm, .string ⟨#[]⟩] 60 (0, 0)) := (hbz.block _ (lt_of_heap K2.out)).trans K2.out
          obtain ⟨⟨q0, q1, f0, f1⟩, qa, qb⟩ := box_rules K1z
          have qa0 := fun a => (qa a).1
          have qa1 := fun a => (qa a).2
          have qc := fun a b => (box_at (qb a b)).1
          have qd := fun a b => (box_at (qb a b)).2
          clear hrd2 hbz qa qb
          generalize rtF (Z.drop (u + t)) = T at *
          obtain ⟨t1, t2, t3⟩ := T
          simp only
          simp only at HRB HV
          by_cases ht : t3 = 0
          · subst ht
            have hrb := HRB.out rfl
            have hld := HLD.out
            have HE2 : Hid (R = ((nm, strOfNums t1), ((u + t) : Int) + t2, 0)) := by
              show R = _
              rw [HR.out, HV.out, if_neg (by simp)]
            have t2a : 0 ≤ t2 := by omega
            have t2b : ((u + t) : Int) + t2 ≤ 4611686018427387904 := by omega
            obtain ⟨⟨r0, r1, rf0, rf1⟩, _, _⟩ := box_rules K2z
            obtain ⟨wy, hwy⟩ : ∃ wy, wy = wz.setCell ⟨w.heap.size + 1, 1, none⟩ (.string (strOfNums t1)) := ⟨_, rfl⟩
            have K2y : wy.heap[w.heap.size + 1]? = some (.cells #[.string nm, .string (strOfNums t1)] 60 (0, 0)) := by rw [hwy, heap_set K2z]; rfl
            have K1y : wy.heap[w.heap.size]? = some (.cells #[.string ⟨#[]⟩, .string ⟨#[]⟩] 60 (0, 0)) := by
              rw [hwy]; exact (Below.heap_setCell wz ⟨w.heap.size + 1, 1, none⟩ _ w.heap.size (by simp)).trans K1z
            have HBy : Hid (Below w.heap.size w wy) := by show Below _ _ _; rw [hwy]; exact Below.setCell HBz.out (by simp) _
            obtain ⟨y0, y1⟩ := box_at K2y
            obtain ⟨⟨p0, p1, pf0, pf1⟩, pa, pb⟩ := box_rules K1y
            have pa0 := fun a => (pa a).1
            have pa1 := fun a => (pa a).2
            have pc := fun a b => (box_at (pb a b)).1
            have pd := fun a b => (box_at (pb a b)).2
            rw [hwy] at y0 y1 p0 p1 pf0 pf1 pa0 pa1 pc pd
            clear hrb hld K1z K2z K2y K1y pa pb
            go_wp2
            (try simp only [Exit.inBlock, Exit.then])
            refine bodyPost_ret (by simp [results, Tryz.results47, go_sem, pc, pd]; try rfl) rfl ?_
            refine ⟨by rw [HE2.out]; rfl, ?_⟩
            rw [← hwy]
            exact Below.setCell (Below.setCell HBy.out (by simp) _) (by simp) _
          · have HE2 : Hid (R = ((⟨#[]⟩, ⟨#[]⟩), 0, t3)) := by
              show R = _
              rw [HR.out, HV.out, if_pos ht]; rfl
            have dt : (t3 != 0) = true := by simpa using ht
            clear K1z K2z
            go_wp2
            (try simp only [Exit.inBlock, Exit.then])
            refine bodyPost_ret (by simp [results, Tryz.results47, go_sem, qc, qd]; try rfl) rfl ?_
            refine ⟨by rw [HE2.out]; rfl, ?_⟩
            exact Below.setCell (Below.setCell HBz.out (by simp) _) (by simp) _
        · have HE : Hid (R = ((⟨#[]⟩, ⟨#[]⟩), 0, a3)) := by
            show R = _
            rw [HR0.out, if_pos ha]; rfl
          have da : (a3 != 0) = true := by simpa using ha
          obtain ⟨⟨q0, q1, f0, f1⟩, qa, qb⟩ := box_rules K31.out
          have qa0 := fun a => (qa a).1
          have qa1 := fun a => (qa a).2
          have qc := fun a b => (box_at (qb a b)).1
          have qd := fun a b => (box_at (qb a b)).2
          clear qa qb HR0
          go_wp2
          (try simp only [Exit.inBlock, Exit.then])
          refine bodyPost_ret (by simp [results, Tryz.results47, go_sem, qc, qd]; try rfl) rfl ?_
          refine ⟨by rw [HE.out]; rfl, ?_⟩
          exact Below.setCell (Below.setCell HB3.out (by simp) _) (by simp) _
  · have HE : Hid (litF A Z b = ((⟨#[]⟩, ⟨#[]⟩), 0, (getF Z b).2.2)) := by
      show litF A Z b = _
      unfold litF; rw [if_pos hk]; rfl
    generalize litF A Z b = R at *
    generalize (getF Z b).2.2 = k at *
    generalize (getF Z b).2.1 = u at *
    generalize (getF Z b).1 = n at *
    have dk : (k != 0) = true := by simpa using hk
    obtain ⟨⟨q0, q1, f0, f1⟩, qa, qb⟩ := box_rules k0
    have qa0 := fun a => (qa a).1
    have qa1 := fun a => (qa a).2
    have qc := fun a b => (box_at (qb a b)).1
    have qd := fun a b => (box_at (qb a b)).2
    clear qa qb k0 hbd HL hsz0
    go_enter Tryz.func47, Tryz.ntmps47
    go_wp2_with fail
    rw [← hw0]
    clear hw0
    refine hget.mono ?_
    rintro e w' ⟨rfl, rfl⟩
    clear hget
    go_wp2
    (try simp only [Exit.inBlock, Exit.then])
    refine bodyPost_ret (by simp [results, Tryz.results47, go_sem, qc, qd]; try rfl) rfl ?_
    refine ⟨by rw [HE.out]; rfl, ?_⟩
    exact Below.setCell (Below.setCell hbe0 (by simp) _) (by simp) _
end Go.Proofs.YtkjfhgoddhigmacGreatDoor
