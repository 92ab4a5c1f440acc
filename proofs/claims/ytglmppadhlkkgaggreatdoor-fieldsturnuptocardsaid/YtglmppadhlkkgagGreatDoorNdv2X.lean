/-
  MESSAGES AS LINES: the developers' forms: without, goesOn, ends, holds. No claim by itself.
-/
import Derived.Test.YtglmppadhlkkgagGreatDoorNdv1X
namespace Go.Proofs.YtglmppadhlkkgagGreatDoor
open Go Go.RowKit Go.Shelf
set_option maxRecDepth 100000
attribute [local go_sem] run_store_func run_store_nilFunc
/-- Two boxes: a form, and what is left out of it. -/
theorem two_boxes (w : World) (x y z : Value) (tx ty : TypeId) : ((w.alloc (.cells #[x, y] tx)).alloc (.cells #[z] ty)).cell? ⟨w.heap.size, 0, none⟩ = some x ∧ ((w.alloc (.cells #[x, y] tx)).alloc (.cells #[z] ty)).cell? ⟨w.heap.size, 1, none⟩ = some y ∧ ((w.alloc (.cells #[x, y] tx)).alloc (.cells #[z] ty)).cell? ⟨w.heap.size + 1, 0, none⟩ = some z := by
  have h1 : ((w.alloc (.cells #[x, y] tx)).alloc (.cells #[z] ty)).heap[w.heap.size]? = some (.cells #[x, y] tx (0, 0)) := by
    rw [Below.heap_alloc _ _ _ (by simp)]
    exact heap_alloc_new w _
  have h2 : ((w.alloc (.cells #[x, y] tx)).alloc (.cells #[z] ty)).heap[w.heap.size + 1]? = some (.cells #[z] ty (0, 0)) := by
    have := heap_alloc_new (w.alloc (.cells #[x, y] tx)) (.cells #[z] ty (0, 0))
    simpa using this
  simp only [World.cell?, h1, h2]
  exact ⟨rfl, rfl, rfl⟩
theorem nwithc_any (fb ob g g2 : Nat) (lb lb2 : Array Value) (p1 p2 : Bool) (c : Int) (w : World)
    (c1 : w.cell? ⟨fb, 1, none⟩ = some (.func (.func g) #[] lb)) (c2 : w.cell? ⟨ob, 0, none⟩ = some (.func (.func g2) #[] lb2)) (hob : ob < w.heap.size)
    (eg : ∀ args w, (callFunc g args).run Tryz.prog w = .ok (.enter g args) w) (eg2 : ∀ args w, (callFunc g2 args).run Tryz.prog w = .ok (.enter g2 args) w)
    (H1 : Calls Tryz.prog g (#[.int .u8 c] ++ lb) w fun e w' => e = .returned (.bool p1) ∧ Below w.heap.size w w')
    (H2 : ∀ W, Below w.heap.size w W → Calls Tryz.prog g2 (#[.int .u8 c] ++ lb2) W fun e w' => e = .returned (.bool p2) ∧ Below W.heap.size W w') :
    Calls Tryz.prog 212 #[.int .u8 c, .pointer (some ⟨fb, 0, none⟩), .pointer (some ⟨ob, 0, none⟩)] w fun e w' => e = .returned (.bool (p1 && !p2)) ∧ Below w.heap.size w w' := by
  have K2 := vl H2
  clear H2
  cases p1 with
  | false =>
    go_enter Tryz.func212, Tryz.ntmps212
    go_wp2_with (go_at_fn g; refine H1.mono ?_; rintro e w1 ⟨rfl, hb⟩)
    go_ret
    exact ⟨rfl, hb⟩
  | true =>
    go_enter Tryz.func212, Tryz.ntmps212
    go_wp2_with fail
    refine H1.mono ?_
    rintro e w1 ⟨rfl, hb⟩
    have d2 : w1.cell? ⟨ob, 0, none⟩ = some (.func (.func g2) #[] lb2) := (hb.cell (p := ⟨ob, 0, none⟩) hob).trans c2
    have H3 := K2.out w1 hb
    have HB := vl hb
    clear H1 K2 hb
    cases p2 with
    | false =>
      go_wp2_with (go_at_fn g2; refine H3.mono ?_; rintro e w2 ⟨rfl, hb2⟩)
      go_ret
      exact ⟨rfl, HB.out.trans (hb2.mono HB.out.size)⟩
    | true =>
      go_wp2_with (go_at_fn g2; refine H3.mono ?_; rintro e w2 ⟨rfl, hb2⟩)
      go_ret
      exact ⟨rfl, HB.out.trans (hb2.mono HB.out.size)⟩
theorem nwith_any (least : Int) (F O : Value) (p q : Int → Bool) (w : World) (hF : MayF w w.heap.size F p) (hO : MayF w w.heap.size O q) :
    Calls Tryz.prog 161 #[formV least F, O] w fun e w' => ∃ G, e = .returned (formV least G) ∧ MayF w' w.heap.size G (fun c => p c && !q c) ∧ Below w.heap.size w w' := by
  obtain ⟨g, lb, rfl, eg, H1⟩ := hF
  obtain ⟨g2, lb2, rfl, eg2, H2⟩ := hO
  have HE := vl eg
  have HE2 := vl eg2
  have K1 := vl H1
  have K2 := vl H2
  clear H1 H2 eg eg2
  unfold formV
  obtain ⟨k0, k1, k2⟩ := two_boxes w (.int .i64 least) (.func (.func g) #[] lb) (.func (.func g2) #[] lb2) 154 152
  have hb0 : Below w.heap.size w ((w.alloc (.cells #[.int .i64 least, .func (.func g) #[] lb] 154)).alloc (.cells #[.func (.func g2) #[] lb2] 152)) := ((Below.refl _ w).alloc (Nat.le_refl _) _).alloc (by simp) _
  obtain ⟨W2, hW2⟩ : ∃ W2, (w.alloc (.cells #[.int .i64 least, .func (.func g) #[] lb] 154)).alloc (.cells #[.func (.func g2) #[] lb2] 152) = W2 := ⟨_, rfl⟩
  have hs2 : W2.heap.size = w.heap.size + 2 := by rw [← hW2]; simp
  have HK : Vl (∀ W, Kp w.heap.size W2 W → W.cell? ⟨w.heap.size, 1, none⟩ = some (.func (.func g) #[] lb) ∧ W.cell? ⟨w.heap.size + 1, 0, none⟩ = some (.func (.func g2) #[] lb2)) :=
    fun W hb => by
      rw [hW2] at k1 k2
      exact ⟨(World.cell?_of_block (a := ⟨w.heap.size, 1, none⟩) (hb.2 w.heap.size (Nat.le_refl _) (by omega))).trans k1, (World.cell?_of_block (a := ⟨w.heap.size + 1, 0, none⟩) (hb.2 (w.heap.size + 1) (by omega) (by omega))).trans k2⟩
  have HS2 := vl hs2
  have HW2 := vl hW2
  clear hs2 hW2
  have HB0 := vl hb0
  go_enter Tryz.func161, Tryz.ntmps161
  go_wp2
  go_returns
  refine ⟨_, rfl, ⟨212, #[.pointer (some ⟨w.heap.size, 0, none⟩), .pointer (some ⟨w.heap.size + 1, 0, none⟩)], rfl, enters_of Tryz.func212 (by kernel_rfl) rfl, fun W c hc0 hc1 hbW => ?_⟩, HB0.out.alloc (by simp; omega) _⟩
  have hbW2 : Kp w.heap.size W2 W := (show Kp w.heap.size W2 _ from (by rw [← HW2.out]; exact Kp.of ((Below.refl _ _).alloc (Nat.le_refl _) _))).trans hbW
  obtain ⟨d1, d2⟩ := HK.out W hbW2
  have hsz : w.heap.size + 2 ≤ W.heap.size := by have := hbW2.1; have := HS2.out; omega
  have kv : ∀ X : World, w.heap.size ≤ X.heap.size → Kp w.heap.size w X := fun X h => ⟨h, fun k h1 h2 => by omega⟩
  exact nwithc_any w.heap.size (w.heap.size + 1) g g2 lb lb2 (p c) (q c) c W d1 d2 (by omega) HE.out HE2.out (K1.out W c hc0 hc1 (kv W (by omega))) (fun W2 hb2 => K2.out W2 c hc0 hc1 (kv W2 (by have := hb2.size; omega)))
theorem mayf_congr {w : World} {B : Nat} {F : Value} {p q : Int → Bool} (h : MayF w B F p) (e : ∀ c, p c = q c) : MayF w B F q := by
  have : p = q := funext e
  rw [← this]
  exact h
/- a form's two cells -/
theorem f2_cell {w : World} {B : Nat} {x y : Value} {T : TypeId} (h : w.heap[B]? = some (.cells #[x, y] T (0, 0))) : w.cell? ⟨B, 0, none⟩ = some x ∧ w.cell? ⟨B, 1, none⟩ = some y ∧ w.frozen? ⟨B, 0, none⟩ = false ∧ w.frozen? ⟨B, 1, none⟩ = false := by simp [World.cell?, World.frozen?, h]
theorem f2_set {w : World} {B : Nat} {x y : Value} {T : TypeId} (h : w.heap[B]? = some (.cells #[x, y] T (0, 0))) (u v : Value) : ((w.setCell ⟨B, 0, none⟩ u).setCell ⟨B, 1, none⟩ v).heap[B]? = some (.cells #[u, v] T (0, 0)) := by
  simp [World.setCell, Array.getElem?_modify, h]
theorem npathf_any (w : World) : Calls Tryz.prog 101 #[] w fun e w' => ∃ G, e = .returned (formV 1 G) ∧ MayF w' w.heap.size G ok2 ∧ Below w.heap.size w w' := by
  have h0 : Vl (∀ W, Calls Tryz.prog 103 #[.int .i64 1] W fun e w' => e = .returned (formV 1 (.func (.func 165) #[] #[])) ∧ Below W.heap.size W w') := fun W => nplainf_any 1 W
  have h1 : Vl (∀ W, Calls Tryz.prog 161 #[formV 1 (.func (.func 165) #[] #[]), .func (.func 162) #[] #[]] W fun e w' => ∃ G, e = .returned (formV 1 G) ∧ MayF w' W.heap.size G (fun c => ok3 c && !isBl c) ∧ Below W.heap.size W w') := fun W => nwith_any 1 _ _ _ _ W (mayf_plain W _) (mayf_bl W _)
  go_enter Tryz.func101, Tryz.ntmps101
  go_wp2_with fail
  refine (h0.out _).mono ?_
  rintro e w1 ⟨rfl, hb1⟩
  go_wp2_with fail
  refine (h1.out _).mono ?_
  rintro e w2 ⟨G, rfl, hG, hb2⟩
  have hbb := hb1.trans (hb2.mono hb1.size)
  have hs1 := hb1.size
  rw [World.size_alloc] at hs1
  have H2 : Vl (w2.heap[w.heap.size]? = some (.cells #[.int .i64 0, .nilFunc] 154 (0, 0))) := (hbb.block _ (by simp)).trans (heap_alloc_new w _)
  have HB2 : Vl (Below w.heap.size w w2) := ((Below.refl _ w).alloc (Nat.le_refl _) _).trans (hbb.mono (by simp))
  have HG := vl (hG.mono (B' := w.heap.size + 1) (by omega))
  obtain ⟨c0, c1, f0, f1⟩ := f2_cell H2.out
  have H3 := vl (f2_set H2.out (.int .i64 1) G)
  obtain ⟨g, lb, rfl, hg2, hg3⟩ := id hG
  obtain ⟨d0, d1, _, _⟩ := f2_cell H3.out
  clear hb1 hb2 hbb h0 h1 hG hg2 hg3 hs1
  unfold formV
  go_wp2
  have HK : Vl (Kp (w.heap.size + 1) w2 ((w2.setCell ⟨w.heap.size, 0, none⟩ (.int .i64 1)).setCell ⟨w.heap.size, 1, none⟩ (.func (.func g) #[] lb))) := (Kp.set (by omega)).trans (Kp.set (by omega))
  have HB3 : Vl (Below w.heap.size w ((w2.setCell ⟨w.heap.size, 0, none⟩ (.int .i64 1)).setCell ⟨w.heap.size, 1, none⟩ (.func (.func g) #[] lb))) := (HB2.out.setCell (Nat.le_refl _) _).setCell (Nat.le_refl _) _
  obtain ⟨W3, hW3⟩ : ∃ W3, (w2.setCell ⟨w.heap.size, 0, none⟩ (.int .i64 1)).setCell ⟨w.heap.size, 1, none⟩ (.func (.func g) #[] lb) = W3 := ⟨_, rfl⟩
  rw [hW3] at d0 d1 HK HB3 ⊢
  clear hW3 H3
  refine bodyPost_ret (by simp [results, Tryz.results101, go_sem, d0, d1]; try rfl) rfl ?_
  refine ⟨_, rfl, mayf_congr ((HG.out.later HK.out).mono (by omega)) (fun c => ?_), HB3.out⟩
  unfold ok3 isBl ok2
  rw [Bool.eq_iff_iff]
  simp
  omega
theorem nnamef_any (w : World) : Calls Tryz.prog 166 #[] w fun e w' => ∃ G, e = .returned (formV 1 G) ∧ MayF w' w.heap.size G isSmall ∧ Below w.heap.size w w' := by
  have h0 : Vl (∀ W, Calls Tryz.prog 160 #[] W fun e w' => e = .returned (formV 1 (.func (.func 208) #[] #[])) ∧ Below W.heap.size W w') := fun W => ntokf_any W
  have h1 : Vl (∀ W, Calls Tryz.prog 161 #[formV 1 (.func (.func 208) #[] #[]), .func (.func 210) #[] #[]] W fun e w' => ∃ G, e = .returned (formV 1 G) ∧ MayF w' W.heap.size G (fun c => ok0 c && !isGreat c) ∧ Below W.heap.size W w') := fun W => nwith_any 1 _ _ _ _ W (mayf_tok W _) (mayf_great W _)
  go_enter Tryz.func166, Tryz.ntmps166
  go_wp2_with fail
  refine (h0.out _).mono ?_
  rintro e w1 ⟨rfl, hb1⟩
  go_wp2_with fail
  refine (h1.out _).mono ?_
  rintro e w2 ⟨G, rfl, hG, hb2⟩
  have hbb := hb1.trans (hb2.mono hb1.size)
  have hs1 := hb1.size
  rw [World.size_alloc] at hs1
  have H2 : Vl (w2.heap[w.heap.size]? = some (.cells #[.int .i64 0, .nilFunc] 154 (0, 0))) := (hbb.block _ (by simp)).trans (heap_alloc_new w _)
  have HB2 : Vl (Below w.heap.size w w2) := ((Below.refl _ w).alloc (Nat.le_refl _) _).trans (hbb.mono (by simp))
  have HG := vl (hG.mono (B' := w.heap.size + 1) (by omega))
  obtain ⟨c0, c1, f0, f1⟩ := f2_cell H2.out
  have H3 := vl (f2_set H2.out (.int .i64 1) G)
  obtain ⟨g, lb, rfl, hg2, hg3⟩ := id hG
  obtain ⟨d0, d1, _, _⟩ := f2_cell H3.out
  clear hb1 hb2 hbb h0 h1 hG hg2 hg3 hs1
  unfold formV
  go_wp2
  have HK : Vl (Kp (w.heap.size + 1) w2 ((w2.setCell ⟨w.heap.size, 0, none⟩ (.int .i64 1)).setCell ⟨w.heap.size, 1, none⟩ (.func (.func g) #[] lb))) := (Kp.set (by omega)).trans (Kp.set (by omega))
  have HB3 : Vl (Below w.heap.size w ((w2.setCell ⟨w.heap.size, 0, none⟩ (.int .i64 1)).setCell ⟨w.heap.size, 1, none⟩ (.func (.func g) #[] lb))) := (HB2.out.setCell (Nat.le_refl _) _).setCell (Nat.le_refl _) _
  obtain ⟨W3, hW3⟩ : ∃ W3, (w2.setCell ⟨w.heap.size, 0, none⟩ (.int .i64 1)).setCell ⟨w.heap.size, 1, none⟩ (.func (.func g) #[] lb) = W3 := ⟨_, rfl⟩
  rw [hW3] at d0 d1 HK HB3 ⊢
  clear hW3 H3
  refine bodyPost_ret (by simp [results, Tryz.results166, go_sem, d0, d1]; try rfl) rfl ?_
  refine ⟨_, rfl, mayf_congr ((HG.out.later HK.out).mono (by omega)) (fun c => ?_), HB3.out⟩
  unfold ok0 isSmall isGreat
  rw [Bool.eq_iff_iff]
  simp
  omega
end Go.Proofs.YtglmppadhlkkgagGreatDoor
