/-
  WHAT WAS DONE: the developers' Parse. No claim by itself.
-/
import Derived.Test.YteohgkgahkkjlaaDoorG6
namespace Go.Proofs.YteohgkgahkkjlaaDoor
open Go Go.RowKit
set_option maxRecDepth 100000
/-- What Parse answers. -/
def PrsE (s : ByteArray) (e : Ending) : Prop :=
  (∃ (t c b k : Int) (m p : ByteArray), e = .returned (.tuple #[entV t c b k m p, .nilIface]) ∧ chkE t c b k (unums m) (unums p) = 0 ∧ printE t.toNat c.toNat b.toNat k.toNat (unums m) (unums p) = unums s ∧ m.size ≤ 400 ∧ p.size ≤ 400)
  ∨ (e = .returned (.tuple #[entV 0 0 0 0 ⟨#[]⟩ ⟨#[]⟩, .iface 39 (.int .i64 2)]) ∧ ∀ (t c b k : Int) (M P : List Int), chkE t c b k M P = 0 → printE t.toNat c.toNat b.toNat k.toNat M P ≠ unums s)
/-- What is held while Parse reads its words. -/
structure PH (w0 wb : World) (bx g : Nat) (x0 x1 x2 x3 x4 x5 : ByteArray) (W : World) : Prop where
  c : W.cell? ⟨bx, 0, none⟩ = some (.slice (some ⟨g, 0, none⟩) 6 6)
  h0 : W.cell? ⟨g, 0, none⟩ = some (.string x0)
  h1 : W.cell? ⟨g, 1, none⟩ = some (.string x1)
  h2 : W.cell? ⟨g, 2, none⟩ = some (.string x2)
  h3 : W.cell? ⟨g, 3, none⟩ = some (.string x3)
  h4 : W.cell? ⟨g, 4, none⟩ = some (.string x4)
  h5 : W.cell? ⟨g, 5, none⟩ = some (.string x5)
  er : erP W
  nl : NLaid W
  zr : EnB W w0.heap.size 0 0 0 0 ⟨#[]⟩ ⟨#[]⟩
  be : Below w0.heap.size w0 W
  lb : bx < W.heap.size
  lg : g < W.heap.size
  lr : w0.heap.size < wb.heap.size
  bw : Below wb.heap.size wb W
theorem PH.on {w0 wb : World} {bx g : Nat} {x0 x1 x2 x3 x4 x5 : ByteArray} {W W' : World} (h : PH w0 wb bx g x0 x1 x2 x3 x4 x5 W) (hb : Below W.heap.size W W') : PH w0 wb bx g x0 x1 x2 x3 x4 x5 W' :=
  ⟨(hb.cell (p := ⟨bx, 0, none⟩) h.lb).trans h.c, (hb.cell (p := ⟨g, 0, none⟩) h.lg).trans h.h0, (hb.cell (p := ⟨g, 1, none⟩) h.lg).trans h.h1, (hb.cell (p := ⟨g, 2, none⟩) h.lg).trans h.h2, (hb.cell (p := ⟨g, 3, none⟩) h.lg).trans h.h3, (hb.cell (p := ⟨g, 4, none⟩) h.lg).trans h.h4, (hb.cell (p := ⟨g, 5, none⟩) h.lg).trans h.h5, h.er.below hb, h.nl.below hb, h.zr.on hb, h.be.trans (hb.mono h.be.size), Nat.lt_of_lt_of_le h.lb hb.size, Nat.lt_of_lt_of_le h.lg hb.size, h.lr, h.bw.trans (hb.mono h.bw.size)⟩
theorem PH.al {w0 wb : World} {bx g : Nat} {x0 x1 x2 x3 x4 x5 : ByteArray} {W : World} (h : PH w0 wb bx g x0 x1 x2 x3 x4 x5 W) (o : Obj) : PH w0 wb bx g x0 x1 x2 x3 x4 x5 (W.alloc o) := h.on ((Below.refl _ W).alloc (Nat.le_refl _) o)
theorem PH.dr {w0 wb : World} {bx g : Nat} {x0 x1 x2 x3 x4 x5 : ByteArray} {W : World} (h : PH w0 wb bx g x0 x1 x2 x3 x4 x5 W) : PH w0 wb bx g x0 x1 x2 x3 x4 x5 W.drew := h.on (Below.refl _ W).drew
theorem PH.three {w0 wb : World} {bx g : Nat} {x0 x1 x2 x3 x4 x5 : ByteArray} {W : World} (h : PH w0 wb bx g x0 x1 x2 x3 x4 x5 W) : W.cell? ⟨bx, 0, none⟩ = some (.slice (some ⟨g, 0, none⟩) 6 6) ∧ W.cell? ⟨g, 4, none⟩ = some (.string x4) ∧ W.cell? ⟨g, 5, none⟩ = some (.string x5) := ⟨h.c, h.h4, h.h5⟩
theorem prs_no6 {s : ByteArray} {l : List ByteArray} (h : unsOf l = cutN 32 5 (unums s)) (hl : l.length ≠ 6) : ∀ (t c b k : Int) (M P : List Int), chkE t c b k M P = 0 → printE t.toNat c.toNat b.toNat k.toNat M P ≠ unums s := by
  intro t c b k M P h0 hp
  obtain ⟨_, _, _, _, hM, _⟩ := chkE_ok h0
  rw [← hp, cut_print _ _ _ _ P hM] at h
  have := congrArg List.length h
  unfold unsOf at this
  rw [List.length_map] at this
  exact hl this
theorem prs_no {s : ByteArray} {x0 x1 x2 x3 x4 x5 : ByteArray} {v0 v1 v2 v3 : Int} (h : unsOf [x0, x1, x2, x3, x4, x5] = cutN 32 5 (unums s)) (n0 : NumIs v0 x0) (n1 : NumIs v1 x1) (n2 : NumIs v2 x2) (n3 : NumIs v3 x3)
    (hn : ¬ (chkE v0 v1 v2 v3 (unums x4) (unums x5) = 0 ∧ printE v0.toNat v1.toNat v2.toNat v3.toNat (unums x4) (unums x5) = unums s)) : ∀ (t c b k : Int) (M P : List Int), chkE t c b k M P = 0 → printE t.toNat c.toNat b.toNat k.toNat M P ≠ unums s := by
  intro t c b k M P h0 hp
  obtain ⟨⟨t1, t2⟩, ⟨c1, c2⟩, ⟨b1, b2⟩, ⟨k1, k2⟩, hM, _⟩ := chkE_ok h0
  rw [← hp, cut_print _ _ _ _ P hM] at h
  simp only [unsOf, List.map_cons, List.map_nil, List.cons.injEq, and_true] at h
  obtain ⟨e0, e1, e2, e3, e4, e5⟩ := h
  have f0 := n0 _ (by omega) e0
  have f1 := n1 _ (by omega) e1
  have f2 := n2 _ (by omega) e2
  have f3 := n3 _ (by omega) e3
  refine hn ?_
  rw [f0, f1, f2, f3, e4, e5, Int.toNat_of_nonneg t1, Int.toNat_of_nonneg (show 0 ≤ c by omega), Int.toNat_of_nonneg b1, Int.toNat_of_nonneg k1]
  exact ⟨h0, hp⟩
end Go.Proofs.YteohgkgahkkjlaaDoor
