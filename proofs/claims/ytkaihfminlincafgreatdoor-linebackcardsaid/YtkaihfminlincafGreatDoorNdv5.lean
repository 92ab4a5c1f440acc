/-
  MESSAGES AS LINES: the developers' reader, a place in bytes behind a pointer: fail, sees, next. No claim by itself.
-/
import Derived.Test.YtkaihfminlincafGreatDoorNdv4
import Derived.BigRegion
namespace Go.Proofs.YtkaihfminlincafGreatDoor
open Go Go.RowKit Go.Shelf
set_option maxRecDepth 100000
attribute [local go_sem] run_store_func run_store_nilFunc
theorem blk_of {w : World} {i o : Nat} {v : Value} (h : w.cell? ⟨i, o, none⟩ = some v) : i < w.heap.size := by
  rcases Nat.lt_or_ge i w.heap.size with h1 | h1
  · exact h1
  · simp [World.cell?, Array.getElem?_eq_none h1] at h
/-- The reader as it lies in memory. -/
structure RM (w : World) (lb : Nat) (a : Option Addr) (len cap : Nat) (p bad : Int) : Prop where
  c0 : w.cell? ⟨lb, 0, none⟩ = some (.slice a len cap)
  c1 : w.cell? ⟨lb, 1, none⟩ = some (.int .i64 p)
  c2 : w.cell? ⟨lb, 2, none⟩ = some (errW bad)
  f1 : w.frozen? ⟨lb, 1, none⟩ = false
  f2 : w.frozen? ⟨lb, 2, none⟩ = false
section
variable {w w' : World} {lb : Nat} {a : Option Addr} {len cap : Nat} {p bad : Int}
theorem RM.kept (h : RM w lb a len cap p bad) (e : w'.heap[lb]? = w.heap[lb]?) : RM w' lb a len cap p bad :=
  ⟨(World.cell?_of_block (a := ⟨lb, 0, none⟩) e).trans h.c0, (World.cell?_of_block (a := ⟨lb, 1, none⟩) e).trans h.c1, (World.cell?_of_block (a := ⟨lb, 2, none⟩) e).trans h.c2, (World.frozen?_of_block (a := ⟨lb, 1, none⟩) e).trans h.f1, (World.frozen?_of_block (a := ⟨lb, 2, none⟩) e).trans h.f2⟩
theorem RM.lt (h : RM w lb a len cap p bad) : lb < w.heap.size := blk_of h.c0
theorem RM.setAt (h : RM w lb a len cap p bad) (q : Int) : RM (w.setCell ⟨lb, 1, none⟩ (.int .i64 q)) lb a len cap q bad :=
  ⟨by rw [World.cell?_setCell_other _ _ _ _ (by simp)]; exact h.c0, World.cell?_setCell_same _ _ _ h.c1, by rw [World.cell?_setCell_other _ _ _ _ (by simp)]; exact h.c2, by rw [World.frozen?_setCell]; exact h.f1, by rw [World.frozen?_setCell]; exact h.f2⟩
theorem RM.setBad (h : RM w lb a len cap p bad) (q : Int) : RM (w.setCell ⟨lb, 2, none⟩ (errW q)) lb a len cap p q :=
  ⟨by rw [World.cell?_setCell_other _ _ _ _ (by simp)]; exact h.c0, by rw [World.cell?_setCell_other _ _ _ _ (by simp)]; exact h.c1, World.cell?_setCell_same _ _ _ h.c2, by rw [World.frozen?_setCell]; exact h.f1, by rw [World.frozen?_setCell]; exact h.f2⟩
end
/-- The reader, in a memory that came of another. -/
structure RS (w0 w : World) (lb : Nat) (a : Option Addr) (len cap : Nat) (Z : List Int) (p : Nat) (bad : Int) : Prop where
  below : Below w0.heap.size w0 w
  base : w0.heap.size ≤ lb
  arg : Arg w0 a len cap Z
  mem : RM w lb a len cap p bad
  le : p ≤ len
  most : len ≤ ULim
section
variable {w0 w w' : World} {lb : Nat} {a : Option Addr} {len cap : Nat} {Z : List Int} {p : Nat} {bad : Int}
theorem RS.now (h : RS w0 w lb a len cap Z p bad) : Arg w a len cap Z := h.arg.below h.below
theorem RS.zlen (h : RS w0 w lb a len cap Z p bad) : Z.length = len := h.arg.len
theorem RS.lt (h : RS w0 w lb a len cap Z p bad) : lb < w.heap.size := h.mem.lt
theorem RS.on (h : RS w0 w lb a len cap Z p bad) (hb : Below w.heap.size w w') : RS w0 w' lb a len cap Z p bad :=
  ⟨h.below.trans (hb.mono h.below.size), h.base, h.arg, h.mem.kept (hb.block _ h.lt), h.le, h.most⟩
theorem RS.at (h : RS w0 w lb a len cap Z p bad) {q : Nat} (hq : q ≤ len) : RS w0 (w.setCell ⟨lb, 1, none⟩ (.int .i64 q)) lb a len cap Z q bad :=
  ⟨h.below.setCell h.base _, h.base, h.arg, h.mem.setAt _, hq, h.most⟩
theorem RS.wrong (h : RS w0 w lb a len cap Z p bad) (e : Int) : RS w0 (w.setCell ⟨lb, 2, none⟩ (errW e)) lb a len cap Z p e :=
  ⟨h.below.setCell h.base _, h.base, h.arg, h.mem.setBad _, h.le, h.most⟩
end
/-- One block alone was turned. -/
structure Tr (lb : Nat) (w w' : World) : Prop where
  os : w'.os = w.os
  tape : w'.tape = w.tape
  output : w'.output = w.output
  size : w.heap.size ≤ w'.heap.size
  block : ∀ k, k < w.heap.size → k ≠ lb → w'.heap[k]? = w.heap[k]?
theorem Tr.refl (lb : Nat) (w : World) : Tr lb w w := ⟨rfl, rfl, rfl, Nat.le_refl _, fun _ _ _ => rfl⟩
theorem Tr.trans {lb : Nat} {w w1 w2 : World} (h : Tr lb w w1) (k : Tr lb w1 w2) : Tr lb w w2 := ⟨k.os.trans h.os, k.tape.trans h.tape, k.output.trans h.output, Nat.le_trans h.size k.size, fun i h1 h2 => (k.block i (Nat.lt_of_lt_of_le h1 h.size) h2).trans (h.block i h1 h2)⟩
theorem Tr.of {lb : Nat} {w w' : World} (h : Below w.heap.size w w') : Tr lb w w' := ⟨h.os, h.tape, h.output, h.size, fun k hk _ => h.block k hk⟩
theorem Tr.on {lb : Nat} {w w1 w2 : World} (h : Tr lb w w1) (k : Below w1.heap.size w1 w2) : Tr lb w w2 := h.trans (Tr.of k)
theorem Tr.set {lb o : Nat} {w w1 : World} {v : Value} (h : Tr lb w w1) : Tr lb w (w1.setCell ⟨lb, o, none⟩ v) := h.trans ⟨rfl, rfl, rfl, by simp [World.setCell], fun k _ hk => Below.heap_setCell _ _ _ _ hk⟩
theorem Tr.kp {lb B : Nat} {w w' : World} (h : Tr lb w w') (hb : lb < B) : Kp B w w' := ⟨h.size, fun k h1 h2 => h.block k h2 (by omega)⟩
def rptr (b : Nat) : Value := .pointer (some ⟨b, 0, none⟩)
theorem errW_0 : errW 0 = .nilIface := rfl
theorem errW_ne {e : Int} (h : e ≠ 0) : errW e = .iface 57 (.int .i64 e) := by unfold errW; rw [if_neg h]
theorem nfail_no (lb : Nat) (a : Option Addr) (len cap : Nat) (p bad e : Int) (w : World) (h : RM w lb a len cap p bad) (hb : bad ≠ 0) :
    Calls Tryz.prog 55 #[rptr lb, errW e] w fun x w' => x = .returned (.tuple #[]) ∧ w = w' := by
  have c2 := h.c2
  rw [errW_ne hb] at c2
  unfold rptr
  clear h
  generalize errW e = v at *
  go_enter Tryz.func55, Tryz.ntmps55
  go_wp2
  go_end0
  exact ⟨rfl, rfl⟩
theorem nfail_any (lb : Nat) (a : Option Addr) (len cap : Nat) (p e : Int) (w : World) (h : RM w lb a len cap p 0) (he : e ≠ 0) :
    Calls Tryz.prog 55 #[rptr lb, errW e] w fun x w' => x = .returned (.tuple #[]) ∧ w' = w.setCell ⟨lb, 2, none⟩ (errW e) := by
  have c2 := h.c2
  have f2 := h.f2
  rw [errW_0] at c2
  rw [errW_ne he]
  unfold rptr
  clear h
  go_enter Tryz.func55, Tryz.ntmps55
  go_wp2
  go_end0
  exact ⟨rfl, rfl⟩
theorem n_drew (w : World) : ∀ n, Below w.heap.size w (w.drewN n)
  | 0 => Below.refl _ _
  | n + 1 => (n_drew w n).drew
def seesL (Z : List Int) (p : Nat) (c : Int) : Bool := decide (p < Z.length) && decide (Z.getD p 0 = c)
theorem nsees_any (lb : Nat) (a : Option Addr) (len cap : Nat) (Z : List Int) (p : Nat) (bad c : Int) (w : World) (h : RM w lb a len cap p bad) (hA : Arg w a len cap Z) (hp : p ≤ len) (hl : len ≤ ULim) :
    Calls Tryz.prog 40 #[rptr lb, .int .u8 c] w fun x w' => x = .returned (.bool (seesL Z p c)) ∧ Below w.heap.size w w' := by
  have hz := hA.len
  have c0 := h.c0
  have c1 := h.c1
  unfold ULim at hl
  unfold rptr
  clear h
  rcases Nat.lt_or_ge p len with hlt | hge
  · rcases hA with ⟨h0, _⟩ | ⟨g, off, rfl, hr⟩
    · omega
    have hcell := hr.hcell p hlt
    have hcap := hr.hcap
    have hmax := hr.hmax
    have hlt' : (p : Int) < (len : Int) := by omega
    have hp0 : (0 : Int) ≤ (p : Int) := by omega
    clear hr
    by_cases hc : Z.getD p 0 = c
    · have hx : seesL Z p c = true := by unfold seesL; rw [decide_eq_true (by omega : p < Z.length), decide_eq_true hc]; rfl
      rw [hx]
      rw [hc] at hcell
      clear hc hx
      go_enter Tryz.func40, Tryz.ntmps40
      go_wp2_with fail
      go_quiet (fail)
      go_wp2
      go_ret
      exact ⟨rfl, n_drew w nq⟩
    · have hx : seesL Z p c = false := by unfold seesL; rw [decide_eq_false hc, Bool.and_false]
      rw [hx]
      obtain ⟨d, hd⟩ : ∃ d, Z.getD p 0 = d := ⟨_, rfl⟩
      rw [hd] at hc hcell
      have hcb : (d == c) = false := by simpa using hc
      clear hc hx hd
      go_enter Tryz.func40, Tryz.ntmps40
      go_wp2_with fail
      go_quiet (fail)
      go_wp2
      go_ret
      exact ⟨rfl, n_drew w nq⟩
  · have hx : seesL Z p c = false := by unfold seesL; rw [decide_eq_false (by omega : ¬ p < Z.length)]; rfl
    rw [hx]
    obtain rfl : p = len := by omega
    have hd : decide ((p : Int) < (p : Int)) = false := decide_eq_false (by omega)
    clear hx hge hp hz hA hl
    go_enter Tryz.func40, Tryz.ntmps40
    go_wp2_with fail
    go_quiet (fail)
    go_wp2
    go_ret
    exact ⟨rfl, n_drew w nq⟩
theorem nnext_no (lb : Nat) (a : Option Addr) (len cap : Nat) (p bad : Int) (v : Value) (w : World) (h : RM w lb a len cap p bad) (hb : bad ≠ 0) :
    Calls Tryz.prog 41 #[rptr lb, v] w fun x w' => x = .returned (.int .u8 0) ∧ w = w' := by
  have c2 := h.c2
  rw [errW_ne hb] at c2
  unfold rptr
  clear h
  go_enter Tryz.func41, Tryz.ntmps41
  go_wp2
  go_ret
  exact ⟨rfl, rfl⟩
theorem nnext_end (w0 : World) (lb : Nat) (a : Option Addr) (len cap : Nat) (Z : List Int) (v : Value) (w : World) (h : RS w0 w lb a len cap Z len 0) :
    Calls Tryz.prog 41 #[rptr lb, v] w fun x w' => x = .returned (.int .u8 0) ∧ RS w0 w' lb a len cap Z len 8 ∧ Tr lb w w' := by
  have c0 := h.mem.c0
  have c1 := h.mem.c1
  have c2 := h.mem.c2
  have f2 := h.mem.f2
  rw [errW_0] at c2
  have HQ : Vl (∀ n, RS w0 (w.drewN n) lb a len cap Z len 0 ∧ Tr lb w (w.drewN n)) := fun n => ⟨h.on (n_drew w n), Tr.of (n_drew w n)⟩
  unfold rptr
  clear h
  go_enter Tryz.func41, Tryz.ntmps41
  go_wp2_with fail
  go_quiet (fail)
  obtain ⟨hS, hT⟩ := HQ.out nq
  have k2 := hS.mem.c2
  have g2 := hS.mem.f2
  rw [errW_0] at k2
  have HG := vl (And.intro (hS.wrong 8) (hT.set (o := 2) (v := errW 8)))
  clear hS hT c0 c1 c2 f2
  go_wp2
  go_ret
  exact ⟨rfl, HG.out⟩
/-- What the next byte was. -/
def NxTold (w0 w' : World) (lb : Nat) (a : Option Addr) (len cap : Nat) (Z : List Int) (p : Nat) (b : Bool) (x : Ending) : Prop :=
  (b = true ∧ x = .returned (.int .u8 (Z.getD p 0)) ∧ RS w0 w' lb a len cap Z (p + 1) 0) ∨ (b = false ∧ x = .returned (.int .u8 0) ∧ RS w0 w' lb a len cap Z p 2)
set_option maxHeartbeats 1000000 in
theorem nnext_any (w0 : World) (lb : Nat) (a : Option Addr) (len cap : Nat) (Z : List Int) (p : Nat) (fg : Nat) (fb : Array Value) (b : Bool) (w : World) (h : RS w0 w lb a len cap Z p 0) (hp : p < len)
    (eg : ∀ args w, (callFunc fg args).run Tryz.prog w = .ok (.enter fg args) w)
    (hF : ∀ W, Below w.heap.size w W → Calls Tryz.prog fg (#[.int .u8 (Z.getD p 0)] ++ fb) W fun e w' => e = .returned (.bool b) ∧ Below W.heap.size W w') :
    Calls Tryz.prog 41 #[rptr lb, .func (.func fg) #[] fb] w fun x w' => NxTold w0 w' lb a len cap Z p b x ∧ Tr lb w w' := by
  have hm := h.most
  unfold ULim at hm
  have HH := vl h
  rcases h.now with ⟨h0, _⟩ | ⟨g, off, rfl, hr⟩
  · omega
  have hcap := hr.hcap
  have hmax := hr.hmax
  have hcell := hr.hcell p hp
  obtain ⟨d, hd⟩ : ∃ d, Z.getD p 0 = d := ⟨_, rfl⟩
  rw [hd] at hF hcell
  have HF := vl hF
  have hltg : g < w.heap.size := blk_of hcell
  have hlt := h.lt
  have hlt' : (p : Int) < (len : Int) := by omega
  have hp0 : (0 : Int) ≤ (p : Int) := by omega
  have hne : ((p : Int) == (len : Int)) = false := by simp; omega
  have c2 := h.mem.c2
  rw [errW_0] at c2
  have HX : Vl (∀ W, Below w.heap.size w W → RS w0 W lb (some ⟨g, off, none⟩) len cap Z p 0 ∧ Tr lb w W ∧ W.cell? ⟨lb, 0, none⟩ = some (.slice (some ⟨g, off, none⟩) len cap) ∧ W.cell? ⟨lb, 1, none⟩ = some (.int .i64 p) ∧ W.cell? ⟨g, off + p, none⟩ = some (.int .u8 d)) :=
    fun W hb => ⟨HH.out.on hb, Tr.of hb, (HH.out.on hb).mem.c0, (HH.out.on hb).mem.c1, (hb.cell (p := ⟨g, off + p, none⟩) hltg).trans hcell⟩
  have c0 := h.mem.c0
  have c1 := h.mem.c1
  have HD := vl hd
  have HNE : Vl (g ≠ lb) := fun e => by
    subst e
    rcases h.arg with ⟨h1, _⟩ | ⟨g1, o1, e1, hr1⟩
    · omega
    · cases e1
      have := blk_of (hr1.hcell p hp)
      have := h.base
      omega
  clear hr h hF hd hltg hlt
  unfold rptr
  go_enter Tryz.func41, Tryz.ntmps41
  go_wp2_with fail
  go_quiet (fail)
  have hbq := n_drew w nq
  obtain ⟨W1, hW1⟩ : ∃ W1, w.drewN nq = W1 := ⟨_, rfl⟩
  rw [hW1] at hbq ⊢
  clear hW1
  obtain ⟨_, _, k0, k1, k2⟩ := HX.out _ hbq
  have hbr : Below w.heap.size w W1.drew := hbq.trans ((Below.refl _ W1).drew.mono hbq.size)
  have HC := vl (HF.out _ hbr)
  have HZ : Vl (∀ w1, Below W1.drew.heap.size W1.drew w1 → Below w.heap.size w w1) := fun w1 hb => hbr.trans (hb.mono hbr.size)
  clear c0 c1 c2 hcell hbq hbr
  go_wp2_with fail
  go_region_held3 (fun w' => w'.cell? ⟨lb, 0, none⟩ = some (.slice (some ⟨g, off, none⟩) len cap) ∧ w'.cell? ⟨lb, 1, none⟩ = some (.int .i64 p) ∧ w'.cell? ⟨g, off + p, none⟩ = some (.int .u8 d))
    (first | go_keep | (exact (HX.out _ (HZ.out _ hb)).2.2))
    ((go_at_fn fg; refine HC.out.mono ?_; rintro e w1 ⟨rfl, hb⟩))
  obtain ⟨hS, hT, m0, m1, m2⟩ := HX.out _ (HZ.out _ hb)
  clear k0 k1 k2 HC HZ hb HF
  cases b with
  | false =>
    have n2 := hS.mem.c2
    have g2 := hS.mem.f2
    rw [errW_0] at n2
    have HG := vl (And.intro (hS.wrong 2) (hT.set (o := 2) (v := errW 2)))
    clear hS hT m0 m1 m2 HX
    go_wp2
    go_ret
    exact ⟨Or.inr ⟨rfl, rfl, HG.out.1⟩, HG.out.2⟩
  | true =>
    have g1 := hS.mem.f1
    have hS2 := hS.at (q := p + 1) (by omega)
    have hT2 := hT.set (o := 1) (v := .int .i64 ((p + 1 : Nat) : Int))
    have HR : Vl (∀ n, RS w0 ((w1.setCell ⟨lb, 1, none⟩ (.int .i64 ((p + 1 : Nat) : Int))).drewN n) lb (some ⟨g, off, none⟩) len cap Z (p + 1) 0 ∧ Tr lb w ((w1.setCell ⟨lb, 1, none⟩ (.int .i64 ((p + 1 : Nat) : Int))).drewN n)) := fun n => ⟨hS2.on (n_drew _ n), hT2.on (n_drew _ n)⟩
    have e0 := hS2.mem.c0
    have e1 := hS2.mem.c1
    have e2 : (w1.setCell ⟨lb, 1, none⟩ (.int .i64 ((p + 1 : Nat) : Int))).cell? ⟨g, off + p, none⟩ = some (.int .u8 d) := by rw [World.cell?_setCell_other _ _ _ _ (by simp; intro e; exact absurd e.symm HNE.out)]; exact m2
    clear hS hT hS2 hT2 HX
    rw [show ((p + 1 : Nat) : Int) = (p : Int) + 1 by omega] at HR e0 e1 e2
    go_wp2_with fail
    obtain ⟨W2, hW2⟩ : ∃ W2, w1.setCell ⟨lb, 1, none⟩ (.int .i64 ((p : Int) + 1)) = W2 := ⟨_, rfl⟩
    rw [hW2] at HR e0 e1 e2 ⊢
    clear hW2 m0 m1 m2 g1
    go_quiet (fail)
    go_wp2
    go_ret
    refine ⟨Or.inl ⟨rfl, ?_, (HR.out nq).1⟩, (HR.out nq).2⟩
    rw [HD.out]
    rfl
end Go.Proofs.YtkaihfminlincafGreatDoor
