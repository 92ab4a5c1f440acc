/-
  MESSAGES AS LINES: the developers' forms of texts. No claim by itself.
-/
import Derived.BigQuiet
import Derived.Deep.QuietTactic
import Derived.Deep.RegionHeld3
import Derived.Handy
import Derived.Shelf.Abstract
import Derived.WideLaws
import Derived.Test.YtibipnipeaeonaaGreatDoorMC
namespace Go.Proofs.YtibipnipeaeonaaGreatDoor
open Go Go.RowKit Go.Shelf
set_option maxRecDepth 100000
theorem run_store_func (P : Program) (w : World) (a : Addr) (m : Mode) (f : Fn) (x y : Array Value) : (store a (.func f x y) m).run P w = stored P w a (.func f x y) m := run_store P w a _ m rfl
theorem run_store_nilFunc (P : Program) (w : World) (a : Addr) (m : Mode) : (store a .nilFunc m).run P w = stored P w a .nilFunc m := run_store P w a _ m rfl
attribute [local go_sem] run_store_func run_store_nilFunc
/-- What was made from B on lies as it lay. -/
def Kp (B : Nat) (w W : World) : Prop := w.heap.size ≤ W.heap.size ∧ ∀ k, B ≤ k → k < w.heap.size → W.heap[k]? = w.heap[k]?
theorem Kp.refl (B : Nat) (w : World) : Kp B w w := ⟨Nat.le_refl _, fun _ _ _ => rfl⟩
theorem Kp.trans {B : Nat} {w W X : World} (h : Kp B w W) (k : Kp B W X) : Kp B w X := ⟨Nat.le_trans h.1 k.1, fun i h1 h2 => (k.2 i h1 (Nat.lt_of_lt_of_le h2 h.1)).trans (h.2 i h1 h2)⟩
theorem Kp.of {B : Nat} {w W : World} (h : Below w.heap.size w W) : Kp B w W := ⟨h.size, fun k _ hk => h.block k hk⟩
theorem Kp.mono {B B' : Nat} {w W : World} (h : Kp B w W) (hb : B ≤ B') : Kp B' w W := ⟨h.1, fun k h1 h2 => h.2 k (Nat.le_trans hb h1) h2⟩
theorem Kp.set {B i o : Nat} {w : World} {v : Value} (h : i < B) : Kp B w (w.setCell ⟨i, o, none⟩ v) := ⟨by simp [World.setCell], fun k h1 _ => Below.heap_setCell _ _ _ _ (by show k ≠ i; omega)⟩
/-- A function value that tells p of each byte, wherever what was made from B on lies as it lay in w. -/
def MayF (w : World) (B : Nat) (F : Value) (p : Int → Bool) : Prop :=
  ∃ (g : Nat) (lb : Array Value), F = .func (.func g) #[] lb ∧ (∀ args w, (callFunc g args).run Tryz.prog w = .ok (.enter g args) w) ∧
    ∀ (W : World) (c : Int), 0 ≤ c → c < 256 → Kp B w W → Calls Tryz.prog g (#[.int .u8 c] ++ lb) W fun e w' => e = .returned (.bool (p c)) ∧ Below W.heap.size W w'
theorem MayF.later {w W : World} {B : Nat} {F : Value} {p : Int → Bool} (h : MayF w B F p) (hb : Kp B w W) : MayF W B F p := by
  obtain ⟨g, lb, h1, h2, h3⟩ := h
  exact ⟨g, lb, h1, h2, fun W' c c0 c1 hb' => h3 W' c c0 c1 (hb.trans hb')⟩
theorem MayF.mono {w : World} {B B' : Nat} {F : Value} {p : Int → Bool} (h : MayF w B F p) (hb : B' ≤ B) : MayF w B' F p := by
  obtain ⟨g, lb, h1, h2, h3⟩ := h
  exact ⟨g, lb, h1, h2, fun W' c c0 c1 hb' => h3 W' c c0 c1 (hb'.mono hb)⟩
def formV (least : Int) (F : Value) : Value := .agg #[.int .i64 least, F]
def sm (c : Int) : Bool := decide (97 ≤ c) && decide (c ≤ 122)
def dg (c : Int) : Bool := decide (48 ≤ c) && decide (c ≤ 57)
theorem niss_any (c : Int) (w : World) : Calls Tryz.prog 95 #[.int .u8 c] w fun e w' => e = .returned (.bool (sm c)) ∧ w = w' := by
  go_enter Tryz.func95, Tryz.ntmps95
  go_wp2
  all_goals
    go_ret
    refine ⟨?_, rfl⟩
    show Ending.returned (Value.bool _) = Ending.returned (Value.bool _)
    first
      | (congr 2; done)
      | (congr 2; unfold sm; rw [Bool.eq_iff_iff]; simp <;> omega)
theorem nisg_any (c : Int) (w : World) : Calls Tryz.prog 96 #[.int .u8 c] w fun e w' => e = .returned (.bool (isGreat c)) ∧ w = w' := by
  go_enter Tryz.func96, Tryz.ntmps96
  go_wp2
  all_goals
    go_ret
    refine ⟨?_, rfl⟩
    show Ending.returned (Value.bool _) = Ending.returned (Value.bool _)
    first
      | (congr 2; done)
      | (congr 2; unfold isGreat; rw [Bool.eq_iff_iff]; simp <;> omega)
theorem nisd_any (c : Int) (w : World) : Calls Tryz.prog 97 #[.int .u8 c] w fun e w' => e = .returned (.bool (dg c)) ∧ w = w' := by
  go_enter Tryz.func97, Tryz.ntmps97
  go_wp2
  all_goals
    go_ret
    refine ⟨?_, rfl⟩
    show Ending.returned (Value.bool _) = Ending.returned (Value.bool _)
    first
      | (congr 2; done)
      | (congr 2; unfold dg; rw [Bool.eq_iff_iff]; simp <;> omega)
theorem ntokc_any (c : Int) (w : World) : Calls Tryz.prog 94 #[.int .u8 c] w fun e w' => e = .returned (.bool (ok0 c)) ∧ w = w' := by
  have h1 := niss_any c w
  have h2 := nisg_any c w
  have h3 := nisd_any c w
  have hx : ok0 c = (sm c || isGreat c || dg c || decide (c = 45) || decide (c = 95)) := by
    unfold ok0 isSmall sm dg isGreat
    rw [Bool.eq_iff_iff]
    simp
    omega
  have HX := vl hx
  clear hx
  generalize sm c = b1 at *
  generalize isGreat c = b2 at *
  generalize dg c = b3 at *
  rw [HX.out]
  clear HX
  cases b1 <;> cases b2 <;> cases b3 <;>
  · go_enter Tryz.func94, Tryz.ntmps94
    go_wp2_with (first | (go_at_call 95; refine h1.mono ?_; rintro e w' ⟨rfl, rfl⟩) | (go_at_call 96; refine h2.mono ?_; rintro e w' ⟨rfl, rfl⟩) | (go_at_call 97; refine h3.mono ?_; rintro e w' ⟨rfl, rfl⟩))
    all_goals
      go_ret
      refine ⟨?_, rfl⟩
      show Ending.returned (Value.bool _) = Ending.returned (Value.bool _)
      first
        | (congr 2; done)
        | (congr 2; rw [Bool.eq_iff_iff]; simp <;> omega)
def isBl (c : Int) : Bool := decide (c = 32)
theorem mayf_tok (w : World) (B : Nat) : MayF w B (.func (.func 94) #[] #[]) ok0 :=
  ⟨94, #[], rfl, enters_of Tryz.func94 (by kernel_rfl) rfl, fun W c _ _ _ => (ntokc_any c W).mono (by rintro e w' ⟨rfl, rfl⟩; exact ⟨rfl, Below.refl _ _⟩)⟩
theorem mayf_great (w : World) (B : Nat) : MayF w B (.func (.func 96) #[] #[]) isGreat :=
  ⟨96, #[], rfl, enters_of Tryz.func96 (by kernel_rfl) rfl, fun W c _ _ _ => (nisg_any c W).mono (by rintro e w' ⟨rfl, rfl⟩; exact ⟨rfl, Below.refl _ _⟩)⟩
/- forms -/
theorem ntokf_any (w : World) : Calls Tryz.prog 79 #[] w fun e w' => e = .returned (formV 1 (.func (.func 94) #[] #[])) ∧ Below w.heap.size w w' := by
  go_enter Tryz.func79, Tryz.ntmps79
  go_wp2
  go_returns
  exact ⟨rfl, (Below.refl _ w).alloc (Nat.le_refl _) _⟩
end Go.Proofs.YtibipnipeaeonaaGreatDoor
