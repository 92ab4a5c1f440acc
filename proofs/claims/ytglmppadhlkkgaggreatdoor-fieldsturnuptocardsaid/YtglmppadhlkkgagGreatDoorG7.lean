/-
  MESSAGES AS LINES: the developers' reader, a place in bytes behind a pointer: fail, sees, next. No claim by itself.
-/
import Derived.BigRegion
import Derived.Deep.DeepCutAuto
import Derived.Deep.CutBlock
import Derived.Deep.LoopGhost
import Derived.Test.YtglmppadhlkkgagGreatDoorNdv4X
namespace Go.Proofs.YtglmppadhlkkgagGreatDoor
open Go Go.RowKit Go.Shelf
set_option maxRecDepth 100000
attribute [local go_sem] run_store_func run_store_nilFunc
theorem blk_of {w : World} {i o : Nat} {v : Value} (h : w.cell? ⟨i, o, none⟩ = some v) : i < w.heap.size := by
  rcases Nat.lt_or_ge i w.heap.size with h1 | h1
  · exact h1
  · simp [World.cell?, Array.getElem?_eq_none h1] at h
/-- The reader as it lies in memory. -/
structure RM (w : World) (lb : Nat) (a : Option Addr) (len cap : Nat) (p bad : Int) : Prop where
  c0 : w.cell? ⟨lb, 0, none⟩ = some (.slice a len cap)
  c1 : w.cell? ⟨lb, 1, none⟩ = some (.int .i64 p)
  c2 : w.cell? ⟨lb, 2, none⟩ = some (errW bad)
  f1 : w.frozen? ⟨lb, 1, none⟩ = false
  f2 : w.frozen? ⟨lb, 2, none⟩ = false
section
variable {w w' : World} {lb : Nat} {a : Option Addr} {len cap : Nat} {p bad : Int}
theorem RM.kept (h : RM w lb a len cap p bad) (e : w'.heap[lb]? = w.heap[lb]?) : RM w' lb a len cap p bad :=
  ⟨(World.cell?_of_block (a := ⟨lb, 0, none⟩) e).trans h.c0, (World.cell?_of_block (a := ⟨lb, 1, none⟩) e).trans h.c1, (World.cell?_of_block (a := ⟨lb, 2, none⟩) e).trans h.c2, (World.frozen?_of_block (a := ⟨lb, 1, none⟩) e).trans h.f1, (World.frozen?_of_block (a := ⟨lb, 2, none⟩) e).trans h.f2⟩
theorem RM.lt (h : RM w lb a len cap p bad) : lb < w.heap.size := blk_of h.c0
theorem RM.setAt (h : RM w lb a len cap p bad) (q : Int) : RM (w.setCell ⟨lb, 1, none⟩ (.int .i64 q)) lb a len cap q bad :=
  ⟨by rw [World.cell?_setCell_other _ _ _ _ (by simp)]; exact h.c0, World.cell?_setCell_same _ _ _ h.c1, by rw [World.cell?_setCell_other _ _ _ _ (by simp)]; exact h.c2, by rw [World.frozen?_setCell]; exact h.f1, by rw [World.frozen?_setCell]; exact h.f2⟩
theorem RM.setBad (h : RM w lb a len cap p bad) (q : Int) : RM (w.setCell ⟨lb, 2, none⟩ (errW q)) lb a len cap p q :=
  ⟨by rw [World.cell?_setCell_other _ _ _ _ (by simp)]; exact h.c0, by rw [World.cell?_setCell_other _ _ _ _ (by simp)]; exact h.c1, World.cell?_setCell_same _ _ _ h.c2, by rw [World.frozen?_setCell]; exact h.f1, by rw [World.frozen?_setCell]; exact h.f2⟩
end
/-- The reader, in a memory that came of another. -/
structure RS (w0 w : World) (lb : Nat) (a : Option Addr) (len cap : Nat) (Z : List Int) (p : Nat) (bad : Int) : Prop where
  below : Below w0.heap.size w0 w
  base : w0.heap.size ≤ lb
  arg : Arg w0 a len cap Z
  mem : RM w lb a len cap p bad
  le : p ≤ len
  most : len ≤ ULim
section
variable {w0 w w' : World} {lb : Nat} {a : Option Addr} {len cap : Nat} {Z : List Int} {p : Nat} {bad : Int}
theorem RS.now (h : RS w0 w lb a len cap Z p bad) : Arg w a len cap Z := h.arg.below h.below
theorem RS.zlen (h : RS w0 w lb a len cap Z p bad) : Z.length = len := h.arg.len
theorem RS.lt (h : RS w0 w lb a len cap Z p bad) : lb < w.heap.size := h.mem.lt
theorem RS.on (h : RS w0 w lb a len cap Z p bad) (hb : Below w.heap.size w w') : RS w0 w' lb a len cap Z p bad :=
  ⟨h.below.trans (hb.mono h.below.size), h.base, h.arg, h.mem.kept (hb.block _ h.lt), h.le, h.most⟩
theorem RS.at (h : RS w0 w lb a len cap Z p bad) {q : Nat} (hq : q ≤ len) : RS w0 (w.setCell ⟨lb, 1, none⟩ (.int .i64 q)) lb a len cap Z q bad :=
  ⟨h.below.setCell h.base _, h.base, h.arg, h.mem.setAt _, hq, h.most⟩
theorem RS.wrong (h : RS w0 w lb a len cap Z p bad) (e : Int) : RS w0 (w.setCell ⟨lb, 2, none⟩ (errW e)) lb a len cap Z p e :=
  ⟨h.below.setCell h.base _, h.base, h.arg, h.mem.setBad _, h.le, h.most⟩
end
/-- One block alone was turned. -/
structure Tr (lb : Nat) (w w' : World) : Prop where
  os : w'.os = w.os
  tape : w'.tape = w.tape
  output : w'.output = w.output
  size : w.heap.size ≤ w'.heap.size
  block : ∀ k, k < w.heap.size → k ≠ lb → w'.heap[k]? = w.heap[k]?
theorem Tr.refl (lb : Nat) (w : World) : Tr lb w w := ⟨rfl, rfl, rfl, Nat.le_refl _, fun _ _ _ => rfl⟩
theorem Tr.trans {lb : Nat} {w w1 w2 : World} (h : Tr lb w w1) (k : Tr lb w1 w2) : Tr lb w w2 := ⟨k.os.trans h.os, k.tape.trans h.tape, k.output.trans h.output, Nat.le_trans h.size k.size, fun i h1 h2 => (k.block i (Nat.lt_of_lt_of_le h1 h.size) h2).trans (h.block i h1 h2)⟩
theorem Tr.of {lb : Nat} {w w' : World} (h : Below w.heap.size w w') : Tr lb w w' := ⟨h.os, h.tape, h.output, h.size, fun k hk _ => h.block k hk⟩
theorem Tr.on {lb : Nat} {w w1 w2 : World} (h : Tr lb w w1) (k : Below w1.heap.size w1 w2) : Tr lb w w2 := h.trans (Tr.of k)
theorem Tr.set {lb o : Nat} {w w1 : World} {v : Value} (h : Tr lb w w1) : Tr lb w (w1.setCell ⟨lb, o, none⟩ v) := h.trans ⟨rfl, rfl, rfl, by simp [World.setCell], fun k _ hk => Below.heap_setCell _ _ _ _ hk⟩
theorem Tr.kp {lb B : Nat} {w w' : World} (h : Tr lb w w') (hb : lb < B) : Kp B w w' := ⟨h.size, fun k h1 h2 => h.block k h2 (by omega)⟩
def rptr (b : Nat) : Value := .pointer (some ⟨b, 0, none⟩)
theorem errW_0 : errW 0 = .nilIface := rfl
theorem errW_ne {e : Int} (h : e ≠ 0) : errW e = .iface 88 (.int .i64 e) := by unfold errW; rw [if_neg h]
theorem n_drew (w : World) : ∀ n, Below w.heap.size w (w.drewN n)
  | 0 => Below.refl _ _
  | n + 1 => (n_drew w n).drew
def seesL (Z : List Int) (p : Nat) (c : Int) : Bool := decide (p < Z.length) && decide (Z.getD p 0 = c)
/-- What the next byte was. -/
def NxTold (w0 w' : World) (lb : Nat) (a : Option Addr) (len cap : Nat) (Z : List Int) (p : Nat) (b : Bool) (x : Ending) : Prop :=
  (b = true ∧ x = .returned (.int .u8 (Z.getD p 0)) ∧ RS w0 w' lb a len cap Z (p + 1) 0) ∨ (b = false ∧ x = .returned (.int .u8 0) ∧ RS w0 w' lb a len cap Z p 2)
end Go.Proofs.YtglmppadhlkkgagGreatDoor
/-
  MESSAGES AS LINES: the developers' reader: how far it was read; next, word, digit. No claim by itself.
-/
namespace Go.Proofs.YtglmppadhlkkgagGreatDoor
open Go Go.RowKit Go.Shelf
set_option maxRecDepth 100000
attribute [local go_sem] run_store_func run_store_nilFunc
/-- How far it was read: what comes of it all is what is still to be read tells of the rest; or a fault was met. -/
def Dst {β : Type} (G : Int × β × List Int) (K : Pz β) (w0 wx : World) (lb : Nat) (a : Option Addr) (len cap : Nat) (Z : List Int) : Prop :=
  ∃ (q : Nat) (bad : Int), RS w0 wx lb a len cap Z q bad ∧ ((bad = 0 ∧ G = K (Z.drop q)) ∨ (bad ≠ 0 ∧ G.1 = bad))
section
variable {β : Type} {G : Int × β × List Int} {K : Pz β} {w0 wx w' : World} {lb : Nat} {a : Option Addr} {len cap : Nat} {Z : List Int}
theorem Dst.lt (h : Dst G K w0 wx lb a len cap Z) : lb < wx.heap.size := by
  obtain ⟨q, bad, h1, _⟩ := h
  exact h1.lt
theorem Dst.below (h : Dst G K w0 wx lb a len cap Z) : Below w0.heap.size w0 wx := by
  obtain ⟨q, bad, h1, _⟩ := h
  exact h1.below
theorem Dst.base (h : Dst G K w0 wx lb a len cap Z) : w0.heap.size ≤ lb := by
  obtain ⟨q, bad, h1, _⟩ := h
  exact h1.base
theorem Dst.on (h : Dst G K w0 wx lb a len cap Z) (hb : Below wx.heap.size wx w') : Dst G K w0 w' lb a len cap Z := by
  obtain ⟨q, bad, h1, h2⟩ := h
  exact ⟨q, bad, h1.on hb, h2⟩
end
theorem o1 {w : World} {B : Nat} {x : Value} {T : TypeId} (h : w.heap[B]? = some (.cells #[x] T (0, 0))) : w.cell? ⟨B, 0, none⟩ = some x ∧ w.frozen? ⟨B, 0, none⟩ = false := by simp [World.cell?, World.frozen?, h]
/-- The next byte, if it may be. -/
def nxtP (ok : Int → Bool) : Pz Int
  | [] => (8, 0, [])
  | c :: r => if ok c = true then (0, c, r) else (2, 0, [])
theorem drop_at {Z : List Int} {q : Nat} (h : q < Z.length) : Z.drop q = Z.getD q 0 :: Z.drop (q + 1) := by
  rw [List.drop_eq_getElem_cons h]
  simp [List.getD, List.getElem?_eq_getElem h]
section
variable {β : Type} [Inhabited β] {G : Int × β × List Int} {w0 wx : World} {lb : Nat} {a : Option Addr} {len cap : Nat} {Z : List Int}
end
theorem mts_cons {β : Type} [Inhabited β] (c : Int) (s : List Int) (f : Unit → Pz β) : bindP (mtsP (c :: s)) f = bindP (nxtP fun d => decide (d = c)) fun _ => bindP (mtsP s) f := by
  funext b
  match b with
  | [] => rfl
  | d :: r =>
    unfold bindP
    simp only [mtsP, nxtP]
    by_cases h : d = c
    · simp [h]
    · simp [h]
end Go.Proofs.YtglmppadhlkkgagGreatDoor
/-
  MESSAGES AS LINES: the developers' reader: text. No claim by itself.
-/
namespace Go.Proofs.YtglmppadhlkkgagGreatDoor
open Go Go.RowKit Go.Shelf
set_option maxRecDepth 100000
attribute [local go_sem] run_store_func run_store_nilFunc
/-- A text, of which acc was read. -/
def untK {β : Type} [Inhabited β] (stop : Int) (may : Int → Bool) (f : List Int → Pz β) (k : Nat) (acc : List Int) : Pz β := fun b => if (untG stop may k b).1 = 0 then f (acc ++ (untG stop may k b).2.1) (untG stop may k b).2.2 else ((untG stop may k b).1, default, [])
def txtK {β : Type} [Inhabited β] (least : Nat) (f : List Int → Pz β) (s : List Int) : Pz β := if endsL least s = true then bindP skipP fun _ => f s else failP 2
section
variable {β : Type} [Inhabited β] {stop : Int} {may : Int → Bool} {f : List Int → Pz β} {k : Nat} {acc : List Int}
theorem untK_nil : (untK stop may f k acc []).1 = 8 := rfl
theorem untK_stop {c : Int} {r : List Int} (h : c = stop) : untK stop may f k acc (c :: r) = f acc (c :: r) := by
  unfold untK untG
  rw [if_pos h]
  simp
theorem untK_no {c : Int} {r : List Int} (h : c ≠ stop) (hg : goF may k c = false) : (untK stop may f k acc (c :: r)).1 = 2 := by
  unfold untK untG
  rw [if_neg h, if_pos hg]
  simp
theorem untG_go {c : Int} {r : List Int} (h : c ≠ stop) (hg : goF may k c = true) : untG stop may k (c :: r) = if (untG stop may (k + 1) r).1 = 0 then (0, c :: (untG stop may (k + 1) r).2.1, (untG stop may (k + 1) r).2.2) else ((untG stop may (k + 1) r).1, [], []) := by
  rw [untG, if_neg h, if_neg (by rw [hg]; simp)]
theorem untK_go {c : Int} {r : List Int} (h : c ≠ stop) (hg : goF may k c = true) : untK stop may f k acc (c :: r) = untK stop may f (k + 1) (acc ++ [c]) r := by
  unfold untK
  rw [untG_go h hg]
  by_cases h0 : (untG stop may (k + 1) r).1 = 0
  · rw [if_pos h0, if_pos rfl, if_pos h0]
    simp
  · rw [if_neg h0]
    simp only [if_neg h0]
end
theorem txt_is {β : Type} [Inhabited β] {stop : Int} {may : Int → Bool} {least : Nat} {f : List Int → Pz β} : bindP (txtP stop may least) f = untK stop may (txtK least f) 0 [] := by
  funext b
  unfold txtP untK txtK
  match hu : untG stop may 0 b with
  | (e, t, r) =>
    by_cases he : e = 0
    · subst he
      simp only [if_true, List.nil_append]
      unfold bindP
      rw [hu]
      simp only [if_true]
      by_cases hd : endsL least t = true
      · rw [if_pos hd, if_pos hd]
        match r with
        | [] => simp [skipP]
        | c :: r => simp [skipP, retP]
      · rw [if_neg hd, if_neg hd]
        simp [failP]
    · unfold bindP
      simp [hu, he]
def cutA (a : Option Addr) (cap i : Nat) : Option Addr := if cap = i then a else a.map (·.add i)
theorem elem_sl : Tryz.prog.elem 23 = 5 := by kernel_rfl
theorem und_sl : Tryz.prog.underlying 23 = some (.slice (Tryz.prog.elem 23)) := by rw [elem_sl]; exact Tryz.underlying23
theorem size_5 (w : World) : (sizeOf 5).run Tryz.prog w = .ok 1 w := by kernel_rfl
theorem run_cut (a : Option Addr) (len cap i j : Nat) (h : i ≤ j) (hj : j ≤ cap) (w : World) : (Instr.slice 23 (.slice a len cap) (some (.int .i64 (i : Int))) (some (.int .i64 (j : Int))) none).run Tryz.prog w = .ok (.slice (cutA a cap i) (j - i) (cap - i)) w := by
  rw [run_slice_lh w 23 a len cap und_sl .i64 .i64 (i : Int) (j : Int) (by omega) (by omega) (by omega), elem_sl, size_5]
  simp [Result.andThen, sliced, cutA]
theorem run_cut_l (a : Option Addr) (len cap i : Nat) (h : i ≤ len) (w : World) : (Instr.slice 23 (.slice a len cap) (some (.int .i64 (i : Int))) none none).run Tryz.prog w = .ok (.slice (cutA a cap i) (len - i) (cap - i)) w := by
  rw [run_slice_l w 23 a len cap und_sl .i64 (i : Int) (by omega) (by omega), elem_sl, size_5]
  simp [Result.andThen, sliced, cutA]
theorem Row.part {w : World} {g off len cap : Nat} {Z : List Int} (h : Row w g off len cap Z) (p n : Nat) (hs : p + n ≤ len) : Row w g (off + p) n (cap - p) ((Z.drop p).take n) := by
  have hl := h.hlen
  have hc := h.hcap
  have hm := h.hmax
  have e : ∀ t, t < n → ((Z.drop p).take n).getD t 0 = Z.getD (p + t) 0 := fun t ht => by simp [List.getD, ht]
  refine ⟨by simp; omega, by omega, by omega, fun t ht => ?_, fun t => ?_⟩
  · rw [e t ht, Nat.add_assoc]
    exact h.hcell (p + t) (by omega)
  · by_cases ht : t < n
    · rw [e t ht]
      exact h.hbyte _
    · have e : ((Z.drop p).take n).getD t 0 = 0 := by simp [List.getD, List.getElem?_take, ht]
      rw [e]; decide
theorem Arg.part {w : World} {a : Option Addr} {len cap : Nat} {Z : List Int} (h : Arg w a len cap Z) (p n : Nat) (hs : p + n ≤ len) : Arg w (cutA a cap p) n (cap - p) ((Z.drop p).take n) := by
  rcases h with ⟨rfl, rfl⟩ | ⟨g, off, rfl, hr⟩
  · obtain rfl : n = 0 := by omega
    exact Or.inl ⟨rfl, by simp⟩
  · have hc := hr.hcap
    unfold cutA
    by_cases hp : cap = p
    · obtain rfl : n = 0 := by omega
      exact Or.inl ⟨rfl, by simp⟩
    · rw [if_neg hp]
      refine Or.inr ⟨g, off + p, ?_, hr.part p n hs⟩
      have hplain : (⟨g, off, none⟩ : Addr).add p = ⟨g, off + p, none⟩ := by unfold Addr.add; split <;> simp_all
      simp [hplain]
theorem Arg.cap {w : World} {a : Option Addr} {len cap : Nat} {Z : List Int} (h : Arg w a len cap Z) : len ≤ cap := by
  rcases h with ⟨rfl, rfl⟩ | ⟨g, off, rfl, hr⟩
  · exact Nat.zero_le _
  · exact hr.hcap
theorem n_empty {w : World} (a : Addr) (cap : Nat) : (convert 23 9 (.slice (some a) 0 cap)).run Tryz.prog w = .ok (.string (strOfNums [])) w := by
  rw [run_convert_bytes_string w 23 9 5 _ 0 cap Tryz.underlying23 Tryz.underlying5 Tryz.underlying9, run_bytesToString w a 0 cap [] (by simp [loadCells, loadCellsFrom])]
  rfl
/-- string(b) of bytes that were handed in. -/
theorem nd_text {w : World} {a : Option Addr} {len cap : Nat} {Z : List Int} (h : Arg w a len cap Z) :
    (convert 23 9 (.slice a len cap)).run Tryz.prog w = .ok (.string (strOfNums Z)) w := by
  rcases h with ⟨rfl, rfl⟩ | ⟨g, off, rfl, hr⟩
  · match a with
    | none => exact run_convert_bytes_nil (P := Tryz.prog) w 23 5 Tryz.underlying23 Tryz.underlying5 0 cap 9 Tryz.underlying9
    | some a => exact n_empty a cap
  · exact run_convert_bytes_arg w 23 5 Tryz.underlying23 Tryz.underlying5 g off len cap Z hr.hlen hr.hcell 9 Tryz.underlying9
/-- What was read of a text so far. -/
def TxI {β : Type} [Inhabited β] (G : Int × β × List Int) (stop : Int) (may : Int → Bool) (least : Nat) (f : List Int → Pz β) (Z : List Int) (q0 q : Nat) (bad : Int) : Prop :=
  (bad = 0 ∧ G = untK stop may (txtK least f) (q - q0) ((Z.drop q0).take (q - q0)) (Z.drop q)) ∨ (bad ≠ 0 ∧ G.1 = bad)
/-- What the test of the loop says. -/
def SeeT (Z : List Int) (len q : Nat) (bad stop : Int) (bb : Bool) : Prop := (bb = true ∧ bad = 0 ∧ (q = len ∨ Z.getD q 0 ≠ stop)) ∨ (bb = false ∧ (bad ≠ 0 ∨ (q < len ∧ Z.getD q 0 = stop)))
theorem txtK_nxt {β : Type} [Inhabited β] {least : Nat} {f : List Int → Pz β} {s : List Int} {c : Int} {r : List Int} : txtK least f s (c :: r) = bindP (nxtP fun _ => endsL least s) (fun _ => f s) (c :: r) := by
  unfold txtK bindP nxtP
  by_cases h : endsL least s = true
  · simp [h, skipP]
  · simp [h, failP]
end Go.Proofs.YtglmppadhlkkgagGreatDoor
/-
  MESSAGES AS LINES: the developers' reader: value, digit, code, length. No claim by itself.
-/
namespace Go.Proofs.YtglmppadhlkkgagGreatDoor
open Go Go.RowKit Go.Shelf
set_option maxRecDepth 100000
attribute [local go_sem] run_store_func run_store_nilFunc
theorem bind_assoc {α β γ : Type} [Inhabited β] [Inhabited γ] (p : Pz α) (g : α → Pz β) (f : β → Pz γ) : bindP (bindP p g) f = bindP p fun x => bindP (g x) f := by
  funext b
  unfold bindP
  by_cases h : (p b).1 = 0
  · simp [h]
  · simp [h]
theorem bind_ret {α β : Type} [Inhabited β] (v : α) (f : α → Pz β) : bindP (retP v) f = f v := by
  funext b
  simp [bindP, retP]
theorem bind_look {α β : Type} [Inhabited α] [Inhabited β] (g : Int → Pz α) (f : α → Pz β) : bindP (lookP g) f = lookP fun c => bindP (g c) f := by
  funext b
  match b with
  | [] => simp [bindP, lookP]
  | c :: r => rfl
section
variable {β : Type} [Inhabited β] {G : Int × β × List Int} {w0 wx : World} {lb : Nat} {a : Option Addr} {len cap : Nat} {Z : List Int}
def dgB (least most c : Int) : Bool := decide (least + 48 ≤ c) && decide (c ≤ most + 48)
theorem dig_is {f : Int → Pz β} (least most : Int) : bindP (digQ least most) f = bindP (nxtP (dgB least most)) fun c => f (c - 48) := by
  funext b
  match b with
  | [] => rfl
  | c :: r =>
    unfold bindP digQ lookP nxtP dgB
    by_cases h : least + 48 ≤ c ∧ c ≤ most + 48
    · simp [h, bindP, skipP, retP]
    · have h2 : ¬ ((decide (least + 48 ≤ c) && decide (c ≤ most + 48)) = true) := by simpa using h
      simp [h, h2, failP]
end
section
variable {β : Type} [Inhabited β] {G : Int × β × List Int} {w0 wx : World} {lb : Nat} {a : Option Addr} {len cap : Nat} {Z : List Int}
end
end Go.Proofs.YtglmppadhlkkgagGreatDoor
/-
  MESSAGES AS LINES: the developers' reader: length. No claim by itself.
-/
namespace Go.Proofs.YtglmppadhlkkgagGreatDoor
open Go Go.RowKit Go.Shelf
set_option maxRecDepth 100000
section
variable {β : Type} [Inhabited β]
theorem len_step {n : Int} {K : Int → Pz β} {b : List Int} (hn : 0 < n) (hb : b = [] ∨ b.headD 0 ≠ 13) : bindP (lenR n) K b = bindP (digQ 0 9) (fun v => if 8000 < 10 * n + v then failP 4 else bindP (lenR (10 * n + v)) K) b := by
  match b with
  | [] =>
    unfold bindP
    simp [lenR, hn, digQ, lookP]
  | c :: r =>
    have hc : c ≠ 13 := by simpa using hb
    have e : lenR n (c :: r) = if c < 48 ∨ 57 < c then (2, 0, []) else if 8000 < 10 * n + (c - 48) then (4, 0, []) else lenR (10 * n + (c - 48)) r := by rw [lenR, if_neg (by omega)]
    by_cases h1 : c < 48 ∨ 57 < c
    · have e2 : digQ 0 9 (c :: r) = (2, default, []) := by
        unfold digQ
        rw [lookP, if_neg (by omega)]
        rfl
      unfold bindP
      rw [e, if_pos h1, e2]
      simp
    · have e2 : digQ 0 9 (c :: r) = (0, c - 48, r) := dig_say (by omega) r
      rw [bindP_ok e2]
      by_cases h2 : 8000 < 10 * n + (c - 48)
      · rw [if_pos h2]
        unfold bindP
        rw [e, if_neg h1, if_pos h2]
        simp [failP]
      · rw [if_neg h2]
        unfold bindP
        rw [e, if_neg h1, if_neg h2]
theorem len_stop {n : Int} {K : Int → Pz β} {b : List Int} (h : ¬ 0 < n ∨ (b ≠ [] ∧ b.headD 0 = 13)) : bindP (lenR n) K b = K n b := by
  have e : lenR n b = (0, n, b) := by
    match b with
    | [] =>
      have hn : ¬ 0 < n := h.resolve_right (by simp)
      simp [lenR, hn]
    | c :: r =>
      rw [lenR, if_pos (h.imp id (fun k => by simpa using k))]
  rw [bindP_ok e]
/-- What was read of a length so far. -/
def LnI (G : Int × β × List Int) (K : Int → Pz β) (Z : List Int) (n : Int) (q : Nat) (bad : Int) : Prop :=
  (bad = 0 ∧ n ≤ 8000 ∧ G = bindP (lenR n) K (Z.drop q)) ∨ (bad ≠ 0 ∧ G.1 = bad)
/-- What the loop's test says. -/
def LnT (Z : List Int) (len : Nat) (n : Int) (q : Nat) (bad : Int) (bb : Bool) : Prop :=
  (bb = true ∧ 0 < n ∧ bad = 0 ∧ (q = len ∨ Z.getD q 0 ≠ 13)) ∨ (bb = false ∧ (¬ 0 < n ∨ bad ≠ 0 ∨ (q < len ∧ Z.getD q 0 = 13)))
theorem drop_head {Z : List Int} {q : Nat} (h : q < Z.length) : Z.drop q ≠ [] ∧ (Z.drop q).headD 0 = Z.getD q 0 := by
  rw [drop_at h]
  exact ⟨by simp, rfl⟩
variable {G : Int × β × List Int} {w0 wx : World} {lb : Nat} {a : Option Addr} {len cap : Nat} {Z : List Int}
end
end Go.Proofs.YtglmppadhlkkgagGreatDoor
