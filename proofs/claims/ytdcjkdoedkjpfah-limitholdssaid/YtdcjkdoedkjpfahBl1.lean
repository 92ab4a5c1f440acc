/-
  NOT TOO OFTEN, as the developers keep it: what a limit is in memory; New, look, renew. No claim by itself.
-/
import Derived.Test.YtdcjkdoedkjpfahWspec0
import Derived.Maps.OwnSet
import Derived.Maps.OwnOps
import Derived.Maps.Views
import Derived.BigRegion
import Derived.BigQuiet
import Derived.Deep.QuietTactic
import Derived.Deep.RegionHeld3
import Derived.Lib.MinMax
namespace Go.Proofs.Ytdcjkdoedkjpfah
open Go.RowKit Go.Maps
set_option maxRecDepth 100000
abbrev BDat := DataW Unit
theorem bklaw : Keyed Try.prog 9 := string_keyed Try.underlying9
def bkV (l a : Int) : Value := .agg #[.int .i64 l, .int .i64 a]
def bkD (l a : Int) : BDat := .agg [.lit (.int .i64 l), .lit (.int .i64 a)]
/-- How an element of the map reads. -/
def bkElem : Value → Option (BDat × List MemPlace)
  | .agg cs => match cs.toList with
    | [.int .i64 l, .int .i64 a] => some (bkD l a, [])
    | _ => none
  | _ => none
theorem bkElem_mk (l a : Int) : bkElem (bkV l a) = some (bkD l a, []) := rfl
theorem bkElem_inv {v : Value} {y : BDat × List MemPlace} (h : bkElem v = some y) : ∃ l a, v = bkV l a ∧ y = (bkD l a, []) := by
  unfold bkElem at h
  split at h
  · rename_i cs
    split at h
    · rename_i l a hc
      cases h
      refine ⟨l, a, ?_, rfl⟩
      unfold bkV
      congr 1
      apply Array.ext'
      rw [hc]
    · cases h
  · cases h
theorem bkD_inj {a b c d : Int} (h : bkD a b = bkD c d) : a = c ∧ b = d := by
  unfold bkD at h
  simpa using h
abbrev BSt := List UInt8 → Option (Int × Int)
def blK (s : List UInt8) : Lit := .string s
/-- What the map says of the keys. -/
structure BlR (D : BDat) (f : BSt) (n : Nat) : Prop where
  at_ : ∀ (s : List UInt8) zd, D.atKey (blK s) zd = match f s with
    | some o => bkD o.1 o.2
    | none => zd
  size : Maps.size D = n
theorem BlR.none_ {D : BDat} {f : BSt} {n : Nat} (h : BlR D f n) {s : List UInt8} (hf : f s = none) : Maps.has D (blK s) = false :=
  has_false_of_atKey (fun z => by rw [h.at_, hf])
theorem BlR.some_ {D : BDat} {f : BSt} {n : Nat} (h : BlR D f n) {s : List UInt8} {o : Int × Int} (hf : f s = some o) : Maps.has D (blK s) = true :=
  has_true_of_atKey (y := bkD o.1 o.2) (fun z => by rw [h.at_, hf])
theorem blR_nil : BlR (.map []) (fun _ => none) 0 := ⟨fun _ _ => rfl, rfl⟩
def blPut (f : BSt) (s : List UInt8) (o : Int × Int) : BSt := fun t => if t = s then some o else f t
def blSz (f : BSt) (s : List UInt8) (n : Nat) : Nat := if (f s).isSome then n else n + 1
theorem blK_ne {a b : List UInt8} (h : a ≠ b) : blK a ≠ blK b := by
  unfold blK
  simpa using h
theorem BlR.put {D : BDat} {f : BSt} {n : Nat} (h : BlR D f n) (ht : Tidy D) (s : List UInt8) (o : Int × Int) : BlR (D.put (blK s) (bkD o.1 o.2)) (blPut f s o) (blSz f s n) := by
  refine ⟨fun t zd => ?_, ?_⟩
  · unfold blPut
    by_cases hi : t = s
    · subst hi
      rw [if_pos rfl, atKey_put_same (k := blK _) ht.isMap trivial]
    · rw [if_neg hi, atKey_put_other (blK_ne hi), h.at_]
  · rw [size_put ht]
    unfold blSz
    cases e : f s with
    | none => rw [h.none_ e, h.size]; simp
    | some o => rw [h.some_ e, h.size]; simp
theorem bl_tight {P : Program} {k : TypeId} {R : Value → Option (BDat × List MemPlace)} {w : World} {b n : Nat} {D : BDat} (h : w.ownsMap P k R b n D) : w.ownsMap P k R b (Maps.size D) D := by
  obtain ⟨es, clock, hb, F, _, hD⟩ := h
  refine ⟨es, clock, hb, F, ?_, hD⟩
  rw [hD]
  simp [Maps.size, length_sorted]
/-- The limit in memory: a struct of three cells, and its map. -/
structure LimM (w : World) (lb mb : Nat) (r b : Int) (D : BDat) (f : BSt) (n : Nat) : Prop where
  c0 : w.cell? ⟨lb, 0, none⟩ = some (.int .i64 r)
  c1 : w.cell? ⟨lb, 1, none⟩ = some (.int .i64 b)
  c2 : w.cell? ⟨lb, 2, none⟩ = some (.map (some mb))
  ne : mb ≠ lb
  own : w.ownsMap Try.prog 9 bkElem mb n D
  rel : BlR D f n
def Bl2 (lb mb k : Nat) : Prop := k = lb ∨ k = mb
/-- A limit, wherever its map lies. -/
def LimP (w : World) (lb : Nat) (r b : Int) (f : BSt) (n : Nat) (S : Nat → Prop) : Prop := ∃ mb D, LimM w lb mb r b D f n ∧ S = Bl2 lb mb
theorem LimM.lt {w : World} {lb mb : Nat} {r b : Int} {D : BDat} {f : BSt} {n : Nat} (h : LimM w lb mb r b D f n) : lb < w.heap.size ∧ mb < w.heap.size := ⟨blk_of_cell h.c0, h.own.lt⟩
theorem LimM.kept {w w' : World} {lb mb : Nat} {r b : Int} {D : BDat} {f : BSt} {n : Nat} (h : LimM w lb mb r b D f n) (e1 : w'.heap[lb]? = w.heap[lb]?) (e2 : w'.heap[mb]? = w.heap[mb]?) : LimM w' lb mb r b D f n := by
  obtain ⟨es, clock, hb, q⟩ := h.own
  exact ⟨(World.cell?_of_block (a := ⟨lb, 0, none⟩) e1).trans h.c0, (World.cell?_of_block (a := ⟨lb, 1, none⟩) e1).trans h.c1, (World.cell?_of_block (a := ⟨lb, 2, none⟩) e1).trans h.c2, h.ne, ⟨es, clock, e2.trans hb, q⟩, h.rel⟩
theorem LimM.below {w w' : World} {lb mb : Nat} {r b : Int} {D : BDat} {f : BSt} {n : Nat} (h : LimM w lb mb r b D f n) {B : Nat} (hB : w.heap.size ≤ B) (hb : Below B w w') : LimM w' lb mb r b D f n :=
  h.kept (hb.block _ (Nat.lt_of_lt_of_le h.lt.1 hB)) (hb.block _ (Nat.lt_of_lt_of_le h.lt.2 hB))
theorem LimM.turn {w w' : World} {lb mb n' : Nat} {r b : Int} {D D' : BDat} {f f' : BSt} {n m : Nat} (h : LimM w lb mb r b D f n) (ho : w'.ownsMap Try.prog 9 bkElem mb n' D') (hr : BlR D' f' m) (hg : w.grownBy w' (some mb)) : LimM w' lb mb r b D' f' m := by
  have e1 := hg.block lb h.lt.1 (fun e => h.ne (Option.some.inj e).symm)
  exact ⟨(World.cell?_of_block (a := ⟨lb, 0, none⟩) e1).trans h.c0, (World.cell?_of_block (a := ⟨lb, 1, none⟩) e1).trans h.c1, (World.cell?_of_block (a := ⟨lb, 2, none⟩) e1).trans h.c2, h.ne, by rw [← hr.size]; exact bl_tight ho, hr⟩
theorem limP_lt {w : World} {lb : Nat} {r b : Int} {f : BSt} {n : Nat} {S : Nat → Prop} (h : LimP w lb r b f n S) : ∀ k, S k → k < w.heap.size := by
  obtain ⟨mb, D, h, rfl⟩ := h
  rintro k (rfl | rfl)
  · exact h.lt.1
  · exact h.lt.2
theorem limP_frame {w w' : World} {lb : Nat} {r b : Int} {f : BSt} {n : Nat} {S : Nat → Prop} (h : LimP w lb r b f n S) (hk : ∀ k, S k → w'.heap[k]? = w.heap[k]?) : LimP w' lb r b f n S := by
  obtain ⟨mb, D, h, rfl⟩ := h
  exact ⟨mb, D, h.kept (hk _ (Or.inl rfl)) (hk _ (Or.inr rfl)), rfl⟩
theorem limP_below {w w' : World} {lb : Nat} {r b : Int} {f : BSt} {n : Nat} {S : Nat → Prop} (h : LimP w lb r b f n S) (hb : Below w.heap.size w w') : LimP w' lb r b f n S :=
  limP_frame h (fun k hk => hb.block k (limP_lt h k hk))
theorem bl_grown {S : Nat → Prop} {w w' : World} {row : Option Nat} (h : w.grownBy w' row) (hr : ∀ k, row = some k → S k) : Tn S w w' :=
  ⟨h.os, h.tape, h.output, h.size, fun k hk hs => h.block k hk (fun e => hs (hr k e.symm))⟩
theorem bl_then {S : Nat → Prop} {a b c : World} (h : Below a.heap.size a b) (k : Tn S b c) : Tn S a c :=
  ⟨k.os.trans h.os, k.tape.trans h.tape, k.output.trans h.output, Nat.le_trans h.size k.size, fun i hi hs => (k.block i (Nat.lt_of_lt_of_le hi h.size) hs).trans (h.block i hi)⟩
/-- What is known of all numbers of a limit. -/
structure BlI (r b : Int) (f : BSt) (n : Nat) : Prop where
  r0 : 1 ≤ r
  r1 : r ≤ 1000000
  b0 : 1 ≤ b
  b1 : b ≤ 1000000
  many : n ≤ 100
  each : ∀ s l a, f s = some (l, a) → 0 ≤ l ∧ l ≤ b ∧ 0 ≤ a ∧ a ≤ 1000000
def lptr (lb : Nat) : Value := .pointer (some ⟨lb, 0, none⟩)
/-- The bucket of a key as it is now: its fault, what is left, since when. -/
def lookF (r b : Int) (f : BSt) (n : Nat) (s : List UInt8) (now k : Int) : Int × Int × Int :=
  if ¬ (1 ≤ k ∧ k ≤ b) ∨ ¬ (0 ≤ now ∧ now ≤ 1000000) then (1, 0, 0) else
  match f s with
  | some o => if now < o.2 then (6, 0, 0) else (0, min (o.1 + (now - o.2) * r) b, now)
  | none => if 100 ≤ n then (4, 0, 0) else (0, b, now)
theorem blzero (w : World) : (zeroValue 40).run Try.prog w = .ok (bkV 0 0) w := by kernel_rfl
theorem bl_key {s : ByteArray} (h : s.size ≤ 140737488351232) : keyOf Try.prog 9 (.string s) = some (blK s.data.toList) := Go.WideMaps.keyOf_string_mk Try.underlying9 (by unfold maxLen; omega)
section
variable {w : World} {lb mb : Nat} {r b : Int} {D : BDat} {f : BSt} {n : Nat} (h : LimM w lb mb r b D f n) {s : ByteArray} (hs : s.size ≤ 140737488351232)
include h hs
theorem LimM.look {l a : Int} (hf : f s.data.toList = some (l, a)) : (Instr.lookup 36 (.map (some mb)) (.string s) true).run Try.prog w = .ok (.tuple #[.agg #[.int .i64 l, .int .i64 a], .bool true]) w := by
  obtain ⟨v, ps, hrun, hv⟩ := h.own.look_ok bklaw Try.underlying36 (blzero w) (bkElem_mk 0 0) (bl_key hs)
  rw [h.rel.some_ hf] at hrun
  rw [h.rel.at_, hf] at hv
  obtain ⟨x, y, rfl, e⟩ := bkElem_inv hv
  obtain ⟨e1, e2⟩ := bkD_inj (congrArg Prod.fst e)
  simp only at e1 e2
  rw [e1, e2]
  exact hrun
theorem LimM.look0 (hf : f s.data.toList = none) : (Instr.lookup 36 (.map (some mb)) (.string s) true).run Try.prog w = .ok (.tuple #[.agg #[.int .i64 0, .int .i64 0], .bool false]) w := by
  obtain ⟨v, ps, hrun, hv⟩ := h.own.look_ok bklaw Try.underlying36 (blzero w) (bkElem_mk 0 0) (bl_key hs)
  rw [h.rel.none_ hf] at hrun
  rw [h.rel.at_, hf] at hv
  obtain ⟨x, y, rfl, e⟩ := bkElem_inv hv
  obtain ⟨e1, e2⟩ := bkD_inj (congrArg Prod.fst e)
  subst e1 e2
  exact hrun
theorem LimM.store (hm : n ≤ 100) (l a : Int) :
    ∃ w', (Instr.mapUpdate 36 (.map (some mb)) (.string s) (.agg #[.int .i64 l, .int .i64 a])).run Try.prog w = .ok () w' ∧ w'.ownsMap Try.prog 9 bkElem mb (n + 1) (D.put (blK s.data.toList) (bkD l a)) ∧ w.grownBy w' (some mb) := by
  obtain ⟨w', h1, h2, h3⟩ := h.own.update bklaw Try.underlying36 (by unfold maxLen; omega) (bl_key hs) (bkElem_mk l a)
  exact ⟨w', h1, h2, h3⟩
end
theorem within_any (n lo hi : Int) (w : World) : Calls Try.prog 8 #[.int .i64 n, .int .i64 lo, .int .i64 hi] w fun e w' => e = .returned (.bool (decide (lo ≤ n) && decide (n ≤ hi))) ∧ w = w' := by
  by_cases h1 : lo ≤ n <;> by_cases h2 : n ≤ hi <;> simp only [h1, h2, decide_true, decide_false, Bool.and_true, Bool.and_false] <;>
  (go_enter Try.func8, Try.ntmps8; go_wp2; go_ret; exact ⟨rfl, rfl⟩)
theorem within_yes {n lo hi : Int} (h1 : lo ≤ n) (h2 : n ≤ hi) (w : World) : Calls Try.prog 8 #[.int .i64 n, .int .i64 lo, .int .i64 hi] w fun e w' => e = .returned (.bool true) ∧ w = w' := by
  have h := within_any n lo hi w
  rwa [show (decide (lo ≤ n) && decide (n ≤ hi)) = true by simp [h1, h2]] at h
theorem within_no {n lo hi : Int} (h1 : ¬ (lo ≤ n ∧ n ≤ hi)) (w : World) : Calls Try.prog 8 #[.int .i64 n, .int .i64 lo, .int .i64 hi] w fun e w' => e = .returned (.bool false) ∧ w = w' := by
  have h := within_any n lo hi w
  rwa [show (decide (lo ≤ n) && decide (n ≤ hi)) = false by simp; omega] at h
/-- What New answers. -/
def NewE (r b : Int) (w : World) (e : Ending) (w' : World) : Prop := Below w.heap.size w w' ∧
  ((1 ≤ r ∧ r ≤ 1000000 ∧ 1 ≤ b ∧ b ≤ 1000000 ∧ ∃ lb S, e = .returned (.tuple #[lptr lb, .nilIface]) ∧ LimP w' lb r b (fun _ => none) 0 S ∧ (∀ k, S k → w.heap.size ≤ k) ∧ w.heap.size ≤ lb) ∨
   (¬ (1 ≤ r ∧ r ≤ 1000000 ∧ 1 ≤ b ∧ b ≤ 1000000) ∧ e = .returned (.tuple #[.pointer none, .iface 35 (.int .i64 1)])))
set_option maxHeartbeats 1000000 in
theorem blnew_any (r b : Int) (w : World) : Calls Try.prog 4 #[.int .i64 r, .int .i64 b] w (NewE r b w) := by
  by_cases h1 : 1 ≤ r ∧ r ≤ 1000000
  · have H1 := vl (within_yes h1.1 h1.2 w)
    by_cases h2 : 1 ≤ b ∧ b ≤ 1000000
    · have H2 := vl (within_yes h2.1 h2.2 w)
      have hmm := @run_makeMap Try.prog
      have HP : Vl (LimM ((w.alloc (.map #[] 0)).alloc (.cells #[.int .i64 r, .int .i64 b, .map (some w.heap.size)] 38)) (w.heap.size + 1) w.heap.size r b (.map []) (fun _ => none) 0) :=
        have hx : ((w.alloc (.map #[] 0)).alloc (.cells #[.int .i64 r, .int .i64 b, .map (some w.heap.size)] 38)).heap[w.heap.size + 1]? = some (.cells #[.int .i64 r, .int .i64 b, .map (some w.heap.size)] 38 (0, 0)) := by
          have := heap_alloc_new (w.alloc (.map #[] 0)) (.cells #[.int .i64 r, .int .i64 b, .map (some w.heap.size)] 38)
          rwa [World.size_alloc] at this
        ⟨by simp only [World.cell?, hx]; rfl, by simp only [World.cell?, hx]; rfl, by simp only [World.cell?, hx]; rfl, by omega, (World.ownsMap_made w _ _ _).alloc _, blR_nil⟩
      have HF : Vl (NewE r b w (.returned (.tuple #[.pointer (some ⟨w.heap.size + 1, 0, none⟩), .nilIface])) ((w.alloc (.map #[] 0)).alloc (.cells #[.int .i64 r, .int .i64 b, .map (some w.heap.size)] 38))) :=
        ⟨((Below.refl _ w).alloc (Nat.le_refl _) _).alloc (by simp) _, Or.inl ⟨h1.1, h1.2, h2.1, h2.2, w.heap.size + 1, Bl2 (w.heap.size + 1) w.heap.size, rfl, ⟨_, _, HP.out, rfl⟩, fun k hk => by rcases hk with rfl | rfl <;> omega, by omega⟩⟩
      clear h1 h2 HP
      go_enter Try.func4, Try.ntmps4
      go_wp2_with fail
      refine H1.out.mono ?_
      rintro e w' ⟨rfl, rfl⟩
      go_wp2_with fail
      refine H2.out.mono ?_
      rintro e w' ⟨rfl, rfl⟩
      go_wp2
      go_ret2
      exact HF.out
    · have H2 := vl (within_no h2 w)
      have HF : Vl (NewE r b w (.returned (.tuple #[.pointer none, .iface 35 (.int .i64 1)])) w) := ⟨Below.refl _ _, Or.inr ⟨by omega, rfl⟩⟩
      clear h1 h2
      go_enter Try.func4, Try.ntmps4
      go_wp2_with fail
      refine H1.out.mono ?_
      rintro e w' ⟨rfl, rfl⟩
      go_wp2_with fail
      refine H2.out.mono ?_
      rintro e w' ⟨rfl, rfl⟩
      go_wp2
      go_ret2
      exact HF.out
  · have H1 := vl (within_no h1 w)
    have HF : Vl (NewE r b w (.returned (.tuple #[.pointer none, .iface 35 (.int .i64 1)])) w) := ⟨Below.refl _ _, Or.inr ⟨by omega, rfl⟩⟩
    clear h1
    go_enter Try.func4, Try.ntmps4
    go_wp2_with fail
    refine H1.out.mono ?_
    rintro e w' ⟨rfl, rfl⟩
    go_wp2
    go_ret2
    exact HF.out
end Go.Proofs.Ytdcjkdoedkjpfah
