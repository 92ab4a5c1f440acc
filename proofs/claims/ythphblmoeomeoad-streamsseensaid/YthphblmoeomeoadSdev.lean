/-
  STREAMS THAT WERE SEEN, as the developers keep them: what they are in memory; the Go functions of package stream that turn or read them. No claim by itself.
-/
import Derived.Test.YthphblmoeomeoadSst1
import Derived.Maps.OwnSet
import Derived.Maps.OwnOps
import Derived.Maps.Views
namespace Go.Proofs.Ythphblmoeomeoad
open Go.RowKit Go.Maps
set_option maxRecDepth 100000
theorem klaw : Keyed Try.prog 3 := int_keyed Try.underlying3
theorem kzero (w : World) : (zeroValue 3).run Try.prog w = .ok (.int .i64 0) w := by kernel_rfl
abbrev Dat := DataW Unit
def litI : Dat → Int
  | .lit (.int _ c) => c
  | _ => 0
def atI (D : Dat) (id : Int) : Int := litI (D.atKey (.int .i64 id) (.lit (.int .i64 0)))
def hasI (D : Dat) (id : Int) : Bool := Maps.has D (.int .i64 id)
def putI (D : Dat) (id s : Int) : Dat := D.put (.int .i64 id) (.lit (.int .i64 s))
def delI (D : Dat) (id : Int) : Dat := D.del (.int .i64 id)
def WfI (id : Int) : Prop := (Lit.int .i64 id).wf = true
/-- Behind a call that turns the blocks of S alone. -/
structure Tn (S : Nat → Prop) (w w' : World) : Prop where
  os : w'.os = w.os
  tape : w'.tape = w.tape
  output : w'.output = w.output
  size : w.heap.size ≤ w'.heap.size
  block : ∀ k, k < w.heap.size → ¬ S k → w'.heap[k]? = w.heap[k]?
theorem Tn.refl (S : Nat → Prop) (w : World) : Tn S w w := ⟨rfl, rfl, rfl, Nat.le_refl _, fun _ _ _ => rfl⟩
theorem Tn.trans {S : Nat → Prop} {a b c : World} (h : Tn S a b) (k : Tn S b c) : Tn S a c :=
  ⟨k.os.trans h.os, k.tape.trans h.tape, k.output.trans h.output, Nat.le_trans h.size k.size, fun i hi hs => (k.block i (Nat.lt_of_lt_of_le hi h.size) hs).trans (h.block i hi hs)⟩
theorem Tn.mono {S S' : Nat → Prop} {a b : World} (h : Tn S a b) (hs : ∀ k, S k → S' k) : Tn S' a b :=
  ⟨h.os, h.tape, h.output, h.size, fun i hi hn => h.block i hi (fun x => hn (hs i x))⟩
theorem Tn.of_below {S : Nat → Prop} {w w' : World} (h : Below w.heap.size w w') : Tn S w w' := ⟨h.os, h.tape, h.output, h.size, fun k hk _ => h.block k hk⟩
theorem Tn.of_grown {S : Nat → Prop} {w w' : World} {row : Option Nat} (h : w.grownBy w' row) (hr : ∀ k, row = some k → S k) : Tn S w w' :=
  ⟨h.os, h.tape, h.output, h.size, fun k hk hs => h.block k hk (fun e => hs (hr k e.symm))⟩
theorem Tn.below {S : Nat → Prop} {B : Nat} {a w w' : World} (h : Below B a w) (k : Tn S w w') (hB : B ≤ w.heap.size) (hS : ∀ i, S i → B ≤ i) : Below B a w' :=
  ⟨k.os.trans h.os, k.tape.trans h.tape, k.output.trans h.output, Nat.le_trans h.size k.size, fun i hi => (k.block i (by omega) (fun hs => by have := hS i hs; omega)).trans (h.block i hi)⟩
theorem tn_set {S : Nat → Prop} {w : World} {a : Addr} {v : Value} (hS : S a.block) : Tn S w (w.setCell a v) := by
  have hb := (Below.refl a.block w).setCell (Nat.le_refl _) v
  refine ⟨hb.os, hb.tape, hb.output, hb.size, fun k _ hs => ?_⟩
  have hne : a.block ≠ k := fun e => hs (e ▸ hS)
  unfold World.setCell
  rw [Array.getElem?_modify]
  simp [hne]
/-- The streams in memory: a struct of two cells, and its map. -/
structure StP (w : World) (sb mb n : Nat) (D : Dat) (last : Int) : Prop where
  c0 : w.cell? ⟨sb, 0, none⟩ = some (.map (some mb))
  c1 : w.cell? ⟨sb, 1, none⟩ = some (.int .i64 last)
  f1 : w.frozen? ⟨sb, 1, none⟩ = false
  ne : mb ≠ sb
  own : w.ownsMap Try.prog 3 (plainElem Try.prog 3) mb n D
theorem blk_of_cell {w : World} {g o : Nat} {v : Value} (h : w.cell? ⟨g, o, none⟩ = some v) : g < w.heap.size := by
  rcases Nat.lt_or_ge g w.heap.size with h1 | h1
  · exact h1
  · simp [World.cell?, Array.getElem?_eq_none h1] at h
theorem StP.lt {w : World} {sb mb n : Nat} {D : Dat} {last : Int} (h : StP w sb mb n D last) : sb < w.heap.size ∧ mb < w.heap.size := ⟨blk_of_cell h.c0, h.own.lt⟩
theorem StP.kept {w w' : World} {sb mb n : Nat} {D : Dat} {last : Int} (h : StP w sb mb n D last) (e1 : w'.heap[sb]? = w.heap[sb]?) (e2 : w'.heap[mb]? = w.heap[mb]?) : StP w' sb mb n D last := by
  obtain ⟨es, clock, hb, r⟩ := h.own
  exact ⟨(World.cell?_of_block (a := ⟨sb, 0, none⟩) e1).trans h.c0, (World.cell?_of_block (a := ⟨sb, 1, none⟩) e1).trans h.c1, (World.frozen?_of_block (a := ⟨sb, 1, none⟩) e1).trans h.f1, h.ne, ⟨es, clock, e2.trans hb, r⟩⟩
theorem StP.below {w w' : World} {sb mb n : Nat} {D : Dat} {last : Int} (h : StP w sb mb n D last) (hb : Below w.heap.size w w') : StP w' sb mb n D last :=
  h.kept (hb.block _ h.lt.1) (hb.block _ h.lt.2)
theorem StP.tn {S : Nat → Prop} {w w' : World} {sb mb n : Nat} {D : Dat} {last : Int} (h : StP w sb mb n D last) (ht : Tn S w w') (h1 : ¬ S sb) (h2 : ¬ S mb) : StP w' sb mb n D last :=
  h.kept (ht.block _ h.lt.1 h1) (ht.block _ h.lt.2 h2)
theorem StP.turn {w w' : World} {sb mb n n' : Nat} {D D' : Dat} {last : Int} (h : StP w sb mb n D last) (ho : w'.ownsMap Try.prog 3 (plainElem Try.prog 3) mb n' D') (hg : w.grownBy w' (some mb)) : StP w' sb mb n' D' last := by
  have e1 := hg.block sb h.lt.1 (fun e => h.ne (Option.some.inj e).symm)
  exact ⟨(World.cell?_of_block (a := ⟨sb, 0, none⟩) e1).trans h.c0, (World.cell?_of_block (a := ⟨sb, 1, none⟩) e1).trans h.c1, (World.frozen?_of_block (a := ⟨sb, 1, none⟩) e1).trans h.f1, h.ne, ho⟩
def Mine (sb mb k : Nat) : Prop := k = sb ∨ k = mb
def sptr (sb : Nat) : Value := .pointer (some ⟨sb, 0, none⟩)
theorem snew_any (w : World) : Calls Try.prog 10 #[] w fun e w' => e = .returned (sptr (w.heap.size + 1)) ∧ StP w' (w.heap.size + 1) w.heap.size 0 (.map []) 0 ∧ Below w.heap.size w w' ∧ w'.heap.size = w.heap.size + 2 := by
  have hmm := @run_makeMap Try.prog
  have HP : Vl (StP ((w.alloc (.map #[] 0)).alloc (.cells #[.map (some w.heap.size), .int .i64 0] 65)) (w.heap.size + 1) w.heap.size 0 (.map []) 0) :=
    have hx : ((w.alloc (.map #[] 0)).alloc (.cells #[.map (some w.heap.size), .int .i64 0] 65)).heap[w.heap.size + 1]? = some (.cells #[.map (some w.heap.size), .int .i64 0] 65 (0, 0)) := by
      have := heap_alloc_new (w.alloc (.map #[] 0)) (.cells #[.map (some w.heap.size), .int .i64 0] 65)
      rwa [World.size_alloc] at this
    ⟨by simp only [World.cell?, hx]; rfl, by simp only [World.cell?, hx]; rfl, by simp only [World.frozen?, hx]; rfl, by omega, (World.ownsMap_made w _ _ _).alloc _⟩
  have HB : Vl (Below w.heap.size w ((w.alloc (.map #[] 0)).alloc (.cells #[.map (some w.heap.size), .int .i64 0] 65))) := ((Below.refl _ w).alloc (Nat.le_refl _) _).alloc (by simp) _
  go_enter Try.func10, Try.ntmps10
  go_wp2
  go_ret
  exact ⟨rfl, HP.out, HB.out, by simp⟩
theorem smany_any {w : World} {sb mb n : Nat} {D : Dat} {last : Int} (h : StP w sb mb n D last) : Calls Try.prog 17 #[sptr sb] w fun e w' => e = .returned (.int .i64 (Maps.size D)) ∧ w = w' := by
  have c0 := h.c0
  have hown := vl h.own
  clear h
  unfold sptr
  go_enter Try.func17, Try.ntmps17
  go_wp2_with (first | (at_len; refine wpList_len_own _ rfl _ 63 rfl 3 3 Try.underlying63 _ mb n D rfl hown.out ?_) | go_in)
  go_ret
  exact ⟨rfl, rfl⟩
theorem slast_any {w : World} {sb mb n : Nat} {D : Dat} {last : Int} (h : StP w sb mb n D last) : Calls Try.prog 19 #[sptr sb] w fun e w' => e = .returned (.int .i64 last) ∧ w = w' := by
  have c1 := h.c1
  clear h
  unfold sptr
  go_enter Try.func19, Try.ntmps19
  go_wp2
  go_ret
  exact ⟨rfl, rfl⟩
theorem odd_any (id : Int) (w : World) : Calls Try.prog 27 #[.int .i64 id] w fun e w' => e = .returned (.bool (id.tmod 2 != 0)) ∧ w = w' := by
  go_enter Try.func27, Try.ntmps27
  go_wp2
  go_ret
  exact ⟨rfl, rfl⟩
/-- The state of one. -/
def stF (D : Dat) (last id : Int) : Int := if id < 1 then 0 else if last < id then 0 else if id.tmod 2 = 0 then 0 else if hasI D id = true then atI D id else 4
set_option maxHeartbeats 1000000 in
theorem sstate_any {w : World} {sb mb n : Nat} {D : Dat} {last : Int} (h : StP w sb mb n D last) (id : Int) (hw : WfI id) :
    Calls Try.prog 15 #[sptr sb, .int .i64 id] w fun e w' => e = .returned (.int .i64 (stF D last id)) ∧ w = w' := by
  have c0 := h.c0
  have c1 := h.c1
  have hown := vl h.own
  have hkey := vl (keyOf_int_mk Try.underlying3 (show (Lit.int .i64 id).wf = true from hw))
  clear h
  unfold sptr
  unfold stF
  by_cases h1 : id < 1
  · rw [if_pos h1]
    go_enter Try.func15, Try.ntmps15
    go_wp2
    go_ret
    exact ⟨rfl, rfl⟩
  rw [if_neg h1]
  have h1' : 1 ≤ id := by omega
  by_cases h2 : last < id
  · rw [if_pos h2]
    go_enter Try.func15, Try.ntmps15
    go_wp2
    go_ret
    exact ⟨rfl, rfl⟩
  rw [if_neg h2]
  have h2' : id ≤ last := by omega
  have HO := vl (odd_any id w)
  by_cases h3 : id.tmod 2 = 0
  · rw [if_pos h3]
    rw [show (id.tmod 2 != 0) = false by simp [h3]] at HO
    clear h3
    go_enter Try.func15, Try.ntmps15
    go_wp2_with fail
    refine HO.out.mono ?_
    rintro r w' ⟨rfl, rfl⟩
    go_wp2
    go_ret
    exact ⟨rfl, rfl⟩
  rw [if_neg h3]
  rw [show (id.tmod 2 != 0) = true by simp [h3]] at HO
  clear h3
  unfold hasI atI
  obtain ⟨b, hb⟩ : ∃ b, Maps.has D (.int .i64 id) = b := ⟨_, rfl⟩
  rw [hb]
  have HBB := vl hb
  clear hb
  cases b with
  | true =>
    rw [if_pos rfl]
    go_enter Try.func15, Try.ntmps15
    go_wp2_with fail
    refine HO.out.mono ?_
    rintro r w' ⟨rfl, rfl⟩
    go_wp2_with (first | (at_lookup; refine wpList_lookup_own_ok_int _ rfl _ _ 63 rfl 3 3 .i64 klaw Try.underlying63 Try.underlying3 (kzero _) mb n D rfl hown.out _ _ rfl hkey.out ?_; intro c hat hwc; rw [HBB.out]; have HAT := vl hat; clear hat hwc) | go_in)
    go_ret
    exact ⟨by rw [HAT.out]; rfl, rfl⟩
  | false =>
    rw [if_neg (by simp)]
    go_enter Try.func15, Try.ntmps15
    go_wp2_with fail
    refine HO.out.mono ?_
    rintro r w' ⟨rfl, rfl⟩
    go_wp2_with (first | (at_lookup; refine wpList_lookup_own_ok_int _ rfl _ _ 63 rfl 3 3 .i64 klaw Try.underlying63 Try.underlying3 (kzero _) mb n D rfl hown.out _ _ rfl hkey.out ?_; intro c hat hwc; rw [HBB.out]; clear hat hwc) | go_in)
    go_ret
    exact ⟨rfl, rfl⟩
end Go.Proofs.Ythphblmoeomeoad
