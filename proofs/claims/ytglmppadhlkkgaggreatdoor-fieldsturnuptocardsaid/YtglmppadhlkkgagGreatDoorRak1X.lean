/-
  FROM THE ONE TO THE OTHER: the document's FieldsAsk: what it keeps in memory, and what of it is read. No claim by itself.
-/
import Derived.Test.YtglmppadhlkkgagGreatDoorRreX
import Derived.Test.YtglmppadhlkkgagGreatDoorYakdX
namespace Go.Proofs.YtglmppadhlkkgagGreatDoor
open Go Go.RowKit
set_option maxRecDepth 100000
/-- What FieldsAsk answers. -/
def RAskE (L : List (ByteArray × ByteArray)) (B : List Int) (w : World) (e : Ending) (w' : World) : Prop :=
  ∃ q : RqM, e = .returned (.tuple #[q.val, .int .i64 (askW (fdsOf L) B).1]) ∧ RqIn w' q ∧ q.rq = (askW (fdsOf L) B).2 ∧ Below w.heap.size w w'
def rqZ : RqM := ⟨⟨#[]⟩, ⟨#[]⟩, ⟨#[]⟩, none, 0, 0, none, 0, 0, [], []⟩
theorem rqZ_in (w : World) : RqIn w rqZ := ⟨Or.inl ⟨rfl, rfl⟩, Or.inl ⟨rfl, rfl⟩, fun _ => ⟨rfl, rfl⟩, ⟨by unfold rqZ; simp, by unfold rqZ; simp⟩, ⟨by unfold rqZ; decide, by unfold rqZ; decide, by unfold rqZ; decide⟩, fun t => by unfold rqZ; simp [fnone]⟩
theorem rask_bad {L : List (ByteArray × ByteArray)} {B : List Int} {w w' : World} {x : Int} (h : askW (fdsOf L) B = (x, default)) (hb : Below w.heap.size w w') : RAskE L B w (.returned (.tuple #[.agg #[.string ⟨#[]⟩, .string ⟨#[]⟩, .string ⟨#[]⟩, .slice none 0 0, .slice none 0 0], .int .i64 x])) w' := by
  unfold RAskE
  rw [h]
  exact ⟨rqZ, rfl, rqZ_in w', rfl, hb⟩
def optT (s : Bool) (t : ByteArray) : Option (List Int) := if s then some (unums t) else none
/-- The walk over the fields that begin with ':', as far as it went. -/
def PsI (L : List (ByteArray × ByteArray)) (k : Nat) (tm tp th : ByteArray) (sm sp sh : Bool) (RL : List (ByteArray × ByteArray)) : Prop :=
  fdsOf RL = (fdsOf (L.take k)).filter (fun f => !psdL f.1) ∧ psdF (fdsOf L) false none none none = psdF (fdsOf (L.drop k)) (decide (0 < RL.length)) (optT sm tm) (optT sp tp) (optT sh th)
theorem psI_begin (L : List (ByteArray × ByteArray)) (t : ByteArray) : PsI L 0 t t t false false false [] := ⟨rfl, rfl⟩
theorem fds_at {L : List (ByteArray × ByteArray)} {k : Nat} (h : k < L.length) : fdsOf (L.drop k) = (unums (L.getD k fnone).1, unums (L.getD k fnone).2) :: fdsOf (L.drop (k + 1)) := by
  rw [List.drop_eq_getElem_cons h]
  have e : L.getD k fnone = L[k] := by simp [List.getD, List.getElem?_eq_getElem h]
  rw [e]
  rfl
theorem fds_takeS {L : List (ByteArray × ByteArray)} {k : Nat} (h : k < L.length) : fdsOf (L.take (k + 1)) = fdsOf (L.take k) ++ [(unums (L.getD k fnone).1, unums (L.getD k fnone).2)] := by
  have e : L.take (k + 1) = L.take k ++ [L.getD k fnone] := by
    rw [List.take_add_one]
    simp [List.getD, List.getElem?_eq_getElem h]
  rw [e]
  unfold fdsOf
  rw [List.map_append]
  rfl
section
variable {L : List (ByteArray × ByteArray)} {k : Nat} {tm tp th : ByteArray} {sm sp sh : Bool} {RL : List (ByteArray × ByteArray)} (h : PsI L k tm tp th sm sp sh RL) (hk : k < L.length) {n v : ByteArray} (hn : n = (L.getD k fnone).1) (hv : v = (L.getD k fnone).2)
include h hk hn hv
theorem PsI.rest (hp : psdL (unums n) = false) : PsI L (k + 1) tm tp th sm sp sh (RL ++ [(n, v)]) := by
  subst hn hv
  obtain ⟨h1, h2⟩ := h
  refine ⟨?_, ?_⟩
  · rw [fds_app, h1, fds_takeS hk, List.filter_append, List.filter_cons_of_pos (by show (!psdL _) = true; rw [hp]; rfl)]
    rfl
  · rw [h2, fds_at hk, psdF, if_pos hp, show decide (0 < (RL ++ [((L.getD k fnone).1, (L.getD k fnone).2)]).length) = true from decide_eq_true (by simp)]
omit hv in
theorem PsI.none_ (hp : psdL (unums n) = true) (hx : 0 < RL.length ∨ (unums n ≠ methodP ∧ unums n ≠ pathP ∧ unums n ≠ hostP) ∨ (unums n = methodP ∧ sm = true) ∨ (unums n = pathP ∧ sp = true) ∨ (unums n = hostP ∧ sh = true)) : psdF (fdsOf L) false none none none = none := by
  subst hn
  rw [h.2, fds_at hk, psdF, if_neg (by rw [hp]; simp)]
  by_cases hr : 0 < RL.length
  · rw [if_pos (by simpa using hr)]
  · rw [if_neg (by simpa using hr)]
    rcases hx with hx | ⟨a, b, c⟩ | ⟨a, b⟩ | ⟨a, b⟩ | ⟨a, b⟩
    · exact absurd hx hr
    · rw [if_neg a, if_neg b, if_neg c]
    · rw [if_pos a, if_pos (by rw [b]; rfl)]
    · rw [if_neg (fun e => absurd (a.symm.trans e) (by decide)), if_pos a, if_pos (by rw [b]; rfl)]
    · rw [if_neg (fun e => absurd (a.symm.trans e) (by decide)), if_neg (fun e => absurd (a.symm.trans e) (by decide)), if_pos a, if_pos (by rw [b]; rfl)]
theorem PsI.took : psdL (unums n) = true → ¬ 0 < RL.length →
    (unums n = methodP → sm = false → PsI L (k + 1) v tp th true sp sh RL) ∧ (unums n = pathP → sp = false → PsI L (k + 1) tm v th sm true sh RL) ∧ (unums n = hostP → sh = false → PsI L (k + 1) tm tp v sm sp true RL) := by
  intro hp hr
  subst hn hv
  have e1 : fdsOf RL = (fdsOf (L.take (k + 1))).filter (fun f => !psdL f.1) := by
    rw [h.1, fds_takeS hk, List.filter_append, List.filter_cons_of_neg (by show ¬ (!psdL _) = true; rw [hp]; simp)]
    simp
  have hd : decide (0 < RL.length) = false := decide_eq_false hr
  refine ⟨fun a b => ⟨e1, ?_⟩, fun a b => ⟨e1, ?_⟩, fun a b => ⟨e1, ?_⟩⟩
  · rw [h.2, fds_at hk, psdF, if_neg (by rw [hp]; simp), hd, if_neg (by simp), if_pos a, b, if_neg (by simp [optT])]
    rfl
  · rw [h.2, fds_at hk, psdF, if_neg (by rw [hp]; simp), hd, if_neg (by simp), if_neg (fun e => absurd (a.symm.trans e) (by decide)), if_pos a, b, if_neg (by simp [optT])]
    rfl
  · rw [h.2, fds_at hk, psdF, if_neg (by rw [hp]; simp), hd, if_neg (by simp), if_neg (fun e => absurd (a.symm.trans e) (by decide)), if_neg (fun e => absurd (a.symm.trans e) (by decide)), if_pos a, b, if_neg (by simp [optT])]
    rfl
end
theorem askW_none {L : List (ByteArray × ByteArray)} {B : List Int} (h : psdF (fdsOf L) false none none none = none) : askW (fdsOf L) B = (3, default) := by
  unfold askW
  simp only [h]
theorem PsI.last {L : List (ByteArray × ByteArray)} {k : Nat} {tm tp th : ByteArray} {sm sp sh : Bool} {RL : List (ByteArray × ByteArray)} (h : PsI L k tm tp th sm sp sh RL) (hk : L.length ≤ k) : fdsOf RL = (fdsOf L).filter (fun f => !psdL f.1) ∧ psdF (fdsOf L) false none none none = if sm && sp && sh then some (unums tm, unums tp, unums th) else none := by
  obtain ⟨h1, h2⟩ := h
  rw [List.take_of_length_le hk] at h1
  refine ⟨h1, ?_⟩
  rw [h2, List.drop_eq_nil_of_le hk]
  cases sm <;> cases sp <;> cases sh <;> rfl
/-- What FieldsAsk has in memory while it looks at the fields. -/
structure AS (w wr : World) (ba : Option Addr) (bn bc : Nat) (tm tp th : ByteArray) (sm sp sh : Bool) (rv : Value) (RL : List (ByteArray × ByteArray)) : Prop where
  old : Below w.heap.size w wr
  zb : RB wr w.heap.size ⟨#[]⟩ ⟨#[]⟩ ⟨#[]⟩ (.slice none 0 0) (.slice none 0 0)
  rb : RB wr (w.heap.size + 1) tm tp th (.slice none 0 0) (.slice ba bn bc)
  sn : wr.heap[w.heap.size + 2]? = some (.cells #[.bool sm, .bool sp, .bool sh] 90 (0, 0))
  nm : wr.heap[w.heap.size + 3]? = some (.cells #[.string ⟨#[58, 109, 101, 116, 104, 111, 100]⟩, .string ⟨#[58, 112, 97, 116, 104]⟩, .string ⟨#[58, 104, 111, 115, 116]⟩] 9 (0, 0))
  own : FOwn wr (w.heap.size + 4) rv RL
section
variable {w wr wx : World} {ba : Option Addr} {bn bc : Nat} {tm tp th : ByteArray} {sm sp sh : Bool} {rv : Value} {RL : List (ByteArray × ByteArray)} (h : AS w wr ba bn bc tm tp th sm sp sh rv RL)
include h
theorem AS.lt : w.heap.size + 3 < wr.heap.size := (Array.getElem?_eq_some_iff.1 h.nm).1
theorem AS.below (hb : Below wr.heap.size wr wx) : AS w wx ba bn bc tm tp th sm sp sh rv RL := by
  have hl := h.lt
  exact ⟨h.old.trans (hb.mono h.old.size), h.zb.on hb, h.rb.on hb, (hb.block _ (by omega)).trans h.sn, (hb.block _ hl).trans h.nm, fown_below h.own hb⟩
theorem AS.app {rv' : Value} {n v : ByteArray} (ho : FOwn wx (w.heap.size + 4) rv' (RL ++ [(n, v)])) (hg : (wr.alloc (.cells #[.string n, .string v] 51)).grownBy wx rv.ownBlock) : AS w wx ba bn bc tm tp th sm sp sh rv' (RL ++ [(n, v)]) := by
  have hl := h.lt
  have hA := h.below ((Below.refl wr.heap.size wr).alloc (Nat.le_refl _) (.cells #[.string n, .string v] 51))
  have hb : ∀ k, k < w.heap.size + 4 → wx.heap[k]? = (wr.alloc (.cells #[.string n, .string v] 51)).heap[k]? := fun k hk => hg.block k (by rw [World.size_alloc]; omega) (fun e => by have := (hA.own.lt k e.symm).1; omega)
  exact ⟨u_below_grown hA.old hg hA.old.size (fun k hk => by have := (hA.own.lt k hk).1; omega), (hb _ (by omega)).trans hA.zb, (hb _ (by omega)).trans hA.rb, (hb _ (by omega)).trans hA.sn, (hb _ (by omega)).trans hA.nm, ho⟩
theorem AS.seen : (wr.cell? ⟨w.heap.size + 2, 0, none⟩ = some (.bool sm) ∧ wr.cell? ⟨w.heap.size + 2, 1, none⟩ = some (.bool sp) ∧ wr.cell? ⟨w.heap.size + 2, 2, none⟩ = some (.bool sh)) ∧ ∀ i, wr.frozen? ⟨w.heap.size + 2, i, none⟩ = false := by
  have k := h.sn
  refine ⟨⟨?_, ?_, ?_⟩, fun i => ?_⟩
  · simp only [World.cell?, k]; rfl
  · simp only [World.cell?, k]; rfl
  · simp only [World.cell?, k]; rfl
  · unfold World.frozen?
    rw [k]
    simp
theorem AS.names : wr.cell? ⟨w.heap.size + 3, 0, none⟩ = some (.string ⟨#[58, 109, 101, 116, 104, 111, 100]⟩) ∧ wr.cell? ⟨w.heap.size + 3, 1, none⟩ = some (.string ⟨#[58, 112, 97, 116, 104]⟩) ∧ wr.cell? ⟨w.heap.size + 3, 2, none⟩ = some (.string ⟨#[58, 104, 111, 115, 116]⟩) := by
  have k := h.nm
  refine ⟨?_, ?_, ?_⟩
  · simp only [World.cell?, k]; rfl
  · simp only [World.cell?, k]; rfl
  · simp only [World.cell?, k]; rfl
theorem AS.sets (i : Nat) (v : ByteArray) : Below w.heap.size w ((wr.setCell ⟨w.heap.size + 2, i, none⟩ (.bool true)).setCell ⟨w.heap.size + 1, i, none⟩ (.string v)) ∧ ∀ k, k ≠ w.heap.size + 2 → k ≠ w.heap.size + 1 → ((wr.setCell ⟨w.heap.size + 2, i, none⟩ (.bool true)).setCell ⟨w.heap.size + 1, i, none⟩ (.string v)).heap[k]? = wr.heap[k]? := by
  refine ⟨(h.old.setCell (by simp) _).setCell (by simp) _, fun k h1 h2 => ?_⟩
  unfold World.setCell
  rw [Array.getElem?_modify, Array.getElem?_modify]
  rw [if_neg (show ¬ w.heap.size + 1 = k from fun e => h2 e.symm), if_neg (show ¬ w.heap.size + 2 = k from fun e => h1 e.symm)]
end
end Go.Proofs.YtglmppadhlkkgagGreatDoor
