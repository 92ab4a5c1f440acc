/-
  FROM THE ONE TO THE OTHER: the document's FieldsAsk: the fields behind those that begin with ':'. No claim by itself.
-/
import Derived.Test.YtglmppadhlkkgagGreatDoorRak1X
namespace Go.Proofs.YtglmppadhlkkgagGreatDoor
open Go Go.RowKit
set_option maxRecDepth 100000
theorem rdigw_any : ∀ (n : Nat) (w : World), n ≤ 4194304 → Calls Tryz.prog 46 #[.int .i64 n] w fun e w' => e = .returned (.string (strOfNums (decL n))) ∧ w = w' := by
  intro n
  induction n using Nat.strongRecOn with
  | _ n ih =>
    intro w hn
    by_cases h : n < 10
    · rw [decL_one h]
      have h1 : (n : Int) < 10 := by omega
      go_enter Tryz.func46, Tryz.ntmps46
      go_wp2
      go_ret
      refine ⟨?_, rfl⟩
      have := ext_ten h
      unfold tensS at this
      show Ending.returned (Value.string _) = _
      rw [this]
    · have h1 : ¬ ((n : Int) < 10) := by omega
      have hd : n % 10 < 10 := by omega
      have HC := vl (ih (n / 10) (by omega) w (by omega))
      have HE := vl (ext_ten hd)
      have HX := vl (decL_more h)
      clear ih
      have hS : (strOfNums (decL (n / 10))).size ≤ 4194305 := by rw [strOfNums_size]; have := decL_le (n / 10); omega
      obtain ⟨S, hSe⟩ : ∃ S, strOfNums (decL (n / 10)) = S := ⟨_, rfl⟩
      rw [hSe] at hS HC
      have HS := vl hSe
      clear hSe
      go_enter Tryz.func46, Tryz.ntmps46
      go_wp2_with fail
      refine HC.out.mono ?_
      rintro r w' ⟨rfl, rfl⟩
      go_wp2
      go_ret
      refine ⟨?_, rfl⟩
      have e1 := HE.out
      unfold tensS at e1
      show Ending.returned (Value.string (_ ++ _)) = _
      rw [e1, ← HS.out, str_app, HX.out]
def ckO (ck : Int) : Option Nat := if ck < 0 then none else some ck.toNat
/-- The walk over the other fields, as far as it went. -/
def RsI (N : Nat) (RL : List (ByteArray × ByteArray)) (m : Nat) (ck : Int) (FL : List (ByteArray × ByteArray)) : Prop :=
  rstF N (fdsOf RL) [] none = rstF N (fdsOf (RL.drop m)) (fdsOf FL) (ckO ck) ∧ (ck = -1 ∨ (0 ≤ ck ∧ ck < (FL.length : Int)))
theorem rsI_begin (N : Nat) (RL : List (ByteArray × ByteArray)) : RsI N RL 0 (-1) [] := ⟨rfl, Or.inl rfl⟩
theorem fds_set (FL : List (ByteArray × ByteArray)) (k : Nat) (p : ByteArray × ByteArray) : fdsOf (FL.set k p) = (fdsOf FL).set k (unums p.1, unums p.2) := by
  unfold fdsOf
  rw [List.map_set]
theorem set_modify {l : List Fd} {k : Nat} {x : Fd} (f : Fd → Fd) (h : l[k]? = some x) : l.modify k f = l.set k (f x) := by
  apply List.ext_getElem?
  intro i
  rw [List.getElem?_modify, List.getElem?_set]
  by_cases e : k = i
  · subst e
    have hl : k < l.length := by
      rcases Nat.lt_or_ge k l.length with h1 | h1
      · exact h1
      · rw [List.getElem?_eq_none h1] at h; cases h
    have hx : l[k] = x := by rw [List.getElem?_eq_getElem hl] at h; exact Option.some.inj h
    simp [hl, hx]
  · simp [e]
section
variable {N : Nat} {RL : List (ByteArray × ByteArray)} {m : Nat} {ck : Int} {FL : List (ByteArray × ByteArray)} (h : RsI N RL m ck FL) (hm : m < RL.length) {n v : ByteArray} (hn : n = (RL.getD m fnone).1) (hv : v = (RL.getD m fnone).2)
include h hm hn hv
omit hv in
theorem RsI.bad (hx : btwL (unums n) = true ∨ unums n = hostN) : rstF N (fdsOf RL) [] none = none := by
  subst hn
  rw [h.1, fds_at hm, rstF.eq_def]
  show (if btwL _ = true ∨ _ = hostN then none else _) = _
  rw [if_pos hx]
theorem RsI.len_no (h0 : ¬ (btwL (unums n) = true ∨ unums n = hostN)) (h1 : unums n = lengthN) (h2 : unums v ≠ decL N) : rstF N (fdsOf RL) [] none = none := by
  subst hn hv
  rw [h.1, fds_at hm, rstF.eq_def]
  show (if btwL _ = true ∨ _ = hostN then none else _) = _
  rw [if_neg h0, if_pos h1, if_neg h2]
theorem RsI.len_yes (h0 : ¬ (btwL (unums n) = true ∨ unums n = hostN)) (h1 : unums n = lengthN) (h2 : unums v = decL N) : RsI N RL (m + 1) ck FL := by
  subst hn hv
  refine ⟨?_, h.2⟩
  rw [h.1, fds_at hm, rstF.eq_def]
  show (if btwL _ = true ∨ _ = hostN then none else _) = _
  rw [if_neg h0, if_pos h1, if_pos h2]
theorem RsI.more (h0 : ¬ (btwL (unums n) = true ∨ unums n = hostN)) (h1 : unums n ≠ lengthN) (h2 : unums n = cookieN) (h3 : 0 ≤ ck) : RsI N RL (m + 1) ck (FL.set ck.toNat ((FL.getD ck.toNat fnone).1, (FL.getD ck.toNat fnone).2 ++ ⟨#[59, 32]⟩ ++ v)) := by
  subst hn hv
  have hc : ckO ck = some ck.toNat := by unfold ckO; rw [if_neg (by omega)]
  have hl : ck.toNat < FL.length := by rcases h.2 with e | e <;> omega
  refine ⟨?_, Or.inr ⟨h3, by rw [List.length_set]; omega⟩⟩
  have hg : (fdsOf FL)[ck.toNat]? = some (unums (FL.getD ck.toNat fnone).1, unums (FL.getD ck.toNat fnone).2) := by
    unfold fdsOf
    rw [List.getElem?_map, List.getElem?_eq_getElem hl]
    simp [List.getD, List.getElem?_eq_getElem hl]
  rw [h.1, fds_at hm, hc, rstF, if_neg h0, if_neg h1, if_pos h2]
  show rstF N _ ((fdsOf FL).modify ck.toNat _) _ = _
  rw [set_modify _ hg, fds_set]
  congr 2
  simp only [unums_app]
  rw [List.append_assoc]
  rfl
theorem RsI.first (h0 : ¬ (btwL (unums n) = true ∨ unums n = hostN)) (h1 : unums n ≠ lengthN) (h2 : unums n = cookieN) (h3 : ck < 0) : RsI N RL (m + 1) (FL.length : Int) (FL ++ [(n, v)]) := by
  subst hn hv
  have hc : ckO ck = none := by unfold ckO; rw [if_pos h3]
  refine ⟨?_, Or.inr ⟨by omega, by simp; omega⟩⟩
  rw [h.1, fds_at hm, hc, rstF, if_neg h0, if_neg h1, if_pos h2]
  show rstF N _ (fdsOf FL ++ [_]) (some (fdsOf FL).length) = _
  rw [fds_app, fds_len]
  have : ckO (FL.length : Int) = some FL.length := by unfold ckO; rw [if_neg (by omega)]; simp
  rw [this]
  rfl
theorem RsI.other (h0 : ¬ (btwL (unums n) = true ∨ unums n = hostN)) (h1 : unums n ≠ lengthN) (h2 : unums n ≠ cookieN) : RsI N RL (m + 1) ck (FL ++ [(n, v)]) := by
  subst hn hv
  refine ⟨?_, by rcases h.2 with e | e; exact Or.inl e; exact Or.inr ⟨e.1, by rw [List.length_append]; simp; omega⟩⟩
  rw [h.1, fds_at hm]
  rw [rstF.eq_def]
  show (if btwL _ = true ∨ _ = hostN then none else _) = _
  rw [if_neg h0, if_neg h1, if_neg h2, fds_app]
  rfl
end
theorem RsI.last {N : Nat} {RL : List (ByteArray × ByteArray)} {m : Nat} {ck : Int} {FL : List (ByteArray × ByteArray)} (h : RsI N RL m ck FL) (hm : RL.length ≤ m) : rstF N (fdsOf RL) [] none = some (fdsOf FL) := by
  rw [h.1, List.drop_eq_nil_of_le hm]
  show rstF N [] _ _ = _
  rw [rstF]
theorem fcells_set : ∀ (FL : List (ByteArray × ByteArray)) (k : Nat) (X : ByteArray), k < FL.length → (fcells FL).set (2 * k + 1) (.string X) = fcells (FL.set k ((FL.getD k fnone).1, X))
  | [], k, X, h => by simp at h
  | f :: l, 0, X, _ => rfl
  | f :: l, k + 1, X, h => by
    have ih := fcells_set l k X (by simp at h; omega)
    have e1 : fcells (f :: l) = .string f.1 :: .string f.2 :: fcells l := rfl
    rw [e1, show 2 * (k + 1) + 1 = (2 * k + 1) + 1 + 1 by omega, List.set_cons_succ, List.set_cons_succ, ih]
    rfl
/-- One value of a row, turned. -/
theorem fown_val {w : World} {base g n c : Nat} {FL : List (ByteArray × ByteArray)} (h : FOwn w base (.slice (some ⟨g, 0, none⟩) n c) FL) (k : Nat) (hk : k < FL.length) (X : ByteArray) : FOwn (w.setCell ⟨g, 2 * k + 1, none⟩ (.string X)) base (.slice (some ⟨g, 0, none⟩) n c) (FL.set k ((FL.getD k fnone).1, X)) := by
  obtain ⟨h1, ⟨hv, _⟩ | ⟨g', cap, cur, hv, hb, hc, hn, hm, hs, ht⟩⟩ := id h
  · cases hv
  · injection hv with e1 e2 e3
    injection e1 with e1
    injection e1 with e1
    subst e1 e3
    refine ⟨?_, Or.inr ⟨g, c, cur.set! (2 * k + 1) (.string X), by rw [List.length_set]; exact congrArg (fun z => Value.slice (some ⟨g, 0, none⟩) z c) e2, hb, ?_, by rw [List.length_set]; exact hn, hm, by rw [Array.size_set!]; exact hs, ?_⟩⟩
    · rw [← fcells_set FL k X hk, List.length_set, List.length_set]; exact h1
    · unfold World.setCell
      rw [Array.getElem?_modify]
      simp [hc]
    · rw [List.length_set, ← fcells_set FL k X hk, ← ht]
      apply List.ext_getElem?
      intro i
      simp only [List.getElem?_take, List.getElem?_set, Array.set!_eq_setIfInBounds, Array.toList_setIfInBounds]
      have hl : 2 * k + 1 < cur.size := by rw [hs]; omega
      by_cases e : i < FL.length * 2
      · by_cases e2 : 2 * k + 1 = i
        · subst e2; simp [e, hl]; omega
        · simp [e, e2]
      · have : 2 * k + 1 ≠ i := by omega
        simp [e, this]
theorem RB.set3 {w : World} {x : Nat} {m p h : ByteArray} {fv bv : Value} (k : RB w x m p h fv bv) (fv' : Value) : RB (w.setCell ⟨x, 3, none⟩ fv') x m p h fv' bv := by
  unfold RB at *
  unfold World.setCell
  rw [Array.getElem?_modify]
  simp [k]
/-- What FieldsAsk has in memory while it goes over the others. -/
structure L3 (w wX wr : World) (ba : Option Addr) (bn bc : Nat) (tm tp th : ByteArray) (RL : List (ByteArray × ByteArray)) (m : Nat) (ck : Int) (fv : Value) (FL : List (ByteArray × ByteArray)) : Prop where
  tn : Tn (fun k => k = w.heap.size + 1) wX wr
  rb : RB wr (w.heap.size + 1) tm tp th fv (.slice ba bn bc)
  own : FOwn wr wX.heap.size fv FL
  rs : RsI bn RL m ck FL
  many : FL.length ≤ m
  szs : ∀ p ∈ FL, p.1.size ≤ 140737488351232 ∧ p.2.size ≤ 1048578 * m
section
variable {w wX wr wx : World} {ba : Option Addr} {bn bc : Nat} {tm tp th : ByteArray} {RL : List (ByteArray × ByteArray)} {m : Nat} {ck : Int} {fv : Value} {FL : List (ByteArray × ByteArray)} (h : L3 w wX wr ba bn bc tm tp th RL m ck fv FL)
include h
theorem L3.old (hX : Below w.heap.size w wX) : Below w.heap.size w wr := Tn.below hX h.tn hX.size (fun i e => by subst e; omega)
theorem L3.zb {a b c : ByteArray} {x y : Value} (hX : RB wX w.heap.size a b c x y) : RB wr w.heap.size a b c x y := (h.tn.block _ hX.lt (by omega)).trans hX
theorem L3.rest {rv : Value} (hX : FOwn wX (w.heap.size + 4) rv RL) : FOwn wr (w.heap.size + 4) rv RL := fown_tn hX (fun k e => by subst e; omega) h.tn
theorem L3.below (hb : Below wr.heap.size wr wx) : L3 w wX wx ba bn bc tm tp th RL m ck fv FL :=
  ⟨⟨hb.os.trans h.tn.os, hb.tape.trans h.tn.tape, hb.output.trans h.tn.output, Nat.le_trans h.tn.size hb.size, fun k h1 h2 => (hb.block k (Nat.lt_of_lt_of_le h1 h.tn.size)).trans (h.tn.block k h1 h2)⟩, h.rb.on hb, fown_below h.own hb, h.rs, h.many, h.szs⟩
theorem L3.same {m' : Nat} {ck' : Int} (hm : m ≤ m') (hr : RsI bn RL m' ck' FL) : L3 w wX wr ba bn bc tm tp th RL m' ck' fv FL :=
  ⟨h.tn, h.rb, h.own, hr, Nat.le_trans h.many hm, fun p hp => ⟨(h.szs p hp).1, Nat.le_trans (h.szs p hp).2 (Nat.mul_le_mul_left _ hm)⟩⟩
theorem L3.app {ck' : Int} {n v : ByteArray} {g c : Nat} (hlt : w.heap.size + 1 < wX.heap.size) (hn : n.size ≤ 140737488351232) (hv : v.size ≤ 1048576) (ho : FOwn wx wX.heap.size (.slice (some ⟨g, 0, none⟩) (FL.length + 1) c) (FL ++ [(n, v)])) (hg : (wr.alloc (.cells #[.string n, .string v] 51)).grownBy wx fv.ownBlock) (hr : RsI bn RL (m + 1) ck' (FL ++ [(n, v)])) :
    RB wx (w.heap.size + 1) tm tp th fv (.slice ba bn bc) ∧ L3 w wX (wx.setCell ⟨w.heap.size + 1, 3, none⟩ (.slice (some ⟨g, 0, none⟩) (FL.length + 1) c)) ba bn bc tm tp th RL (m + 1) ck' (.slice (some ⟨g, 0, none⟩) (FL.length + 1) c) (FL ++ [(n, v)]) := by
  have hA := h.below ((Below.refl wr.heap.size wr).alloc (Nat.le_refl _) (.cells #[.string n, .string v] 51))
  have hrb : RB wx (w.heap.size + 1) tm tp th fv (.slice ba bn bc) := (hg.block _ hA.rb.lt (fun e => by have := (hA.own.lt _ e.symm).1; omega)).trans hA.rb
  refine ⟨hrb, ⟨?_, hrb.set3 _, fown_set ho hlt, hr, by rw [List.length_append]; have := h.many; simp; omega, fun p hp => ?_⟩⟩
  · have hb : ∀ k, k < wX.heap.size → ¬ k = w.heap.size + 1 → (wx.setCell ⟨w.heap.size + 1, 3, none⟩ (.slice (some ⟨g, 0, none⟩) (FL.length + 1) c)).heap[k]? = wX.heap[k]? := fun k h1 h2 => by
      have e1 : (wx.setCell ⟨w.heap.size + 1, 3, none⟩ (.slice (some ⟨g, 0, none⟩) (FL.length + 1) c)).heap[k]? = wx.heap[k]? := Below.heap_setCell _ _ _ _ (fun e => h2 e)
      have e2 : wx.heap[k]? = _ := hg.block k (Nat.lt_of_lt_of_le h1 hA.tn.size) (fun e => by have := (hA.own.lt _ e.symm).1; omega)
      exact e1.trans (e2.trans (hA.tn.block k h1 h2))
    have hsz : (wx.setCell ⟨w.heap.size + 1, 3, none⟩ (.slice (some ⟨g, 0, none⟩) (FL.length + 1) c)).heap.size = wx.heap.size := by unfold World.setCell; simp
    exact ⟨hg.os.trans hA.tn.os, hg.tape.trans hA.tn.tape, hg.output.trans hA.tn.output, by rw [hsz]; exact Nat.le_trans hA.tn.size hg.size, hb⟩
  · rcases List.mem_append.1 hp with hp | hp
    · exact ⟨(h.szs p hp).1, Nat.le_trans (h.szs p hp).2 (Nat.mul_le_mul_left _ (Nat.le_succ m))⟩
    · rw [List.mem_singleton.1 hp]
      exact ⟨hn, by show v.size ≤ _; have : 1048578 * 1 ≤ 1048578 * (m + 1) := Nat.mul_le_mul_left _ (by omega); omega⟩
theorem L3.more {v : ByteArray} {g c k : Nat} (hv : v.size ≤ 1048576) (hf : fv = .slice (some ⟨g, 0, none⟩) FL.length c) (hk : k < FL.length) (hr : RsI bn RL (m + 1) (k : Int) (FL.set k ((FL.getD k fnone).1, (FL.getD k fnone).2 ++ ⟨#[59, 32]⟩ ++ v))) :
    L3 w wX (wr.setCell ⟨g, 2 * k + 1, none⟩ (.string ((FL.getD k fnone).2 ++ ⟨#[59, 32]⟩ ++ v))).drew ba bn bc tm tp th RL (m + 1) (k : Int) fv (FL.set k ((FL.getD k fnone).1, (FL.getD k fnone).2 ++ ⟨#[59, 32]⟩ ++ v)) := by
  subst hf
  have hge := h.own.lt g rfl
  have hlt := h.rb.lt
  have hXl : w.heap.size + 1 < wX.heap.size ∨ wX.heap.size ≤ w.heap.size + 1 := by omega
  have hne : g ≠ w.heap.size + 1 := fun e => by
    subst e
    have hb : wr.heap[w.heap.size + 1]? = some (.cells #[.string tm, .string tp, .string th, .slice (some ⟨w.heap.size + 1, 0, none⟩) FL.length c, .slice ba bn bc] 25 (0, 0)) := h.rb
    obtain ⟨_, ⟨hv, _⟩ | ⟨g', cap, cur, hv, _, hc, _, _, hs, ht⟩⟩ := id h.own
    · cases hv
    · injection hv with e1
      injection e1 with e1
      injection e1 with e1
      rw [← e1, hb] at hc
      injection hc with hc
      injection hc with _ hc
      exact absurd hc (by decide)
  refine ⟨?_, ?_, fown_val h.own k hk _, hr, by rw [List.length_set]; have := h.many; omega, fun p hp => ?_⟩
  · refine ⟨h.tn.os, h.tn.tape, h.tn.output, ?_, fun i h1 h2 => ?_⟩
    · show wX.heap.size ≤ (wr.setCell _ _).heap.size
      unfold World.setCell
      simp
      exact h.tn.size
    · exact (Below.heap_setCell _ _ _ _ (fun e => by have e' : i = g := e; omega)).trans (h.tn.block i h1 h2)
  · exact (Below.heap_setCell _ _ _ _ (fun e => hne e.symm)).trans h.rb
  · have hb0 : 1048578 * (m + 1) = 1048578 * m + 1048578 := by omega
    rcases List.mem_or_eq_of_mem_set hp with hp | hp
    · exact ⟨(h.szs p hp).1, by have := (h.szs p hp).2; omega⟩
    · rw [hp]
      have hmem : FL.getD k fnone ∈ FL := by rw [List.getD, List.getElem?_eq_getElem hk]; exact List.getElem_mem _
      have h1 := h.szs _ hmem
      refine ⟨h1.1, ?_⟩
      show ((FL.getD k fnone).2 ++ ⟨#[59, 32]⟩ ++ v).size ≤ _
      rw [ByteArray.size_append, ByteArray.size_append]
      have h2 : (⟨#[59, 32]⟩ : ByteArray).size = 2 := rfl
      omega
end
end Go.Proofs.YtglmppadhlkkgagGreatDoor
