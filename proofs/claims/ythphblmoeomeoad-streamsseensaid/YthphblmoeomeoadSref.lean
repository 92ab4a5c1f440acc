/-
  STREAMS THAT WERE SEEN, as the document's answer keeps them: what they are in memory; what only reads. No claim by itself.
-/
import Derived.Test.YthphblmoeomeoadSdev
import Derived.Maps.AppendAt
import Derived.Deep.AppendLies
import Derived.Laws.OwnMore
namespace Go.Proofs.Ythphblmoeomeoad
open Go.RowKit
set_option maxRecDepth 100000
abbrev SL := List (Int × Int)
/-- The state of one, in a list of numbers and states. -/
def stL : SL → Int → Int
  | [], _ => 4
  | p :: r, id => if p.1 = id then p.2 else stL r id
def putL : SL → Int → Int → SL
  | [], id, s => [(id, s)]
  | p :: r, id, s => if p.1 = id then (id, s) :: r else p :: putL r id s
def cntL : SL → Nat
  | [] => 0
  | p :: r => (if 1 ≤ p.2 ∧ p.2 ≤ 3 then 1 else 0) + cntL r
theorem cntL_cons (p : Int × Int) (r : SL) : cntL (p :: r) = (if 1 ≤ p.2 ∧ p.2 ≤ 3 then 1 else 0) + cntL r := rfl
theorem stL_cons (p : Int × Int) (r : SL) (id : Int) : stL (p :: r) id = if p.1 = id then p.2 else stL r id := rfl
theorem cntL_le : ∀ L : SL, cntL L ≤ L.length
  | [] => Nat.le_refl _
  | p :: r => by have := cntL_le r; unfold cntL; split <;> simp <;> omega
theorem putL_len : ∀ (L : SL) (id s : Int), (putL L id s).length ≤ L.length + 1
  | [], _, _ => by simp [putL]
  | p :: r, id, s => by have := putL_len r id s; unfold putL; split <;> simp <;> omega
def stR (L : SL) (last id : Int) : Int := if id < 1 then 0 else if id.tmod 2 ≠ 1 then 0 else if last < id then 0 else stL L id
def putR (L : SL) (last id s : Int) : SL := if id < 1 ∨ id.tmod 2 ≠ 1 ∨ last < id ∨ s < 1 ∨ 4 < s then L else putL L id s
theorem tmodp {x : Int} (h0 : 1 ≤ x) : x.tmod 2 = x % 2 := Int.tmod_eq_emod_of_nonneg (by omega)
def nth (L : SL) (k : Nat) : Int × Int := L.getD k (0, 0)
theorem drop_nth (L : SL) (k : Nat) (h : k < L.length) : L.drop k = nth L k :: L.drop (k + 1) := by
  rw [List.drop_eq_getElem_cons h]
  simp [nth, List.getD, List.getElem?_eq_getElem h]
structure RsP (w : World) (rb : Nat) (vI vS : Value) (L : SL) (last : Int) : Prop where
  c0 : w.cell? ⟨rb, 0, none⟩ = some vI
  c1 : w.cell? ⟨rb, 1, none⟩ = some vS
  c2 : w.cell? ⟨rb, 2, none⟩ = some (.int .i64 last)
  f0 : w.frozen? ⟨rb, 0, none⟩ = false
  f1 : w.frozen? ⟨rb, 1, none⟩ = false
  f2 : w.frozen? ⟨rb, 2, none⟩ = false
  oI : w.ownsRow (rb + 1) 3 1 vI L.length (L.map fun p => .int .i64 p.1)
  oS : w.ownsRow (rb + 1) 3 1 vS L.length (L.map fun p => .int .i64 p.2)
  ne : ∀ k, vI.ownBlock = some k → vS.ownBlock ≠ some k
theorem row_kept {w w' : World} {base n : Nat} {v : Value} {xs : List Value} (h : w.ownsRow base 3 1 v n xs) (hk : ∀ k, v.ownBlock = some k → w'.heap[k]? = w.heap[k]?) : w'.ownsRow base 3 1 v n xs := by
  obtain ⟨h1, h2 | ⟨g, cap, cur, hv, hg, hc, r⟩⟩ := h
  · exact ⟨h1, Or.inl h2⟩
  · exact ⟨h1, Or.inr ⟨g, cap, cur, hv, hg, (hk g (by rw [hv]; rfl)).trans hc, r⟩⟩
theorem RsP.kept {w w' : World} {rb : Nat} {vI vS : Value} {L : SL} {last : Int} (h : RsP w rb vI vS L last) (e : ∀ k, rb ≤ k → k < w.heap.size → w'.heap[k]? = w.heap[k]?) : RsP w' rb vI vS L last := by
  have e0 := e rb (Nat.le_refl _) (blk_of_cell h.c0)
  exact ⟨(World.cell?_of_block (a := ⟨rb, 0, none⟩) e0).trans h.c0, (World.cell?_of_block (a := ⟨rb, 1, none⟩) e0).trans h.c1, (World.cell?_of_block (a := ⟨rb, 2, none⟩) e0).trans h.c2,
    (World.frozen?_of_block (a := ⟨rb, 0, none⟩) e0).trans h.f0, (World.frozen?_of_block (a := ⟨rb, 1, none⟩) e0).trans h.f1, (World.frozen?_of_block (a := ⟨rb, 2, none⟩) e0).trans h.f2,
    row_kept h.oI (fun k hk => by have := h.oI.lt k hk; exact e k (by omega) this.2), row_kept h.oS (fun k hk => by have := h.oS.lt k hk; exact e k (by omega) this.2), h.ne⟩
/-- What a row that is owned looks like. -/
theorem own_shape {w : World} {base n : Nat} {v : Value} {f : Int × Int → Int} {L : SL} (hn : L.length = n) (h : w.ownsRow base 3 1 v n (L.map fun p => .int .i64 (f p))) :
    ∃ a c, v = .slice a n c ∧ n ≤ c ∧ c ≤ maxLen ∧ ∀ t, t < n → ∃ g, a = some ⟨g, 0, none⟩ ∧ w.cell? ⟨g, t, none⟩ = some (.int .i64 (f (nth L t))) ∧ w.frozen? ⟨g, t, none⟩ = false := by
  have h0 := h
  obtain ⟨h1, ⟨hv, h2⟩ | ⟨g, cap, cur, hv, hg, hc, h3, h4, r⟩⟩ := h
  · exact ⟨none, 0, by rw [hv, h2], by omega, by decide, fun t ht => by omega⟩
  · refine ⟨_, cap, hv, h3, h4, fun t ht => ⟨g, rfl, ?_, ?_⟩⟩
    · rw [hv] at h0
      rw [h0.cellAt t (by omega)]
      simp [nth, List.getD, List.getElem?_eq_getElem (show t < L.length by omega)]
    · rw [hv] at h0
      exact h0.frozenAt t
set_option maxHeartbeats 1000000 in
theorem rsmany_any {w : World} {rb : Nat} {vI vS : Value} {L : SL} {last : Int} (h : RsP w rb vI vS L last) (hL : L.length ≤ 1000) :
    Calls Try.prog 18 #[sptr rb] w fun e w' => e = .returned (.int .i64 (cntL L)) ∧ w = w' := by
  obtain ⟨a, c, rfl, hc1, hc2, hcell⟩ := own_shape rfl h.oS
  have c1 := h.c1
  have HC := vl hcell
  clear h hcell
  unfold sptr
  go_enter Try.func18, Try.ntmps18
  go_wp2
  go_loopw [3, 4] (fun x i wr => ∃ k m : Nat, i = .int .i64 k ∧ x = .int .i64 m ∧ k ≤ L.length ∧ m ≤ k ∧ Vl (cntL L = m + cntL (L.drop k)) ∧ w = wr) (fun _ i _ => L.length - (intOf i).toNat)
  case atStart => exact ⟨0, 0, rfl, rfl, by omega, by omega, by show _ = _; simp, rfl⟩
  case round =>
    obtain ⟨k, m, rfl, rfl, hk, hm, HR, rfl⟩ := hrel
    by_cases hlt : k < L.length
    · have p1 : (k : Int) < (L.length : Int) := by omega
      obtain ⟨g, rfl, hcl, _⟩ := HC.out k hlt
      have HD := vl (drop_nth L k hlt)
      generalize nth L k = p at *
      obtain ⟨pi, ps⟩ := p
      dsimp only at hcl
      by_cases h1 : 1 ≤ ps
      · by_cases h2 : ps ≤ 3
        · go_wp2
          go_roundw
          case rel => exact ⟨k + 1, m + 1, by go_num, by go_num, by omega, by omega, by show _ = _; rw [HR.out, HD.out, cntL_cons, if_pos ⟨h1, h2⟩]; omega, trivial⟩
          case measure => simp [intOf]; omega
        · have h2' : 3 < ps := by omega
          go_wp2
          go_roundw
          case rel => exact ⟨k + 1, m, by go_num, by go_num, by omega, by omega, by show _ = _; rw [HR.out, HD.out, cntL_cons, if_neg (by simp; omega)]; omega, trivial⟩
          case measure => simp [intOf]; omega
      · have h1' : ps < 1 := by omega
        go_wp2
        go_roundw
        case rel => exact ⟨k + 1, m, by go_num, by go_num, by omega, by omega, by show _ = _; rw [HR.out, HD.out, cntL_cons, if_neg (by simp; omega)]; omega, trivial⟩
        case measure => simp [intOf]; omega
    · have p1 : ¬ ((k : Int) < (L.length : Int)) := by omega
      have hkl : k = L.length := by omega
      go_wp2
      go_ret
      refine ⟨?_, rfl⟩
      rw [HR.out, hkl, List.drop_length]
      rfl
set_option maxHeartbeats 1000000 in
theorem rsstate_any {w : World} {rb : Nat} {vI vS : Value} {L : SL} {last : Int} (h : RsP w rb vI vS L last) (hL : L.length ≤ 1000) (id : Int) :
    Calls Try.prog 16 #[sptr rb, .int .i64 id] w fun e w' => e = .returned (.int .i64 (stR L last id)) ∧ w = w' := by
  obtain ⟨a, c, rfl, hc1, hc2, hcell⟩ := own_shape rfl h.oI
  obtain ⟨b, d, rfl, hd1, hd2, hcelb⟩ := own_shape rfl h.oS
  have c0 := h.c0
  have c1 := h.c1
  have c2 := h.c2
  have HC := vl hcell
  have HD := vl hcelb
  clear h hcell hcelb
  unfold sptr stR
  by_cases h1 : id < 1
  · rw [if_pos h1]
    go_enter Try.func16, Try.ntmps16
    go_wp2
    go_ret
    exact ⟨rfl, rfl⟩
  rw [if_neg h1]
  have h1' : 1 ≤ id := by omega
  rw [tmodp h1']
  obtain ⟨o, ho⟩ : ∃ o, (id % 2 != 1) = o := ⟨_, rfl⟩
  cases o with
  | true =>
    rw [if_pos (by simpa using ho)]
    go_enter Try.func16, Try.ntmps16
    go_wp2
    go_ret
    exact ⟨rfl, rfl⟩
  | false =>
  rw [if_neg (by simpa using ho)]
  by_cases h2 : last < id
  · rw [if_pos h2]
    go_enter Try.func16, Try.ntmps16
    go_wp2
    go_ret
    exact ⟨rfl, rfl⟩
  rw [if_neg h2]
  have h2' : id ≤ last := by omega
  go_enter Try.func16, Try.ntmps16
  go_wp2
  go_loopw [5] (fun i wr => ∃ k : Nat, i = .int .i64 k ∧ k ≤ L.length ∧ Vl (stL L id = stL (L.drop k) id) ∧ w = wr) (fun i _ => L.length - (intOf i).toNat)
  case atStart => exact ⟨0, rfl, by omega, by show _ = _; simp, rfl⟩
  case round =>
    obtain ⟨k, rfl, hk, HR, rfl⟩ := hrel
    by_cases hlt : k < L.length
    · have p1 : (k : Int) < (L.length : Int) := by omega
      obtain ⟨g, rfl, hcl, _⟩ := HC.out k hlt
      obtain ⟨g', rfl, hcl', _⟩ := HD.out k hlt
      have HN := vl (drop_nth L k hlt)
      generalize nth L k = p at *
      obtain ⟨pi, ps⟩ := p
      dsimp only at hcl hcl'
      by_cases e : pi = id
      · subst e
        go_wp2
        go_ret
        refine ⟨?_, rfl⟩
        rw [HR.out, HN.out, stL_cons, if_pos rfl]
        rfl
      · go_wp2
        go_roundw
        case rel => exact ⟨k + 1, by go_num, by omega, by show _ = _; rw [HR.out, HN.out, stL_cons, if_neg e], trivial⟩
        case measure => simp [intOf]; omega
    · have p1 : ¬ ((k : Int) < (L.length : Int)) := by omega
      have hkl : k = L.length := by omega
      go_wp2
      go_ret
      refine ⟨?_, rfl⟩
      rw [HR.out, hkl, List.drop_length]
      rfl
end Go.Proofs.Ythphblmoeomeoad
