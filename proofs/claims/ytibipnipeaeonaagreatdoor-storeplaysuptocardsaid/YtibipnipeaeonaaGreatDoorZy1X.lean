/-
  WHAT WAS ANSWERED: rows of fields that are looked through; the developers' firstValue. No claim by itself.
-/
import Derived.Test.YtibipnipeaeonaaGreatDoorXownX
import Derived.Test.YtibipnipeaeonaaGreatDoorNdv1X
import Derived.Test.YtibipnipeaeonaaGreatDoorWh1X
import Derived.Test.YtibipnipeaeonaaGreatDoorYmathX
import Derived.Test.YtibipnipeaeonaaGreatDoorMV
namespace Go.Proofs.YtibipnipeaeonaaGreatDoor
open Go Go.RowKit
set_option maxRecDepth 100000
/-- A function value that tells p of each field, as long as what lay in w lies. -/
def PrdF (w : World) (F : Value) (p : Fd → Bool) : Prop :=
  ∃ (g : Nat) (lb : Array Value), F = .func (.func g) #[] lb ∧ (∀ args w, (callFunc g args).run Tryz.prog w = .ok (.enter g args) w) ∧
    ∀ (W : World) (n v : ByteArray), n.size ≤ 140737488351232 → Below w.heap.size w W → Calls Tryz.prog g (#[.agg #[.string n, .string v]] ++ lb) W fun e w' => e = .returned (.bool (p (unums n, unums v))) ∧ Below W.heap.size W w'
/-- Append of one field. -/
theorem wpList_fapp {ops : Array Oper} {rest : List Oper} {o : Oper} {a : Act} {Q : Exit → Act → World → Prop} (w : World) (hgd : o.guard = none) (s x : Operand)
    (ho : o.op = .call { callee := .builtin .append, args := #[s, x], argTypes := #[33, 33] }) (base : Nat) (v : Value) (FL : List (ByteArray × ByteArray)) (n u : ByteArray) (hs : a.eval s = v) (hown : FOwn w base v FL)
    (hx : a.eval x = .slice (some ⟨w.heap.size, 0, none⟩) 1 1) (hlen : FL.length < 4398046511104) (hbase : base ≤ w.heap.size)
    (h : ∀ v' w', FOwn w' base v' (FL ++ [(n, u)]) → (w.alloc (.cells #[.string n, .string u] 84)).grownBy w' v.ownBlock → wpList Tryz.prog ops Q rest (a.put o.dst v') w') : wpList Tryz.prog ops Q (o :: rest) a (w.alloc (.cells #[.string n, .string u] 84)) := by
  obtain ⟨i0, hi, hz0, hz1, hz2⟩ := info_parts n_infoF
  refine wpList_append_own _ hgd s x 33 ho base 84 i0 (.agg #[.string ⟨#[]⟩, .string ⟨#[]⟩]) 2 32 Tryz.underlying33 hi hz0 hz1 hz2 rfl (by decide) v FL.length _ hs (hown.alloc _) ⟨w.heap.size, 0, none⟩ 1 1 [.string n, .string u] hx rfl ?_ ?_ (by unfold maxLen; omega) (by omega) (by rw [World.size_alloc]; omega) ?_
  · intro j y hj
    have hh : (w.alloc (.cells #[.string n, .string u] 84)).heap[w.heap.size]? = some (.cells #[.string n, .string u] 84 (0, 0)) := heap_alloc_new w _
    rw [n_add]
    simp only [World.cell?, hh, Nat.zero_add]
    match j with
    | 0 => exact hj
    | 1 => exact hj
    | j + 2 => simp at hj
  · intro y hy
    simp at hy
    rcases hy with rfl | rfl <;> rfl
  · intro v' w' h1 h2 _
    refine h v' w' ?_ h2
    have hfc : fcells FL ++ [Value.string n, .string u] = fcells (FL ++ [(n, u)]) := by rw [fcells_append]; rfl
    rw [hfc] at h1
    show World.ownsRow _ _ _ _ _ _ _
    rw [show (FL ++ [(n, u)]).length = FL.length + 1 by simp]
    exact h1
theorem ftake_succ {L : List (ByteArray × ByteArray)} {k : Nat} (h : k < L.length) (p : ByteArray × ByteArray → Bool) : (L.take (k + 1)).filter p = (L.take k).filter p ++ if p (L.getD k fnone) = true then [L.getD k fnone] else [] := by
  rw [List.take_add_one, List.getElem?_eq_getElem h, List.filter_append, List.getD, List.getElem?_eq_getElem h]
  simp only [Option.toList, Option.getD]
  split
  · rename_i hp; simp [hp]
  · rename_i hp; simp [hp]
theorem zfds_len (L : List (ByteArray × ByteArray)) : (fdsOf L).length = L.length := by simp [fdsOf]
def IdxR (p : Fd → Bool) (L : List (ByteArray × ByteArray)) (r : Int) : Prop :=
  (r = -1 ∧ (fdsOf L).any p = false) ∨ ∃ k : Nat, r = k ∧ k < L.length ∧ (fdsOf L).findIdx p = k ∧ (fdsOf L).any p = true
theorem fds_getE {L : List (ByteArray × ByteArray)} {k : Nat} (h : k < L.length) : (fdsOf L)[k]'(by rw [zfds_len]; exact h) = (unums (L.getD k fnone).1, unums (L.getD k fnone).2) := by
  unfold fdsOf
  rw [List.getElem_map, List.getD, List.getElem?_eq_getElem h]
  rfl
theorem idx_hit {p : Fd → Bool} {L : List (ByteArray × ByteArray)} {k : Nat} (h : k < L.length) (hn : ∀ t, t < k → p (unums (L.getD t fnone).1, unums (L.getD t fnone).2) = false) (hy : p (unums (L.getD k fnone).1, unums (L.getD k fnone).2) = true) : IdxR p L (k : Nat) := by
  have hk : k < (fdsOf L).length := by rw [zfds_len]; exact h
  refine Or.inr ⟨k, rfl, h, (List.findIdx_eq hk).2 ⟨by rw [fds_getE h]; exact hy, fun j hj => by rw [fds_getE (by omega)]; exact hn j hj⟩, List.any_eq_true.2 ⟨_, List.getElem_mem hk, by rw [fds_getE h]; exact hy⟩⟩
theorem idx_miss {p : Fd → Bool} {L : List (ByteArray × ByteArray)} (hn : ∀ t, t < L.length → p (unums (L.getD t fnone).1, unums (L.getD t fnone).2) = false) : IdxR p L (-1) := by
  refine Or.inl ⟨rfl, List.any_eq_false.2 fun f hf => ?_⟩
  obtain ⟨i, hi, rfl⟩ := List.getElem_of_mem hf
  rw [zfds_len] at hi
  rw [fds_getE hi, hn i hi]
  exact Bool.noConfusion
set_option maxHeartbeats 2000000 in
theorem xidx_row (g off len cap : Nat) (L : List (ByteArray × ByteArray)) (F : Value) (p : Fd → Bool) (w : World) (hr : FRow w g off len cap L) (hl : len ≤ 4398046511104) (hs : ∀ t, (L.getD t fnone).1.size ≤ 140737488351232) (hF : PrdF w F p) :
    Calls Tryz.prog 41 #[.slice (some ⟨g, off, none⟩) len cap, F] w fun e w' => (∃ r, e = .returned (.int .i64 r) ∧ IdxR p L r) ∧ Below w.heap.size w w' := by
  obtain ⟨gf, lb, rfl, eg, HC0⟩ := hF
  have HC := vl HC0
  have HR := vl hr
  have HS := vl hs
  have hcap := hr.hcap
  have hmax := hr.hmax
  unfold maxLen at hmax
  have hLl := hr.hlen
  clear HC0 hr hs
  go_enter Tryz.func41, Tryz.ntmps41
  go_wp2_with fail
  go_loopw [8] (fun i wr => ∃ k : Nat, i = .int .i64 k ∧ k ≤ len ∧ Vl (∀ t, t < k → p (unums (L.getD t fnone).1, unums (L.getD t fnone).2) = false) ∧ Vl (Below w.heap.size w wr)) (fun i _ => len - (intOf i).toNat)
  case atStart => exact ⟨0, rfl, by omega, fun t ht => by omega, Below.refl _ _⟩
  case round =>
    obtain ⟨k, rfl, hk, HK, HB⟩ := hrel
    by_cases hlt : k < len
    · have hlt' : (k : Int) < (len : Int) := by omega
      have hr2 := HR.out.below HB.out
      have c1 := hr2.hname k hlt
      have c2 := hr2.hvalue k hlt
      have hsz := HS.out k
      have HIT := vl (fun hy => idx_hit (p := p) (L := L) (k := k) (by omega) HK.out hy)
      generalize hf : L.getD k fnone = f at *
      have HF := vl hf
      obtain ⟨n, v⟩ := f
      clear hr2 hf
      have H := vl (HC.out wr n v hsz HB.out)
      have hszr : w.heap.size ≤ wr.heap.size := HB.out.size
      obtain ⟨b, hb⟩ : ∃ b, p (unums n, unums v) = b := ⟨_, rfl⟩
      have HBB := vl hb
      rw [hb] at H
      clear hb
      go_wp2_with fail
      refine H.out.mono ?_
      rintro e w1 ⟨rfl, hb1⟩
      have HB2 : Vl (Below w.heap.size w w1) := HB.out.trans (hb1.mono hszr)
      clear H hb1 HB c1 c2
      cases b with
      | true =>
        have HI := vl (HIT.out HBB.out)
        go_wp2_with fail
        go_ret
        exact ⟨⟨_, rfl, HI.out⟩, HB2.out⟩
      | false =>
        go_wp2_with fail
        go_roundw
        case rel => exact ⟨k + 1, by go_num, by omega, vl (fun t ht => by
          by_cases e : t = k
          · rw [e, HF.out]; exact HBB.out
          · exact HK.out t (by omega)), HB2⟩
        case measure => simp [intOf]; omega
    · have hke : k = len := by omega
      subst hke
      have HI := vl (idx_miss (p := p) (L := L) (by rw [hLl]; exact HK.out))
      go_wp2_with fail
      go_ret
      exact ⟨⟨_, rfl, HI.out⟩, HB.out⟩
theorem xidx_any (a : Option Addr) (len cap : Nat) (L : List (ByteArray × ByteArray)) (F : Value) (p : Fd → Bool) (w : World) (hA : FArg w a len cap L) (hl : len ≤ 4398046511104) (hs : ∀ t, (L.getD t fnone).1.size ≤ 140737488351232) (hF : PrdF w F p) :
    Calls Tryz.prog 41 #[.slice a len cap, F] w fun e w' => (∃ r, e = .returned (.int .i64 r) ∧ IdxR p L r) ∧ Below w.heap.size w w' := by
  rcases hA with ⟨rfl, rfl⟩ | ⟨g, off, rfl, hr⟩
  · have HI := vl (idx_miss (p := p) (L := []) (fun t ht => by simp at ht))
    go_enter Tryz.func41, Tryz.ntmps41
    go_wp2_with fail
    go_loopw [8] (fun i wr => i = .int .i64 0 ∧ wr = w) (fun _ _ => 0)
    case atStart => exact ⟨rfl, rfl⟩
    case round =>
      obtain ⟨rfl, rfl⟩ := hrel
      go_wp2_with fail
      go_ret
      exact ⟨⟨_, rfl, HI.out⟩, Below.refl _ _⟩
  · exact xidx_row g off len cap L F p w hr hl hs hF
/-- The first value of a name; none: no value. -/
def fstV (l : List Fd) (nm : List Int) : List Int := match l.find? fun f => decide (f.1 = nm) with
  | some f => f.2
  | none => []
def isNm (nm : List Int) (f : Fd) : Bool := decide (f.1 = nm)
theorem zfv1_any (n v s : ByteArray) (cb : Nat) (w : World) (hc : w.cell? ⟨cb, 0, none⟩ = some (.string s)) :
    Calls Tryz.prog 42 #[.agg #[.string n, .string v], .pointer (some ⟨cb, 0, none⟩)] w fun e w' => e = .returned (.bool (isNm (unums s) (unums n, unums v))) ∧ Below w.heap.size w w' := by
  have hcb : cb < w.heap.size := blk_of_cell hc
  have HA : Vl (Below w.heap.size w (w.alloc (.cells #[.string n, .string v] 84))) := (Below.refl _ w).alloc (Nat.le_refl _) _
  have HE : Vl (isNm (unums s) (unums n, unums v) = (n.toList == s.toList)) := vl (by rw [un_beq]; rfl)
  obtain ⟨b, hb⟩ : ∃ b, (n.toList == s.toList) = b := ⟨_, rfl⟩
  rw [HE.out, hb]
  clear HE
  go_enter Tryz.func42, Tryz.ntmps42
  go_wp2
  go_ret
  exact ⟨rfl, HA.out⟩
theorem prd_nm {w : World} {cb : Nat} {s : ByteArray} (hc : w.cell? ⟨cb, 0, none⟩ = some (.string s)) : PrdF w (.func (.func 42) #[] #[.pointer (some ⟨cb, 0, none⟩)]) (isNm (unums s)) :=
  ⟨42, #[.pointer (some ⟨cb, 0, none⟩)], rfl, enters_of Tryz.func42 (by kernel_rfl) rfl, fun W n v _ hb => zfv1_any n v s cb W ((hb.cell (p := ⟨cb, 0, none⟩) (blk_of_cell hc)).trans hc)⟩
theorem fst_none {L : List FB} {nm : List Int} (h : (fdsOf L).any (isNm nm) = false) : fstV (fdsOf L) nm = [] := by
  unfold fstV
  have : (fdsOf L).find? (fun f => decide (f.1 = nm)) = none := by
    rw [List.find?_eq_none]
    intro f hf
    have := List.any_eq_false.1 h f hf
    simpa [isNm] using this
  rw [this]
theorem fst_some {L : List FB} {nm : List Int} {k : Nat} (hk : k < L.length) (h : (fdsOf L).findIdx (isNm nm) = k) (_ha : (fdsOf L).any (isNm nm) = true) : fstV (fdsOf L) nm = unums (L.getD k fnone).2 := by
  unfold fstV
  have hk2 : k < (fdsOf L).length := by rw [zfds_len]; exact hk
  have e : (fdsOf L).find? (fun f => decide (f.1 = nm)) = some ((fdsOf L)[k]) := by
    have h1 : (fdsOf L).find? (isNm nm) = (fdsOf L)[(fdsOf L).findIdx (isNm nm)]? := List.find?_eq_getElem?_findIdx
    rw [h, List.getElem?_eq_getElem hk2] at h1
    exact h1
  rw [e, fds_getE hk]
set_option maxHeartbeats 1000000 in
theorem zfv_any (a : Option Addr) (len cap : Nat) (L : List FB) (s : ByteArray) (w : World) (hA : FArg w a len cap L) (hl : len ≤ 4398046511104) (hs : ∀ t, (L.getD t fnone).1.size ≤ 140737488351232) :
    Calls Tryz.prog 29 #[.slice a len cap, .string s] w fun e w' => ∃ v : ByteArray, e = .returned (.string v) ∧ unums v = fstV (fdsOf L) (unums s) ∧ (v = ByteArray.empty ∨ ∃ t, t < L.length ∧ v = (L.getD t fnone).2) ∧ Below w.heap.size w w' := by
  obtain ⟨W1, hW1⟩ : ∃ x, w.alloc (.cells #[.string s] 9) = x := ⟨_, rfl⟩
  have hb1 : Below w.heap.size w W1 := by rw [← hW1]; exact (Below.refl _ w).alloc (Nat.le_refl _) _
  have hc : W1.cell? ⟨w.heap.size, 0, none⟩ = some (.string s) := by
    rw [← hW1]
    have hk : (w.alloc (.cells #[.string s] 9)).heap[w.heap.size]? = some (.cells #[.string s] 9 (0, 0)) := heap_alloc_new w _
    simp only [World.cell?, hk]; rfl
  have HI := vl (xidx_any a len cap L _ _ W1 (hA.below hb1) hl hs (prd_nm hc))
  have HA := vl hA
  have HB1 := vl hb1
  have hs1 : w.heap.size ≤ W1.heap.size := hb1.size
  clear hA hs hb1 hc
  go_enter Tryz.func29, Tryz.ntmps29
  go_wp2_with fail
  clear hW1
  refine HI.out.mono ?_
  rintro e w2 ⟨⟨r, rfl, hr⟩, hb2⟩
  have HB2 := vl (HB1.out.trans (hb2.mono hs1))
  clear hb2 HI
  rcases hr with ⟨rfl, h1⟩ | ⟨k, rfl, hk, h1, h2⟩
  · have HF := vl (fst_none h1)
    clear h1
    go_wp2_with fail
    go_ret
    exact ⟨_, rfl, by rw [HF.out]; rfl, Or.inl rfl, HB2.out⟩
  · have HF := vl (fst_some hk h1 h2)
    clear h1 h2
    rcases HA.out with ⟨_, rfl⟩ | ⟨g, off, rfl, hr⟩
    · simp at hk
    · have hr2 := hr.below HB2.out
      have hll := hr.hlen
      have c2 := hr2.hvalue k (by omega)
      have hcap := hr.hcap
      have hk1 : (k : Int) < (len : Int) := by omega
      have hk0 : ¬ (k : Int) < 0 := by omega
      obtain ⟨v, hv⟩ : ∃ v, (L.getD k fnone).2 = v := ⟨_, rfl⟩
      rw [hv] at c2
      have HV := vl hv
      clear hr hr2 hv hll
      go_wp2_with fail
      go_ret
      exact ⟨v, rfl, by rw [HF.out, HV.out], Or.inr ⟨k, hk, HV.out.symm⟩, HB2.out⟩
end Go.Proofs.YtibipnipeaeonaaGreatDoor
