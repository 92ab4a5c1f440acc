/-
  WHERETO: routes in memory; which texts a route may have. No claim by itself.
-/
import Derived.Test.YtmjdfbbhlbecdaaDoorWh1
import Derived.Test.YtmjdfbbhlbecdaaDoorNdv4
import Derived.Test.YtmjdfbbhlbecdaaDoorUapp
import Derived.Laws.AppendOwnNone
import Derived.Laws.StructEq
namespace Go.Proofs.YtmjdfbbhlbecdaaDoor
open Go Go.RowKit
set_option maxRecDepth 100000
abbrev Rb := ByteArray × ByteArray × ByteArray
def rbn : Rb := (.empty, .empty, .empty)
def rtO (r : Rb) : Rt := (unums r.1, unums r.2.1, unums r.2.2)
def rtV (r : Rb) : Value := .agg #[.string r.1, .string r.2.1, .string r.2.2]
def rtsOf (L : List Rb) : List Rt := L.map rtO
def Sz3 (r : Rb) : Prop := r.1.size ≤ 140737488351232 ∧ r.2.1.size ≤ 140737488351232 ∧ r.2.2.size ≤ 140737488351232
def SzL (L : List Rb) : Prop := ∀ t, Sz3 (L.getD t rbn)
theorem rts_len (L : List Rb) : (rtsOf L).length = L.length := by simp [rtsOf]
theorem rts_take (L : List Rb) (k : Nat) : rtsOf (L.take k) = (rtsOf L).take k := by unfold rtsOf; rw [List.map_take]
theorem rts_at (L : List Rb) (k : Nat) : (rtsOf L).getD k rt0 = rtO (L.getD k rbn) := by
  unfold rtsOf
  rw [List.getD, List.getD, List.getElem?_map]
  cases L[k]? with
  | none => rfl
  | some r => rfl
theorem rts_app (L M : List Rb) : rtsOf (L ++ M) = rtsOf L ++ rtsOf M := by unfold rtsOf; rw [List.map_append]
theorem rtO_inj {r s : Rb} (h : rtO r = rtO s) : r = s := by
  obtain ⟨a, b, c⟩ := r
  obtain ⟨d, e, f⟩ := s
  have h1 := congrArg Prod.fst h
  have h2 := congrArg (fun x => x.2.1) h
  have h3 := congrArg (fun x => x.2.2) h
  rw [show a = d from unums_inj h1, show b = e from unums_inj h2, show c = f from unums_inj h3]
theorem rts_inj : ∀ {L M : List Rb}, rtsOf L = rtsOf M → L = M
  | [], [], _ => rfl
  | [], _ :: _, h => by simp [rtsOf] at h
  | _ :: _, [], h => by simp [rtsOf] at h
  | a :: L, b :: M, h => by
    have h' : rtO a :: rtsOf L = rtO b :: rtsOf M := h
    rw [List.cons.injEq] at h'
    rw [rtO_inj h'.1, rts_inj h'.2]
def rcells (L : List Rb) : List Value := L.flatMap fun r => [.string r.1, .string r.2.1, .string r.2.2]
theorem rcells_app (L M : List Rb) : rcells (L ++ M) = rcells L ++ rcells M := by simp [rcells]
theorem rcells_len (L : List Rb) : (rcells L).length = L.length * 3 := by
  induction L with
  | nil => rfl
  | cons f L ih =>
    show ([Value.string f.1, Value.string f.2.1, Value.string f.2.2] ++ rcells L).length = _
    rw [List.length_append, ih]; simp; omega
theorem rcells_at (L : List Rb) (t : Nat) (h : t < L.length) : (rcells L)[3 * t]? = some (.string (L.getD t rbn).1) ∧ (rcells L)[3 * t + 1]? = some (.string (L.getD t rbn).2.1) ∧ (rcells L)[3 * t + 2]? = some (.string (L.getD t rbn).2.2) := by
  induction L generalizing t with
  | nil => simp at h
  | cons f L ih =>
    match t with
    | 0 => exact ⟨rfl, rfl, rfl⟩
    | t + 1 =>
      have := ih t (by simpa using h)
      exact this
/-- A row of routes. -/
structure RtRow (w : World) (g off len cap : Nat) (L : List Rb) : Prop where
  hlen : L.length = len
  hcap : len ≤ cap
  hmax : cap ≤ maxLen
  h0 : ∀ t, t < len → w.cell? ⟨g, off + t * 3, none⟩ = some (.string (L.getD t rbn).1)
  h1 : ∀ t, t < len → w.cell? ⟨g, off + t * 3 + 1, none⟩ = some (.string (L.getD t rbn).2.1)
  h2 : ∀ t, t < len → w.cell? ⟨g, off + t * 3 + 2, none⟩ = some (.string (L.getD t rbn).2.2)
theorem RtRow.below {w w' : World} {g off len cap : Nat} {L : List Rb} (h : RtRow w g off len cap L) (hb : Below w.heap.size w w') : RtRow w' g off len cap L := by
  have hlt : ∀ a v, w.cell? ⟨g, a, none⟩ = some v → g < w.heap.size := fun a v hc => blk_of_cell hc
  exact ⟨h.hlen, h.hcap, h.hmax, fun t ht => (hb.cell (p := ⟨g, off + t * 3, none⟩) (hlt _ _ (h.h0 t ht))).trans (h.h0 t ht), fun t ht => (hb.cell (p := ⟨g, off + t * 3 + 1, none⟩) (hlt _ _ (h.h1 t ht))).trans (h.h1 t ht), fun t ht => (hb.cell (p := ⟨g, off + t * 3 + 2, none⟩) (hlt _ _ (h.h2 t ht))).trans (h.h2 t ht)⟩
theorem rtake_at (L : List Rb) {k t : Nat} (h : t < k) : (L.take k).getD t rbn = L.getD t rbn := by simp [List.getD, h]
theorem RtRow.take {w : World} {g off len cap : Nat} {L : List Rb} (h : RtRow w g off len cap L) {k : Nat} (hk : k ≤ len) : RtRow w g off k cap (L.take k) := by
  have := h.hlen
  have := h.hcap
  exact ⟨by simp; omega, by omega, h.hmax, fun t ht => by rw [rtake_at L ht]; exact h.h0 t (by omega), fun t ht => by rw [rtake_at L ht]; exact h.h1 t (by omega), fun t ht => by rw [rtake_at L ht]; exact h.h2 t (by omega)⟩
def RtArg (w : World) (a : Option Addr) (len cap : Nat) (L : List Rb) : Prop :=
  (len = 0 ∧ L = []) ∨ ∃ g off, a = some ⟨g, off, none⟩ ∧ RtRow w g off len cap L
theorem RtArg.below {w w' : World} {a : Option Addr} {len cap : Nat} {L : List Rb} (h : RtArg w a len cap L) (hb : Below w.heap.size w w') : RtArg w' a len cap L := by
  rcases h with h | ⟨g, off, rfl, h⟩
  · exact Or.inl h
  · exact Or.inr ⟨g, off, rfl, h.below hb⟩
theorem RtArg.len {w : World} {a : Option Addr} {len cap : Nat} {L : List Rb} (h : RtArg w a len cap L) : L.length = len := by
  rcases h with ⟨rfl, rfl⟩ | ⟨g, off, rfl, h⟩
  · rfl
  · exact h.hlen
theorem SzL.take {L : List Rb} (h : SzL L) (k : Nat) : SzL (L.take k) := fun t => by
  by_cases ht : t < k
  · rw [rtake_at L ht]; exact h t
  · have e : (L.take k).getD t rbn = rbn := by simp [List.getD, List.getElem?_take, ht]
    rw [e]; exact ⟨by decide, by decide, by decide⟩
theorem SzL.app {L : List Rb} (h : SzL L) {r : Rb} (hr : Sz3 r) : SzL (L ++ [r]) := fun t => by
  by_cases ht : t < L.length
  · have e : (L ++ [r]).getD t rbn = L.getD t rbn := by simp [List.getD, List.getElem?_append_left ht]
    rw [e]; exact h t
  · by_cases e2 : t = L.length
    · subst e2
      have e : (L ++ [r]).getD L.length rbn = r := by simp [List.getD]
      rw [e]; exact hr
    · have e : (L ++ [r]).getD t rbn = rbn := by rw [List.getD, List.getElem?_eq_none (by simp; omega)]; rfl
      rw [e]; exact ⟨by decide, by decide, by decide⟩
theorem szl_nil : SzL [] := fun t => by
  have e : ([] : List Rb).getD t rbn = rbn := by simp [List.getD]
  rw [e]; exact ⟨by decide, by decide, by decide⟩
theorem r_info : (Tryd.prog.info? 33).map (fun i => (i.zero, i.size, i.bytes)) = some (some (.agg #[.string ⟨#[]⟩, .string ⟨#[]⟩, .string ⟨#[]⟩]), 3, 48) := by kernel_rfl
/-- A row of routes that the call itself made. -/
abbrev ROwn (w : World) (base : Nat) (v : Value) (L : List Rb) : Prop := w.ownsRow base 33 3 v L.length (rcells L)
theorem rown_row {w : World} {base : Nat} {sa : Option Addr} {n sc : Nat} {L : List Rb} (h : ROwn w base (.slice sa n sc) L) : n = L.length ∧ RtArg w sa n sc L := by
  obtain ⟨_, ⟨hv, h0⟩ | ⟨g, cap, cur, hv, _, _, hc, hm, _⟩⟩ := id h
  · cases hv
    have e := List.eq_nil_of_length_eq_zero h0
    subst e
    exact ⟨rfl, Or.inl ⟨rfl, rfl⟩⟩
  · cases hv
    refine ⟨rfl, Or.inr ⟨g, 0, rfl, rfl, hc, hm, fun t ht => ?_, fun t ht => ?_, fun t ht => ?_⟩⟩
    · have hc := h.cellAt (3 * t) (by omega)
      rw [show 0 + t * 3 = 3 * t from by omega, hc, (rcells_at L t (by omega)).1]
    · have hc := h.cellAt (3 * t + 1) (by omega)
      rw [show 0 + t * 3 + 1 = 3 * t + 1 from by omega, hc, (rcells_at L t (by omega)).2.1]
    · have hc := h.cellAt (3 * t + 2) (by omega)
      rw [show 0 + t * 3 + 2 = 3 * t + 2 from by omega, hc, (rcells_at L t (by omega)).2.2]
theorem rown_shape {w : World} {base : Nat} {v : Value} {L : List Rb} (h : ROwn w base v L) : ∃ sa sc, v = .slice sa L.length sc := by
  obtain ⟨_, ⟨rfl, h0⟩ | ⟨g, cap, cur, rfl, _⟩⟩ := id h
  · exact ⟨none, 0, by rw [h0]⟩
  · exact ⟨_, cap, rfl⟩
/-- Which of them is the same: a struct of three texts held against another one. -/
theorem eqGuardR : Tryd.prog.eqGuardType Tryd.prog.depth 33 = false := by kernel_rfl
theorem stoodR : Tryd.prog.stoodInHeld 33 = false := by kernel_rfl
/- which texts may be -/
def pw (s : List Int) : Bool := plainL s && !hasBl s
theorem wisw_any (s : ByteArray) (w : World) (hs : s.size ≤ 140737488351232) : Calls Tryd.prog 56 #[.string s] w fun e w' => e = .returned (.bool (pw (unums s))) ∧ Below w.heap.size w w' := by
  have H1 := vl (nplain_any0 s w hs)
  have H2 := vl (fun W => scont_any s W)
  unfold pw
  generalize plainL (unums s) = a at *
  generalize hasBl (unums s) = b at *
  cases a with
  | false =>
    go_enter Tryd.func56, Tryd.ntmps56
    go_wp2_with fail
    refine H1.out.mono ?_
    rintro e w1 ⟨rfl, hb⟩
    go_wp2_with fail
    go_ret
    exact ⟨rfl, hb⟩
  | true =>
    go_enter Tryd.func56, Tryd.ntmps56
    go_wp2_with fail
    refine H1.out.mono ?_
    rintro e w1 ⟨rfl, hb⟩
    go_wp2_with fail
    refine (H2.out _).mono ?_
    rintro e w2 ⟨rfl, rfl⟩
    go_wp2_with fail
    go_ret
    exact ⟨rfl, hb⟩
def hostOk (s : List Int) : Bool := pw s && !decide (s = [42])
theorem wish_any (s : ByteArray) (w : World) (hs : s.size ≤ 140737488351232) : Calls Tryd.prog 34 #[.string s] w fun e w' => e = .returned (.bool (hostOk (unums s))) ∧ Below w.heap.size w w' := by
  have H1 := vl (wisw_any s w hs)
  unfold hostOk
  have e : decide (unums s = [42]) = (s.toList == [42]) := by rw [un_beqlit]; rfl
  rw [e]
  clear e
  generalize pw (unums s) = a at *
  cases a with
  | false =>
    go_enter Tryd.func34, Tryd.ntmps34
    go_wp2_with fail
    refine H1.out.mono ?_
    rintro e w1 ⟨rfl, hb⟩
    go_wp2_with fail
    go_ret
    exact ⟨rfl, hb⟩
  | true =>
    by_cases q : s.toList = [42]
    · have q' : (s.toList == [42]) = true := by simpa using q
      have q2 : (s.toList != [42]) = false := by simpa using q
      rw [q']
      go_enter Tryd.func34, Tryd.ntmps34
      go_wp2_with fail
      refine H1.out.mono ?_
      rintro e w1 ⟨rfl, hb⟩
      go_wp2_with fail
      go_ret
      exact ⟨rfl, hb⟩
    · have q' : (s.toList == [42]) = false := by simpa using q
      have q2 : (s.toList != [42]) = true := by simpa using q
      rw [q']
      go_enter Tryd.func34, Tryd.ntmps34
      go_wp2_with fail
      refine H1.out.mono ?_
      rintro e w1 ⟨rfl, hb⟩
      go_wp2_with fail
      go_ret
      exact ⟨rfl, hb⟩
def pathOk (s : List Int) : Bool := pw s && begins 47 s
theorem wisp_any (s : ByteArray) (w : World) (hs : s.size ≤ 140737488351232) : Calls Tryd.prog 35 #[.string s] w fun e w' => e = .returned (.bool (pathOk (unums s))) ∧ Below w.heap.size w w' := by
  have H1 := vl (wisw_any s w hs)
  have H2 := vl (fun W => slash_any s W)
  unfold pathOk
  generalize pw (unums s) = a at *
  generalize begins 47 (unums s) = b at *
  cases a with
  | false =>
    go_enter Tryd.func35, Tryd.ntmps35
    go_wp2_with fail
    refine H1.out.mono ?_
    rintro e w1 ⟨rfl, hb⟩
    go_wp2_with fail
    go_ret
    exact ⟨rfl, hb⟩
  | true =>
    go_enter Tryd.func35, Tryd.ntmps35
    go_wp2_with fail
    refine H1.out.mono ?_
    rintro e w1 ⟨rfl, hb⟩
    go_wp2_with fail
    refine (H2.out _).mono ?_
    rintro e w2 ⟨rfl, rfl⟩
    go_wp2_with fail
    go_ret
    exact ⟨rfl, hb⟩
theorem pw_word {s : List Int} (h : s ≠ []) : pw s = wordL s := by
  unfold pw wordL hasBl
  have h1 : s.isEmpty = false := by
    cases hx : s.isEmpty
    · rfl
    · exact absurd (List.isEmpty_iff.1 hx) h
  have h2 : s.all (fun c => !decide (c = 32)) = !decide ((32 : Int) ∈ s) := by
    rw [Bool.eq_iff_iff]
    simp only [List.all_eq_true, Bool.not_eq_true', decide_eq_false_iff_not]
    constructor
    · intro h e; exact h _ e rfl
    · intro h x hx e; subst e; exact h hx
  rw [h1, h2]
  cases plainL s <;> cases decide ((32 : Int) ∈ s) <;> rfl
theorem rtOk_is (r : Rt) : (hostOk r.1 && pathOk r.2.1 && tokL r.2.2) = rtOk r := by
  have e1 : hostOk r.1 = (r.1.isEmpty || (wordL r.1 && !decide (r.1 = [42]))) := by
    unfold hostOk
    by_cases e : r.1 = []
    · rw [e]; rfl
    · rw [pw_word e]
      have h1 : r.1.isEmpty = false := by
        cases hx : r.1.isEmpty
        · rfl
        · exact absurd (List.isEmpty_iff.1 hx) e
      rw [h1]; rfl
  have e2 : pathOk r.2.1 = (wordL r.2.1 && decide (r.2.1.headD 0 = 47)) := by
    unfold pathOk begins
    by_cases e : r.2.1 = []
    · rw [e]; rfl
    · rw [pw_word e]
      have h1 : r.2.1.isEmpty = false := by
        cases hx : r.2.1.isEmpty
        · rfl
        · exact absurd (List.isEmpty_iff.1 hx) e
      rw [h1]; rfl
  rw [e1, e2]
  rfl
end Go.Proofs.YtmjdfbbhlbecdaaDoor
