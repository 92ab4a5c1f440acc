/-
  WHAT WAS ANSWERED, as the document's answer has it: rows of texts; which kept reply fits. No claim by itself.
-/
import Derived.BigQuiet
import Derived.Deep.QuietTactic
import Derived.Deep.CutBlock
import Derived.Deep.DeepCutAuto
import Derived.Test.YtibipnipeaeonaaGreatDoorMU
import Derived.Test.YtibipnipeaeonaaGreatDoorMD
namespace Go.Proofs.YtibipnipeaeonaaGreatDoor
open Go Go.RowKit
set_option maxRecDepth 100000
theorem unums_ext (s : ByteArray) (p q : Nat) : unums (s.extract p q) = ((unums s).drop p).take (q - p) := by
  unfold unums
  rw [← List.map_drop, ← List.map_take, ByteArray.data_extract, Array.toList_extract, List.extract_eq_take_drop]
theorem ext_size (s : ByteArray) (p q : Nat) : (s.extract p q).size ≤ s.size := by
  rw [ByteArray.size_extract]
  omega
/-- What the inner loop has: the pieces that are cut, those of them that may be names. -/
def InI (s : List Int) (p q : Nat) (N : List (List Int)) : Prop :=
  (q ≤ s.length ∧ ∃ done, CutAt 44 32 s done p q ∧ N = done.filter tokL) ∨ (q = s.length + 1 ∧ N = (cut2 44 32 s).filter tokL)
theorem inI_begin (s : List Int) : InI s 0 0 [] := Or.inl ⟨Nat.zero_le _, [], CutAt.begin _ _ _, rfl⟩
theorem inI_next {s : List Int} {p q : Nat} {N : List (List Int)} (h : InI s p q N) (hq : q < s.length) (hn : p ≤ q → q + 1 < s.length → ¬ (s.getD q 0 = 44 ∧ s.getD (q + 1) 0 = 32)) : InI s p (q + 1) N := by
  rcases h with ⟨h1, done, h2, h3⟩ | ⟨h1, _⟩
  · exact Or.inl ⟨hq, done, h2.next h1 hn, h3⟩
  · omega
theorem inI_cut {s : List Int} {p q : Nat} {N : List (List Int)} (h : InI s p q N) (hp : p ≤ q) (hq : q + 1 < s.length) (he : s.getD q 0 = 44 ∧ s.getD (q + 1) 0 = 32) : InI s (q + 2) (q + 1) (N ++ [(s.drop p).take (q - p)].filter tokL) := by
  rcases h with ⟨h1, done, h2, h3⟩ | ⟨h1, _⟩
  · exact Or.inl ⟨by omega, _, h2.cut hp hq he, by rw [h3, List.filter_append]⟩
  · omega
theorem inI_last {s : List Int} {p : Nat} {N : List (List Int)} (h : InI s p s.length N) : InI s (s.length + 2) (s.length + 1) (N ++ [(s.drop p).take (s.length - p)].filter tokL) := by
  rcases h with ⟨h1, done, h2, h3⟩ | ⟨h1, _⟩
  · refine Or.inr ⟨rfl, ?_⟩
    rw [h2.last, List.filter_append, h3, List.take_of_length_le (by rw [List.length_drop]; omega)]
  · omega
theorem inI_le {s : List Int} {p q : Nat} {N : List (List Int)} (h : InI s p q N) (hq : q ≤ s.length) : p ≤ s.length := by
  rcases h with ⟨_, done, h2, _⟩ | ⟨h1, _⟩
  · exact h2.le
  · omega
theorem inI_end {s : List Int} {p q : Nat} {N : List (List Int)} (h : InI s p q N) (hq : s.length < q) : N = (cut2 44 32 s).filter tokL := by
  rcases h with ⟨h1, _⟩ | ⟨_, h2⟩
  · omega
  · exact h2
theorem bdN {B : Nat} {w w' : World} (h : Below B w w') : ∀ n, Below B w (w'.drewN n)
  | 0 => h
  | n + 1 => by
    have := bdN h n
    exact ⟨this.os, this.tape, this.output, this.size, this.block⟩
theorem n_infoS : (Tryz.prog.info? 9).map (fun i => (i.zero, i.size, i.bytes)) = some (some (.string ⟨#[]⟩), 1, 16) := by kernel_rfl
/-- Texts in a row that the call itself made. -/
abbrev SOwn (w : World) (base : Nat) (v : Value) (VS : List ByteArray) : Prop := w.ownsRow base 9 1 v VS.length (VS.map Value.string)
theorem sown_nil (w : World) (base : Nat) : SOwn w base (.slice none 0 0) [] := ⟨rfl, Or.inl ⟨rfl, rfl⟩⟩
theorem sown_below {base : Nat} {w w' : World} {v : Value} {VS : List ByteArray} (h : SOwn w base v VS) (hb : Below w.heap.size w w') : SOwn w' base v VS := by
  obtain ⟨h1, ⟨rfl, h0⟩ | ⟨g, cap, cur, rfl, hg, hc, hr⟩⟩ := id h
  · exact ⟨h1, Or.inl ⟨rfl, h0⟩⟩
  · exact ⟨h1, Or.inr ⟨g, cap, cur, rfl, hg, (hb.block g (Array.getElem?_eq_some_iff.1 hc).1).trans hc, hr⟩⟩
theorem sown_shape {w : World} {base : Nat} {v : Value} {VS : List ByteArray} (h : SOwn w base v VS) : ∃ sa sc, v = .slice sa VS.length sc := by
  obtain ⟨_, ⟨rfl, h0⟩ | ⟨g, cap, cur, rfl, _⟩⟩ := id h
  · exact ⟨none, 0, by rw [h0]⟩
  · exact ⟨_, cap, rfl⟩
theorem wpList_sapp {ops : Array Oper} {rest : List Oper} {o : Oper} {a : Act} {Q : Exit → Act → World → Prop} (w : World) (hgd : o.guard = none) (s x : Operand)
    (ho : o.op = .call { callee := .builtin .append, args := #[s, x], argTypes := #[82, 82] }) (base : Nat) (v : Value) (VS : List ByteArray) (u : ByteArray) (hs : a.eval s = v) (hown : SOwn w base v VS)
    (hx : a.eval x = .slice (some ⟨w.heap.size, 0, none⟩) 1 1) (hlen : VS.length < 8796093022208) (hbase : base ≤ w.heap.size)
    (h : ∀ v' w', SOwn w' base v' (VS ++ [u]) → (w.alloc (.cells #[.string u] 9)).grownBy w' v.ownBlock → wpList Tryz.prog ops Q rest (a.put o.dst v') w') : wpList Tryz.prog ops Q (o :: rest) a (w.alloc (.cells #[.string u] 9)) := by
  obtain ⟨i0, hi, hz0, hz1, hz2⟩ := info_parts n_infoS
  refine wpList_append_own _ hgd s x 82 ho base 9 i0 (.string ⟨#[]⟩) 1 16 Tryz.underlying82 hi hz0 hz1 hz2 rfl (by decide) v VS.length _ hs (hown.alloc _) ⟨w.heap.size, 0, none⟩ 1 1 [.string u] hx rfl ?_ ?_ (by unfold maxLen; omega) (by omega) (by rw [World.size_alloc]; omega) ?_
  · intro j y hj
    have hh : (w.alloc (.cells #[.string u] 9)).heap[w.heap.size]? = some (.cells #[.string u] 9 (0, 0)) := heap_alloc_new w _
    rw [n_add]
    simp only [World.cell?, hh, Nat.zero_add]
    match j with
    | 0 => exact hj
    | j + 1 => simp at hj
  · intro y hy
    simp at hy
    subst hy
    rfl
  · intro v' w' h1 h2 _
    refine h v' w' ?_ h2
    show World.ownsRow _ _ _ _ _ _ _
    rw [show (VS ++ [u]).length = VS.length + 1 by simp, List.map_append]
    exact h1
/-- A reply that is kept, as the document's answer keeps it. -/
structure DK where
  q : RqM
  r : RpM
  at_ : Int
def DK.cells (k : DK) : List Value := [.string k.q.m, .string k.q.p, .string k.q.h, .slice k.q.fa k.q.fn k.q.fc, .slice k.q.ba k.q.bn k.q.bc, .int .i64 k.r.code, .slice k.r.fa k.r.fn k.r.fc, .slice k.r.ba k.r.bn k.r.bc, .int .i64 k.at_]
def DK.val (k : DK) : Value := .agg #[.string k.q.m, .string k.q.p, .string k.q.h, .slice k.q.fa k.q.fn k.q.fc, .slice k.q.ba k.q.bn k.q.bc, .int .i64 k.r.code, .slice k.r.fa k.r.fn k.r.fc, .slice k.r.ba k.r.bn k.r.bc, .int .i64 k.at_]
/-- The values of a name. -/
def valsOf (L : List FB) (n : List Int) : List (List Int) := (L.filter fun f => decide (unums f.1 = n)).map fun f => unums f.2
def sameV (A B : List FB) (N : List (List Int)) : Prop := ∀ n ∈ N, valsOf A n = valsOf B n
def fitD (k : DK) (q : RqM) : Prop := unums k.q.h = unums q.h ∧ unums k.q.p = unums q.p ∧ sameV k.q.FL q.FL (namesL (fdsOf k.r.FL))
theorem vals_snoc (L : List FB) (n : List Int) (m : Nat) (h : m < L.length) : valsOf (L.take (m + 1)) n = valsOf (L.take m) n ++ (if unums (L.getD m fnone).1 = n then [unums (L.getD m fnone).2] else []) := by
  have e : L.take (m + 1) = L.take m ++ [L.getD m fnone] := by
    rw [List.take_add_one]
    simp [List.getD, List.getElem?_eq_getElem h]
  rw [e]
  generalize L.getD m fnone = p
  unfold valsOf
  rw [List.filter_append, List.map_append]
  congr 1
  by_cases hp : unums p.1 = n
  · rw [if_pos hp, List.filter_cons_of_pos (by simpa using hp)]; rfl
  · rw [if_neg hp, List.filter_cons_of_neg (by simpa using hp)]; rfl
theorem vals_le (L : List FB) (n : List Int) : (valsOf L n).length ≤ L.length := by unfold valsOf; rw [List.length_map]; exact List.length_filter_le _ _
theorem names_no {L : List Fd} (h : L.any (isNm varyN) = false) : namesL L = [] := by
  have : fstV L varyN = [] := by
    unfold fstV
    rw [List.find?_eq_none.2]
    intro x hx
    have := List.any_eq_false.1 h x hx
    simpa [isNm] using this
  unfold namesL
  rw [this]
  decide
/-- The rule by the values of the names is that of the fields that they name. -/
theorem same_sby {A B : List FB} {N : List (List Int)} : Sby nmK (A.filter (inVary N)) (B.filter (inVary N)) ↔ sameV A B N := by
  have key : ∀ (L : List FB) (k : List Int), ((L.filter (inVary N)).filter fun x => nmK x == k) = if k ∈ N then L.filter (fun x => decide (unums x.1 = k)) else [] := by
    intro L k
    rw [List.filter_filter]
    by_cases hk : k ∈ N
    · rw [if_pos hk]
      refine List.filter_congr fun x _ => ?_
      by_cases hx : unums x.1 = k
      · have h0 : 0 < N.count (nmK x) := List.count_pos_iff.2 (by unfold nmK; rw [hx]; exact hk)
        simp [inVary, hx, nmK]
        exact hk
      · simp [hx, nmK]
    · rw [if_neg hk, List.filter_eq_nil_iff]
      intro x _ hx
      simp [inVary, nmK] at hx
      exact hk (hx.1 ▸ hx.2)
  have inj : ∀ (X Y : List FB) (k : List Int), (∀ x ∈ X, unums x.1 = k) → (∀ y ∈ Y, unums y.1 = k) → (X.map fun f => unums f.2) = (Y.map fun f => unums f.2) → X = Y := by
    intro X
    induction X with
    | nil =>
      intro Y k _ _ h
      cases Y with
      | nil => rfl
      | cons y r => cases h
    | cons x r ih =>
      intro Y k hX hY h
      cases Y with
      | nil => cases h
      | cons y s =>
        simp only [List.map_cons, List.cons.injEq] at h
        have e1 : x.1 = y.1 := unums_inj ((hX x (by simp)).trans (hY y (by simp)).symm)
        have e2 : x.2 = y.2 := unums_inj h.1
        have e3 : r = s := ih s k (fun z hz => hX z (List.mem_cons_of_mem _ hz)) (fun z hz => hY z (List.mem_cons_of_mem _ hz)) h.2
        rw [e3, Prod.ext e1 e2]
  constructor
  · intro h n hn
    have := h n
    rw [key, key, if_pos hn, if_pos hn] at this
    unfold valsOf
    rw [this]
  · intro h k
    rw [key, key]
    by_cases hk : k ∈ N
    · rw [if_pos hk, if_pos hk]
      refine inj _ _ k (fun x hx => by simpa using (List.mem_filter.1 hx).2) (fun x hx => by simpa using (List.mem_filter.1 hx).2) (h k hk)
    · rw [if_neg hk, if_neg hk]
end Go.Proofs.YtibipnipeaeonaaGreatDoor
