/-
  WHERE the document's answer and the developers' meet, of settings. No claim by itself.
-/
import Derived.Test.YtdlaaollamgplacDoorDsets
import Derived.Test.YtdlaaollamgplacDoorDsets2
import Derived.Test.YtdlaaollamgplacDoorTold
namespace Go.Proofs.YtdlaaollamgplacDoor
open Go Go.RowKit
set_option maxRecDepth 100000
/-- What the document's loop over settings has: no fault and their bytes, or a fault. -/
def L2 (P : Nat → Int × Int) (pl k base : Nat) (X : World) (ep : Int) (bv : Value) : Prop :=
  (ep = 0 ∧ (∀ t, t < k → okP (P t)) ∧ X.ownsRow base 5 1 bv (6 * k) ((pfx P k).map (Value.int .u8))) ∨ (ep = 1 ∧ ∃ t, t < pl ∧ ¬ okP (P t))
/-- What the document has of settings at last: the error, the bytes. -/
def L3 (P : Nat → Int × Int) (pl base : Nat) (X : World) (ep : Int) (bv : Value) : Prop :=
  (ep = 0 ∧ (∀ t, t < pl → okP (P t)) ∧ 6 * pl ≤ 1024 ∧ X.ownsRow base 5 1 bv (6 * pl) ((pfx P pl).map (Value.int .u8))) ∨ (ep = 4 ∧ (∀ t, t < pl → okP (P t)) ∧ 1024 < 6 * pl ∧ bv = .slice none 0 0) ∨ (ep = 1 ∧ (∃ t, t < pl ∧ ¬ okP (P t)) ∧ bv = .slice none 0 0)
/-- The same, ahead of the bytes being dropped. -/
def L3' (P : Nat → Int × Int) (pl base : Nat) (X : World) (ep : Int) (bv : Value) : Prop :=
  (ep = 0 ∧ (∀ t, t < pl → okP (P t)) ∧ 6 * pl ≤ 1024 ∧ X.ownsRow base 5 1 bv (6 * pl) ((pfx P pl).map (Value.int .u8))) ∨ (ep = 4 ∧ (∀ t, t < pl → okP (P t)) ∧ 1024 < 6 * pl) ∨ (ep = 1 ∧ (∃ t, t < pl ∧ ¬ okP (P t)))
def ErrOk (w : World) (x : Value) (k : Int) : Prop := Calls Tryd.prog 16 #[x, .int .i64 k] w fun e w' => e = .returned (.bool true) ∧ Below w.heap.size w w'
theorem errOk_nil (w : World) : ErrOk w .nilIface 0 := by
  refine (error_nil 0 w).mono ?_
  rintro e w' ⟨rfl, rfl⟩
  exact ⟨rfl, Below.refl _ _⟩
theorem errOk_hit (w : World) (n : Int) (hg : Laid w) : ErrOk w (.iface 73 (.int .i64 n)) n := by
  refine (error_hit n n w hg).mono ?_
  rintro e w' ⟨rfl, hb⟩
  exact ⟨by simp, hb⟩
theorem pfx_byte (P : Nat → Int × Int) : ∀ m, ∀ x ∈ pfx P m, 0 ≤ x ∧ x < 256
  | 0, x, h => by simp [pfx, setL] at h
  | m + 1, x, h => by
    rw [pfx_succ] at h
    rcases List.mem_append.1 h with h | h
    · exact pfx_byte P m x h
    · rcases List.mem_append.1 h with h | h
      · exact bigL_byte 2 _ x h
      · exact bigL_byte 4 _ x h
theorem own_arg {w : World} {base n : Nat} {v : Value} {L : List Int} (hl : L.length = n) (h : w.ownsRow base 5 1 v n (L.map (Value.int .u8))) (hb : ∀ x ∈ L, 0 ≤ x ∧ x < 256) : ∃ a l c, v = .slice a l c ∧ Arg w a l c L := by
  rcases id h.2 with ⟨hv, h0⟩ | ⟨g, cap, cur, hv, _⟩
  · exact ⟨none, 0, 0, hv, Or.inl ⟨rfl, List.eq_nil_of_length_eq_zero (by omega)⟩⟩
  · subst hv
    exact ⟨_, n, cap, rfl, Or.inr ⟨g, 0, rfl, row_of hl h hb⟩⟩
theorem sets_meet {P : Nat → Int × Int} {pl base : Nat} {wc w8 : World} {ep : Int} {bv cv cx : Value} (h3 : L3 P pl base wc ep bv) (hs : SetsTold P pl wc w8 cv cx) (hb : Below wc.heap.size wc w8) (hg : Laid w8) :
    ∃ (Q : List Int) (ca : Option Addr) (cl cc : Nat) (ba : Option Addr) (bl bc : Nat), cv = .slice ca cl cc ∧ bv = .slice ba bl bc ∧ Arg w8 ca cl cc Q ∧ Arg w8 ba bl bc Q ∧ ErrOk w8 cx ep := by
  have nil : Arg w8 none 0 0 [] := Or.inl ⟨rfl, rfl⟩
  rcases h3 with ⟨rfl, h1, h2, ho⟩ | ⟨rfl, h1, h2, rfl⟩ | ⟨rfl, h1, rfl⟩
  · rcases hs with ⟨⟨t, ht, hn⟩, _⟩ | ⟨_, h, _⟩ | ⟨_, _, rfl, hc⟩
    · exact absurd (h1 t ht) hn
    · omega
    · obtain ⟨ca, cl, cc, rfl, hA⟩ := own_arg (pfx_len P pl) hc (pfx_byte P pl)
      obtain ⟨ba, bl, bc, rfl, hB⟩ := own_arg (pfx_len P pl) (own_below ho hb) (pfx_byte P pl)
      exact ⟨_, ca, cl, cc, ba, bl, bc, rfl, rfl, hA, hB, errOk_nil w8⟩
  · rcases hs with ⟨⟨t, ht, hn⟩, _⟩ | ⟨_, _, rfl, rfl⟩ | ⟨_, h, _⟩
    · exact absurd (h1 t ht) hn
    · exact ⟨[], none, 0, 0, none, 0, 0, rfl, rfl, nil, nil, errOk_hit w8 4 hg⟩
    · omega
  · obtain ⟨t, ht, hn⟩ := h1
    rcases hs with ⟨_, rfl, rfl⟩ | ⟨h, _⟩ | ⟨h, _⟩
    · exact ⟨[], none, 0, 0, none, 0, 0, rfl, rfl, nil, nil, errOk_hit w8 1 hg⟩
    · exact absurd (h t ht) hn
    · exact absurd (h t ht) hn
/-- What the document's loop over a body's settings has. -/
def L6 (FZ : List Int) (fn j base : Nat) (X : World) (ep : Int) (sv : Value) : Prop :=
  (ep = 0 ∧ fn % 6 = 0 ∧ (∀ t, t < j → sVal FZ t ≤ 2147483647) ∧ X.ownsRow base 59 2 sv j (sCells FZ (List.range j))) ∨ (ep = 3 ∧ fn % 6 ≠ 0) ∨ (ep = 10 ∧ fn % 6 = 0 ∧ ∃ t, t < fn / 6 ∧ 2147483647 < sVal FZ t)
def L7 (FZ : List Int) (fn base : Nat) (X : World) (ep : Int) (sv : Value) : Prop :=
  (ep = 0 ∧ fn % 6 = 0 ∧ (∀ t, t < fn / 6 → sVal FZ t ≤ 2147483647) ∧ X.ownsRow base 59 2 sv (fn / 6) (sCells FZ (List.range (fn / 6)))) ∨ (ep = 3 ∧ fn % 6 ≠ 0 ∧ sv = .slice none 0 0) ∨ (ep = 10 ∧ fn % 6 = 0 ∧ (∃ t, t < fn / 6 ∧ 2147483647 < sVal FZ t) ∧ sv = .slice none 0 0)
theorem sCells_len (Z : List Int) : ∀ n, (sCells Z (List.range n)).length = n * 2
  | 0 => rfl
  | n + 1 => by rw [List.range_succ, sCells_snoc, List.length_append, sCells_len Z n]; simp; omega
theorem sCells_get (Z : List Int) : ∀ n t, t < n → (sCells Z (List.range n))[t * 2]? = some (.int .i64 (sId Z t)) ∧ (sCells Z (List.range n))[t * 2 + 1]? = some (.int .i64 (sVal Z t))
  | 0, t, h => by omega
  | n + 1, t, h => by
    rw [List.range_succ, sCells_snoc]
    by_cases e : t = n
    · subst e
      rw [List.getElem?_append_right (by rw [sCells_len]; omega), List.getElem?_append_right (by rw [sCells_len]; omega), sCells_len]
      rw [show t * 2 - t * 2 = 0 by omega, show t * 2 + 1 - t * 2 = 1 by omega]
      exact ⟨rfl, rfl⟩
    · rw [List.getElem?_append_left (by rw [sCells_len]; omega), List.getElem?_append_left (by rw [sCells_len]; omega)]
      exact sCells_get Z n t (by omega)
/-- Pairs in a row, as they can be read. -/
def PrRow (w : World) (v : Value) (N : Nat) (Z : List Int) : Prop :=
  (v = .slice none 0 0 ∧ N = 0) ∨ ∃ g c, v = .slice (some ⟨g, 0, none⟩) N c ∧ N ≤ c ∧ c ≤ maxLen ∧ ∀ t, t < N → w.cell? ⟨g, t * 2, none⟩ = some (.int .i64 (sId Z t)) ∧ w.cell? ⟨g, t * 2 + 1, none⟩ = some (.int .i64 (sVal Z t))
theorem PrRow.below {w w' : World} {v : Value} {N : Nat} {Z : List Int} (h : PrRow w v N Z) (hb : Below w.heap.size w w') : PrRow w' v N Z := by
  rcases h with h | ⟨g, c, hv, h1, h2, h3⟩
  · exact Or.inl h
  · exact Or.inr ⟨g, c, hv, h1, h2, fun t ht => ⟨(hb.cell (p := ⟨g, t * 2, none⟩) (lt_cell (h3 t ht).1)).trans (h3 t ht).1, (hb.cell (p := ⟨g, t * 2 + 1, none⟩) (lt_cell (h3 t ht).1)).trans (h3 t ht).2⟩⟩
theorem pr_shape {w : World} {v : Value} {N : Nat} {Z : List Int} (h : PrRow w v N Z) : ∃ a c, v = .slice a N c := by
  rcases h with ⟨rfl, rfl⟩ | ⟨g, c, rfl, _⟩
  · exact ⟨none, 0, rfl⟩
  · exact ⟨_, c, rfl⟩
theorem pr_some {w : World} {a : Option Addr} {c N : Nat} {Z : List Int} (h : PrRow w (.slice a N c) N Z) {t : Nat} (ht : t < N) : ∃ g, a = some ⟨g, 0, none⟩ ∧ N ≤ c ∧ c ≤ maxLen ∧ w.cell? ⟨g, t * 2, none⟩ = some (.int .i64 (sId Z t)) ∧ w.cell? ⟨g, t * 2 + 1, none⟩ = some (.int .i64 (sVal Z t)) := by
  rcases h with ⟨_, h0⟩ | ⟨g, c', hv, h1, h2, h3⟩
  · omega
  · cases hv
    exact ⟨g, rfl, h1, h2, (h3 t ht).1, (h3 t ht).2⟩
theorem pr_of_own {w : World} {base N : Nat} {v : Value} {Z : List Int} (h : w.ownsRow base 59 2 v N (sCells Z (List.range N))) : PrRow w v N Z := by
  rcases id h.2 with ⟨hv, h0⟩ | ⟨g, cap, cur, hv, _, _, h1, h2, _⟩
  · exact Or.inl ⟨hv, h0⟩
  · subst hv
    refine Or.inr ⟨g, cap, rfl, h1, h2, fun t ht => ?_⟩
    rw [h.cellAt (t * 2) (by omega), h.cellAt (t * 2 + 1) (by omega)]
    exact sCells_get Z N t ht
theorem rsets_meet {FZ : List Int} {fn base : Nat} {wc w8 : World} {ep : Int} {sv mv mx : Value} (h3 : L7 FZ fn base wc ep sv) (hs : RsTold FZ fn wc w8 mv mx) (hb : Below wc.heap.size wc w8) (hg : Laid w8) :
    ∃ N, N ≤ fn ∧ PrRow w8 mv N FZ ∧ PrRow w8 sv N FZ ∧ ErrOk w8 mx ep := by
  rcases h3 with ⟨rfl, h6, h1, ho⟩ | ⟨rfl, h6, rfl⟩ | ⟨rfl, h6, ⟨t, ht, hn⟩, rfl⟩
  · rcases hs with ⟨h, _⟩ | ⟨_, ⟨t, ht, hn⟩, _⟩ | ⟨_, _, rfl, hm⟩
    · exact absurd h6 h
    · have := h1 t ht; omega
    · exact ⟨fn / 6, by omega, pr_of_own hm, (pr_of_own ho).below hb, errOk_nil w8⟩
  · rcases hs with ⟨_, rfl, rfl⟩ | ⟨h, _⟩ | ⟨h, _⟩
    · exact ⟨0, by omega, Or.inl ⟨rfl, rfl⟩, Or.inl ⟨rfl, rfl⟩, errOk_hit w8 3 hg⟩
    · exact absurd h h6
    · exact absurd h h6
  · rcases hs with ⟨h, _⟩ | ⟨_, _, rfl, rfl⟩ | ⟨_, h, _⟩
    · exact absurd h6 h
    · exact ⟨0, by omega, Or.inl ⟨rfl, rfl⟩, Or.inl ⟨rfl, rfl⟩, errOk_hit w8 10 hg⟩
    · have := h t ht; omega
end Go.Proofs.YtdlaaollamgplacDoor
