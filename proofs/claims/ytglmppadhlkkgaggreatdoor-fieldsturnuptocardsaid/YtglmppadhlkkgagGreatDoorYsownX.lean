/-
  FROM THE ONE TO THE OTHER: a row of texts. No claim by itself.
-/
import Derived.Test.YtglmppadhlkkgagGreatDoorG5
namespace Go.Proofs.YtglmppadhlkkgagGreatDoor
open Go Go.RowKit
set_option maxRecDepth 100000
theorem n_infoS : (Tryz.prog.info? 9).map (fun i => (i.zero, i.size, i.bytes)) = some (some (.string ⟨#[]⟩), 1, 16) := by kernel_rfl
/-- Texts in a row that the call itself made. -/
abbrev SOwn (w : World) (base : Nat) (v : Value) (VS : List ByteArray) : Prop := w.ownsRow base 9 1 v VS.length (VS.map Value.string)
theorem sown_nil (w : World) (base : Nat) : SOwn w base (.slice none 0 0) [] := ⟨rfl, Or.inl ⟨rfl, rfl⟩⟩
theorem sown_below {base : Nat} {w w' : World} {v : Value} {VS : List ByteArray} (h : SOwn w base v VS) (hb : Below w.heap.size w w') : SOwn w' base v VS := by
  obtain ⟨h1, ⟨rfl, h0⟩ | ⟨g, cap, cur, rfl, hg, hc, hr⟩⟩ := id h
  · exact ⟨h1, Or.inl ⟨rfl, h0⟩⟩
  · exact ⟨h1, Or.inr ⟨g, cap, cur, rfl, hg, (hb.block g (Array.getElem?_eq_some_iff.1 hc).1).trans hc, hr⟩⟩
theorem sown_shape {w : World} {base : Nat} {v : Value} {VS : List ByteArray} (h : SOwn w base v VS) : ∃ sa sc, v = .slice sa VS.length sc := by
  obtain ⟨_, ⟨rfl, h0⟩ | ⟨g, cap, cur, rfl, _⟩⟩ := id h
  · exact ⟨none, 0, by rw [h0]⟩
  · exact ⟨_, cap, rfl⟩
theorem wpList_sapp {ops : Array Oper} {rest : List Oper} {o : Oper} {a : Act} {Q : Exit → Act → World → Prop} (w : World) (hgd : o.guard = none) (s x : Operand)
    (ho : o.op = .call { callee := .builtin .append, args := #[s, x], argTypes := #[91, 91] }) (base : Nat) (v : Value) (VS : List ByteArray) (u : ByteArray) (hs : a.eval s = v) (hown : SOwn w base v VS)
    (hx : a.eval x = .slice (some ⟨w.heap.size, 0, none⟩) 1 1) (hlen : VS.length < 8796093022208) (hbase : base ≤ w.heap.size)
    (h : ∀ v' w', SOwn w' base v' (VS ++ [u]) → (w.alloc (.cells #[.string u] 9)).grownBy w' v.ownBlock → wpList Tryz.prog ops Q rest (a.put o.dst v') w') : wpList Tryz.prog ops Q (o :: rest) a (w.alloc (.cells #[.string u] 9)) := by
  obtain ⟨i0, hi, hz0, hz1, hz2⟩ := info_parts n_infoS
  refine wpList_append_own _ hgd s x 91 ho base 9 i0 (.string ⟨#[]⟩) 1 16 Tryz.underlying91 hi hz0 hz1 hz2 rfl (by decide) v VS.length _ hs (hown.alloc _) ⟨w.heap.size, 0, none⟩ 1 1 [.string u] hx rfl ?_ ?_ (by unfold maxLen; omega) (by omega) (by rw [World.size_alloc]; omega) ?_
  · intro j y hj
    have hh : (w.alloc (.cells #[.string u] 9)).heap[w.heap.size]? = some (.cells #[.string u] 9 (0, 0)) := heap_alloc_new w _
    rw [n_add]
    simp only [World.cell?, hh, Nat.zero_add]
    match j with
    | 0 => exact hj
    | j + 1 => simp at hj
  · intro y hy
    simp at hy
    subst hy
    rfl
  · intro v' w' h1 h2 _
    refine h v' w' ?_ h2
    show World.ownsRow _ _ _ _ _ _ _
    rw [show (VS ++ [u]).length = VS.length + 1 by simp, List.map_append]
    exact h1
end Go.Proofs.YtglmppadhlkkgagGreatDoor
