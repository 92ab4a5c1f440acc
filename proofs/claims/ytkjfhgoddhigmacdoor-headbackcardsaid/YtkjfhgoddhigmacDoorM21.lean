/-
  CONTRACT of the Go function tollref1.ReadText. No claim by itself.
-/
import Derived.Deep.QuietTactic
import Derived.BigQuiet
import Derived.Test.YtkjfhgoddhigmacDoorM19
import Derived.Test.YtkjfhgoddhigmacDoorM20
import Derived.Test.YtkjfhgoddhigmacDoorM10
namespace Go.Proofs.YtkjfhgoddhigmacDoor
open Go.RowKit
set_option maxRecDepth 100000
/-- A part of a row, wherever the cut lays it. -/
theorem cut_row {w : World} {g off len cap : Nat} {Z : List Int} (h : Row w g off len cap Z) (u n : Nat) (hun : u + n ≤ len) :
    ∃ o, (if cap = u then some (⟨g, off, none⟩ : Addr) else some ⟨g, off + u, none⟩) = some ⟨g, o, none⟩ ∧ Row w g o n (cap - u) ((Z.drop u).take n) := by
  have hl := h.hlen
  have hc := h.hcap
  have hm := h.hmax
  have hlen : ((Z.drop u).take n).length = n := by rw [List.length_take, List.length_drop]; omega
  have hby : ∀ t, 0 ≤ ((Z.drop u).take n).getD t 0 ∧ ((Z.drop u).take n).getD t 0 < 256 := fun t => by
    by_cases ht : t < n
    · have e : ((Z.drop u).take n).getD t 0 = Z.getD (u + t) 0 := by simp [List.getD, ht, List.getElem?_drop]
      rw [e]; exact h.hbyte _
    · have e : ((Z.drop u).take n).getD t 0 = 0 := by simp [List.getD, List.getElem?_take, ht]
      rw [e]; decide
  by_cases e : cap = u
  · refine ⟨off, by rw [if_pos e], hlen, by omega, by omega, fun t ht => by omega, hby⟩
  · refine ⟨off + u, by rw [if_neg e], hlen, by omega, by omega, fun t ht => ?_, hby⟩
    have e2 : ((Z.drop u).take n).getD t 0 = Z.getD (u + t) 0 := by simp [List.getD, ht, List.getElem?_drop]
    rw [e2, Nat.add_assoc]
    exact h.hcell _ (by omega)
theorem conv_row {w : World} {g off n cap : Nat} {O : List Int} (h : Row w g off n cap O) : (convert 29 9 (.slice (some ⟨g, off, none⟩) n cap)).run Tryd.prog w = .ok (.string (strOfNums O)) w :=
  run_convert_bytes_arg w 29 5 Tryd.underlying29 Tryd.underlying5 g off n cap O h.hlen h.hcell 9 Tryd.underlying9
theorem row_mem {w : World} {g off n cap : Nat} {O : List Int} (h : Row w g off n cap O) : ∀ x ∈ O, 0 ≤ x ∧ x < 256 := by
  intro x hx
  obtain ⟨i, hi, rfl⟩ := List.getElem_of_mem hx
  have := h.hbyte i
  simpa [List.getD, List.getElem?_eq_getElem hi] using this
/-- What is given back where a text is read. -/
def rval (Z : List Int) : Value := .tuple #[.string (strOfNums (rtF Z).1), .int .i64 (rtF Z).2.1, .int .i64 (rtF Z).2.2]
end Go.Proofs.YtkjfhgoddhigmacDoor
/-
  CONTRACT of the Go function tollref1.ReadText, where so many bytes are there. No claim by itself.
-/
namespace Go.Proofs.YtkjfhgoddhigmacDoor
open Go.RowKit
set_option maxRecDepth 100000
theorem text_made {w w' : World} {s : ByteArray} {v : Value} {k : Int} (h : TextMade w w' s v k) (hs : s.size ≤ 400) : k = 0 ∧ ∃ g cap, v = .slice (some ⟨g, 0, none⟩) (txtL (nums s)).length cap ∧ w'.ownsRow w.heap.size 5 1 (.slice (some ⟨g, 0, none⟩) (txtL (nums s)).length cap) (txtL (nums s)).length ((txtL (nums s)).map (Value.int .u8)) := by
  rcases h with ⟨_, hk, ho⟩ | ⟨h, _⟩
  · have hl := txt_len (nums s) (by rw [nums_len]; exact hs)
    obtain ⟨g, cap, rfl⟩ := shape_n ho hl.1
    exact ⟨hk, g, cap, rfl, ho⟩
  · omega
theorem str_eq_iff {a b : List Int} (ha : ∀ c ∈ a, 0 ≤ c ∧ c < 256) (hb : ∀ c ∈ b, 0 ≤ c ∧ c < 256) : ((strOfNums a).toList == (strOfNums b).toList) = decide (a = b) := by
  by_cases h : a = b
  · subst h; simp
  · have : ¬ (strOfNums a).toList = (strOfNums b).toList := fun e => h (by
      have e2 : strOfNums a = strOfNums b := toList_eq (by simpa using e)
      rw [← nums_str a ha, ← nums_str b hb, e2])
    simp [h, this]
theorem putL_byte (n b f : Int) (h0 : 0 ≤ n) (h1 : 1 ≤ b) (h2 : b ≤ 8) (h3 : 0 ≤ f) (h4 : f ≤ 255) (h5 : f % (gr b + 1) = 0) : ∀ x ∈ putL n b f, 0 ≤ x ∧ x < 256 := by
  have jb := join_bd b f h1 h2 h3 h4 h5
  have gb := gr_bd b h1 h2
  intro x hx
  unfold putL at hx
  split at hx
  · simp at hx; omega
  · rcases List.mem_cons.1 hx with rfl | hx
    · omega
    · exact rest_byte 5 _ (by omega) x hx
theorem txt_byte (s : List Int) (hb : ∀ c ∈ s, 0 ≤ c ∧ c < 256) : ∀ x ∈ txtL s, 0 ≤ x ∧ x < 256 := by
  intro x hx
  unfold txtL at hx
  split at hx
  · rcases List.mem_append.1 hx with h | h
    · exact putL_byte _ 7 128 (by omega) (by decide) (by decide) (by decide) (by decide) (by decide) x h
    · exact code_byte s x h
  · rcases List.mem_append.1 hx with h | h
    · exact putL_byte _ 7 0 (by omega) (by decide) (by decide) (by decide) (by decide) (by decide) x h
    · exact hb x h
end Go.Proofs.YtkjfhgoddhigmacDoor
