/-
  CONTRACT of the Go function tollref1.Text. No claim by itself.
-/
import Derived.Test.YtkjfhgoddhigmacDoorRput
import Derived.Test.YtkjfhgoddhigmacDoorRcode
import Derived.Test.YtkjfhgoddhigmacDoorHmath
import Derived.Test.YtkjfhgoddhigmacDoorTbase
import Derived.Test.YtkjfhgoddhigmacDoorCmath3
import Derived.Lib.ConvBytes
import Derived.Laws.AppendOwn
namespace Go.Proofs.YtkjfhgoddhigmacDoor
open Go.RowKit
set_option maxRecDepth 100000
/-- A text as bytes of its own. -/
theorem conv_bytes (s : ByteArray) (w : World) (hs : s.size ≤ 1048576) : ∃ cap w', (convert 9 29 (.string s)).run Tryd.prog w = .ok (.slice (some ⟨w.heap.size, 0, none⟩) s.size cap) w' ∧ Below w.heap.size w w' ∧ w.heap.size < w'.heap.size ∧ Row w' w.heap.size 0 s.size cap (nums s) := by
  refine ⟨_, _, Lib.run_convert_string_bytes w 9 29 5 s Tryd.underlying9 Tryd.underlying29 Tryd.underlying5, ⟨rfl, rfl, rfl, by rw [Lib.bytesWorld_size]; omega, fun k hk => Lib.bytesWorld_at_old w 5 s k hk⟩, by rw [Lib.bytesWorld_size]; omega, nums_len s, grownCap_ge w _ _ _, grownCap_le_maxLen w _ _ _ (by unfold maxLen; omega), fun t ht => ?_, nums_byte s⟩
  rw [Nat.zero_add, Lib.bytesWorld_cell w 5 s t ht]
  have hk : t < s.data.toList.length := by simpa using ht
  simp only [nums, List.getD, List.getElem?_map, List.getElem?_eq_getElem hk, Option.map_some, Option.getD_some]
theorem row_news {w : World} {g off len cap : Nat} {Z : List Int} (h : Row w g off len cap Z) : ∀ j u, (Z.map (Value.int .u8))[j]? = some u → w.cell? ((⟨g, off, none⟩ : Addr).add j) = some u := by
  intro j u hu
  have hj : j < Z.length := by
    have := (List.getElem?_eq_some_iff.1 hu).1
    simpa using this
  have e : (⟨g, off, none⟩ : Addr).add j = ⟨g, off + j, none⟩ := by unfold Addr.add; split <;> simp_all
  rw [e, h.hcell j (by rw [← h.hlen]; exact hj), ← hu, List.getElem?_map, List.getElem?_eq_getElem hj]
  simp [List.getD, List.getElem?_eq_getElem hj]
theorem one_bytes (Z : List Int) : ∀ u ∈ Z.map (Value.int .u8), u.oneCell' = true := by
  intro u hu
  obtain ⟨c, _, rfl⟩ := List.mem_map.1 hu
  rfl
/-- What writing a text gives: its bytes, or none and a fault. -/
def TextMade (w w' : World) (s : ByteArray) (v : Value) (k : Int) : Prop :=
  (s.size ≤ 400 ∧ k = 0 ∧ w'.ownsRow w.heap.size 5 1 v (txtL (nums s)).length ((txtL (nums s)).map (Value.int .u8))) ∨ (400 < s.size ∧ k = 4 ∧ v = .slice none 0 0)
end Go.Proofs.YtkjfhgoddhigmacDoor
