/-
  CONTRACT of the Go function tollref1.Text. No claim by itself.
-/
import Derived.Test.YtkjfhgoddhigmabDoorRput
import Derived.Test.YtkjfhgoddhigmabDoorRcode
import Derived.Test.YtkjfhgoddhigmabDoorHmath
import Derived.Test.YtkjfhgoddhigmabDoorTbase
import Derived.Test.YtkjfhgoddhigmabDoorCmath3
import Derived.Lib.ConvBytes
import Derived.Laws.AppendOwn
namespace Go.Proofs.YtkjfhgoddhigmabDoor
open Go.RowKit
set_option maxRecDepth 100000
/-- A text as bytes of its own. -/
theorem conv_bytes (s : ByteArray) (w : World) (hs : s.size ≤ 1048576) : ∃ cap w', (convert 9 50 (.string s)).run Tryd.prog w = .ok (.slice (some ⟨w.heap.size, 0, none⟩) s.size cap) w' ∧ Below w.heap.size w w' ∧ w.heap.size < w'.heap.size ∧ Row w' w.heap.size 0 s.size cap (nums s) := by
  refine ⟨_, _, Lib.run_convert_string_bytes w 9 50 5 s Tryd.underlying9 Tryd.underlying50 Tryd.underlying5, ⟨rfl, rfl, rfl, by rw [Lib.bytesWorld_size]; omega, fun k hk => Lib.bytesWorld_at_old w 5 s k hk⟩, by rw [Lib.bytesWorld_size]; omega, nums_len s, grownCap_ge w _ _ _, grownCap_le_maxLen w _ _ _ (by unfold maxLen; omega), fun t ht => ?_, nums_byte s⟩
  rw [Nat.zero_add, Lib.bytesWorld_cell w 5 s t ht]
  have hk : t < s.data.toList.length := by simpa using ht
  simp only [nums, List.getD, List.getElem?_map, List.getElem?_eq_getElem hk, Option.map_some, Option.getD_some]
theorem row_news {w : World} {g off len cap : Nat} {Z : List Int} (h : Row w g off len cap Z) : ∀ j u, (Z.map (Value.int .u8))[j]? = some u → w.cell? ((⟨g, off, none⟩ : Addr).add j) = some u := by
  intro j u hu
  have hj : j < Z.length := by
    have := (List.getElem?_eq_some_iff.1 hu).1
    simpa using this
  have e : (⟨g, off, none⟩ : Addr).add j = ⟨g, off + j, none⟩ := by unfold Addr.add; split <;> simp_all
  rw [e, h.hcell j (by rw [← h.hlen]; exact hj), ← hu, List.getElem?_map, List.getElem?_eq_getElem hj]
  simp [List.getD, List.getElem?_eq_getElem hj]
theorem one_bytes (Z : List Int) : ∀ u ∈ Z.map (Value.int .u8), u.oneCell' = true := by
  intro u hu
  obtain ⟨c, _, rfl⟩ := List.mem_map.1 hu
  rfl
/-- What writing a text gives: its bytes, or none and a fault. -/
def TextMade (w w' : World) (s : ByteArray) (v : Value) (k : Int) : Prop :=
  (s.size ≤ 400 ∧ k = 0 ∧ w'.ownsRow w.heap.size 5 1 v (txtL (nums s)).length ((txtL (nums s)).map (Value.int .u8))) ∨ (400 < s.size ∧ k = 4 ∧ v = .slice none 0 0)
set_option maxHeartbeats 4000000 in
theorem rtext_any (s : ByteArray) (w : World) :
    Calls Tryd.prog 22 #[.string s] w fun e w' => (∃ v k, e = .returned (.tuple #[v, .int .i64 k]) ∧ TextMade w w' s v k) ∧ Below w.heap.size w w' := by
  obtain ⟨i0, hi, hz0, hz1, hz2⟩ := info_parts info5
  by_cases hbig : 400 < s.size
  · have hb : decide ((400 : Int) < (s.size : Int)) = true := by simp; omega
    go_enter Tryd.func22, Tryd.ntmps22
    go_wp2
    go_ret2
    exact ⟨⟨_, _, rfl, Or.inr ⟨hbig, rfl, rfl⟩⟩, Below.refl _ _⟩
  · have hb : decide ((400 : Int) < (s.size : Int)) = false := by simp; omega
    have hle : s.size ≤ 400 := by omega
    have hn := nums_len s
    go_enter Tryd.func22, Tryd.ntmps22
    go_wp2_with fail
    refine (rcode_any s w (by omega)).mono ?_
    rintro e w1 ⟨v, rfl, hown, hb1⟩
    by_cases hlt : (codeL (nums s)).length < s.size
    · have hT : Hid (txtL (nums s) = putL (codeL (nums s)).length 7 128 ++ codeL (nums s)) := by
        show txtL (nums s) = _
        unfold txtL; rw [if_pos (by omega)]
      have hc1 : 1 ≤ (codeL (nums s)).length := by
        have h1 := code_len (nums s)
        have h2 := (bitsL_len (nums s)).1
        omega
      obtain ⟨g, cap, rfl⟩ := shape_n hown hc1
      have hcb := code_byte (nums s)
      have hpl := putL_len ((codeL (nums s)).length : Int) 7 128
      generalize codeL (nums s) = C at *
      have hd : decide ((s.size : Int) ≤ (C.length : Int)) = false := by simp; omega
      have hrow := row_of rfl hown hcb
      have hok : putOk (C.length : Int) 7 128 := ⟨by omega, by omega, by decide, by decide, by decide, by decide, by decide⟩
      have HR := hide hrow
      have s1 := hb1.size
      clear hrow hown hcb
      go_wp2_with fail
      refine (rput_yes (C.length : Int) 7 128 w1 hok).mono ?_
      rintro e w2 ⟨g2, cap2, rfl, hown2, hb2⟩
      have HR2 := hide (HR.out.below hb2)
      have s2 := hb2.size
      have hB := hb1.trans (hb2.mono s1)
      have HO2 := hide (own_mono hown2 s1)
      clear hown2
      generalize putL (C.length : Int) 7 128 = P at *
      go_wp2_with (at_builtin; refine wpList_append_own _ rfl _ _ 50 rfl w.heap.size 5 i0 _ 1 1 Tryd.underlying50 hi hz0 hz1 hz2 rfl (by decide) _ _ _ rfl HO2.out ⟨g, 0, none⟩ C.length cap (C.map (Value.int .u8)) rfl (by simp) (row_news HR2.out) (one_bytes C) ?c3 ?c4 ?c5 ?_)
      case c3 => unfold maxLen; omega
      case c4 => omega
      case c5 => omega
      intro v' w3 hown' hgrow _
      have hb3 : Below w.heap.size w w3 := hB.grown hgrow (by omega) (fun k hk => (HO2.out.lt k hk).1)
      have H3 := hide hown'
      clear hown' hgrow
      go_wp2
      go_ret2
      refine ⟨⟨v', 0, rfl, Or.inl ⟨hle, rfl, ?_⟩⟩, hb3⟩
      rw [hT.out, List.length_append, List.map_append]
      exact H3.out
    · have hT : Hid (txtL (nums s) = putL s.size 7 0 ++ nums s) := by
        show txtL (nums s) = _
        unfold txtL; rw [if_neg (by omega), hn]
      obtain ⟨_, a, cap, rfl, _⟩ := slen_own hown
      have hd : decide ((s.size : Int) ≤ ((codeL (nums s)).length : Int)) = true := by simp; omega
      have hpl := putL_len (s.size : Int) 7 0
      generalize (codeL (nums s)).length = c at *
      obtain ⟨cap2, w2, hcv, hb2, hl2, hrow2⟩ := conv_bytes s w1 (by omega)
      have hok : putOk (s.size : Int) 7 0 := ⟨by omega, by omega, by decide, by decide, by decide, by decide, by decide⟩
      have s1 := hb1.size
      have s2 := hb2.size
      have HR2 := hide hrow2
      clear hown hrow2
      go_wp2_with fail
      refine (rput_yes (s.size : Int) 7 0 w2 hok).mono ?_
      rintro e w3 ⟨g3, cap3, rfl, hown3, hb3⟩
      have HR3 := hide (HR2.out.below hb3)
      have s3 := hb3.size
      have hB := (hb1.trans (hb2.mono s1)).trans (hb3.mono (by omega))
      have HO3 := hide (own_mono (base' := w.heap.size) hown3 (by omega))
      clear hown3
      generalize putL (s.size : Int) 7 0 = P at *
      go_wp2_with (at_builtin; refine wpList_append_own _ rfl _ _ 50 rfl w.heap.size 5 i0 _ 1 1 Tryd.underlying50 hi hz0 hz1 hz2 rfl (by decide) _ _ _ rfl HO3.out ⟨w1.heap.size, 0, none⟩ s.size cap2 ((nums s).map (Value.int .u8)) rfl (by simp [nums_len]) (row_news HR3.out) (one_bytes (nums s)) ?c3 ?c4 ?c5 ?_)
      case c3 => unfold maxLen; omega
      case c4 => omega
      case c5 => omega
      intro v' w4 hown' hgrow _
      have hb4 : Below w.heap.size w w4 := hB.grown hgrow (by omega) (fun k hk => (HO3.out.lt k hk).1)
      have H4 := hide hown'
      clear hown' hgrow
      go_wp2
      go_ret2
      refine ⟨⟨v', 0, rfl, Or.inl ⟨hle, rfl, ?_⟩⟩, hb4⟩
      rw [hT.out, List.length_append, List.map_append, hn]
      exact H4.out
end Go.Proofs.YtkjfhgoddhigmabDoor
