/-
  CONTRACTS of the Go functions slices.IndexFunc and slices.ContainsFunc at head.tooLongField. No claim by itself.
-/
import Derived.Test.YtkjfhgoddhigmacDoorDcod2
namespace Go.Proofs.YtkjfhgoddhigmacDoor
open Go.RowKit
set_option maxRecDepth 100000
theorem getD_mem {L : List (ByteArray × ByteArray)} {k : Nat} (h : k < L.length) : L.getD k fnone ∈ L := by
  rw [List.getD, List.getElem?_eq_getElem h]; exact List.getElem_mem _
/-- The index of a field that is too long, or -1. -/
def IdxTold (L : List (ByteArray × ByteArray)) (r : Int) : Prop := (0 ≤ r ∧ ∃ f ∈ L, ¬ small f) ∨ (r = -1 ∧ ∀ f ∈ L, small f)
set_option maxHeartbeats 2000000 in
theorem hidx_any (g off len cap : Nat) (L : List (ByteArray × ByteArray)) (w : World) (hr : FRow w g off len cap L) :
    Calls Tryd.prog 21 #[.slice (some ⟨g, off, none⟩) len cap, .func (.func 14) #[] #[]] w fun e w' => (∃ r, e = .returned (.int .i64 r) ∧ IdxTold L r) ∧ Below w.heap.size w w' := by
  have hcap := hr.hcap
  have hmax := hr.hmax
  unfold maxLen at hmax
  go_enter Tryd.func21, Tryd.ntmps21
  go_wp2
  go_loopw [8] (fun i wr => ∃ k : Nat, i = .int .i64 k ∧ k ≤ len ∧ (∀ t, t < k → small (L.getD t fnone)) ∧ Below w.heap.size w wr) (fun i _ => len - (intOf i).toNat)
  case atStart => exact ⟨0, rfl, by omega, fun t ht => by omega, Below.refl _ _⟩
  case round =>
    obtain ⟨k, rfl, hk, hsm, hbel⟩ := hrel
    have HSM := hide hsm
    clear hsm
    by_cases hlt : k < len
    · have hr2 := hr.below hbel
      have c1 := hr2.hname k hlt
      have c2 := hr2.hvalue k hlt
      have hmem : Hid (L.getD k fnone ∈ L) := getD_mem (by have := hr.hlen; omega)
      have hx := fun w q hq => htlf_any (L.getD k fnone).1 (L.getD k fnone).2 w q hq
      generalize hf : L.getD k fnone = f at *
      have HF := hide hf
      clear hf
      obtain ⟨n, v⟩ := f
      have hsz := hbel.size
      clear hr2
      by_cases hbig : 400 < n.size ∨ 400 < v.size
      · have hx1 := hx wr true (by simpa using hbig)
        go_wp2_with fail
        refine hx1.mono ?_
        rintro e w1 ⟨rfl, hb⟩
        clear hx1 hx
        go_wp2
        go_ret
        exact ⟨⟨_, rfl, Or.inl ⟨by omega, (n, v), hmem.out, fun h => by have h1 := h.1; have h2 := h.2; simp only at h1 h2; omega⟩⟩, hbel.trans (hb.mono hsz)⟩
      · have hx1 := hx wr false (by simpa using hbig)
        go_wp2_with fail
        refine hx1.mono ?_
        rintro e w1 ⟨rfl, hb⟩
        clear hx1 hx
        go_wp2
        go_roundw
        case rel =>
          refine ⟨k + 1, by go_num, by omega, fun t ht => ?_, hbel.trans (hb.mono hsz)⟩
          by_cases e : t = k
          · subst e
            rw [HF.out]
            exact ⟨by show n.size ≤ 400; omega, by show v.size ≤ 400; omega⟩
          · exact HSM.out t (by omega)
        case measure => simp [intOf]; omega
    · go_wp2
      go_ret
      refine ⟨⟨_, rfl, Or.inr ⟨rfl, fun f hf => ?_⟩⟩, hbel⟩
      obtain ⟨i, hi, rfl⟩ := List.getElem_of_mem hf
      have := HSM.out i (by have := hr.hlen; omega)
      simpa [List.getD, List.getElem?_eq_getElem hi] using this
theorem hidx_arg (a : Option Addr) (len cap : Nat) (L : List (ByteArray × ByteArray)) (w : World) (hA : FArg w a len cap L) :
    Calls Tryd.prog 21 #[.slice a len cap, .func (.func 14) #[] #[]] w fun e w' => (∃ r, e = .returned (.int .i64 r) ∧ IdxTold L r) ∧ Below w.heap.size w w' := by
  rcases hA with ⟨rfl, rfl⟩ | ⟨g, off, rfl, hr⟩
  · go_enter Tryd.func21, Tryd.ntmps21
    go_wp2
    go_loopw [8] (fun i wr => i = .int .i64 0 ∧ wr = w) (fun _ _ => 0)
    case atStart => exact ⟨rfl, rfl⟩
    case round =>
      obtain ⟨rfl, rfl⟩ := hrel
      go_wp2
      go_ret
      exact ⟨⟨_, rfl, Or.inr ⟨rfl, fun f hf => by simp at hf⟩⟩, Below.refl _ _⟩
  · exact hidx_any g off len cap L w hr
theorem hcont_yes (a : Option Addr) (len cap : Nat) (L : List (ByteArray × ByteArray)) (w : World) (hA : FArg w a len cap L) (h : ∃ f ∈ L, ¬ small f) :
    Calls Tryd.prog 13 #[.slice a len cap, .func (.func 14) #[] #[]] w fun e w' => e = .returned (.bool true) ∧ Below w.heap.size w w' := by
  have hx := hidx_arg a len cap L w hA
  go_enter Tryd.func13, Tryd.ntmps13
  go_wp2_with fail
  refine hx.mono ?_
  rintro e w1 ⟨⟨r, rfl, hr⟩, hb⟩
  obtain ⟨f, hf, hs⟩ := h
  have h0 : 0 ≤ r := by
    rcases hr with h1 | h1
    · exact h1.1
    · exact absurd (h1.2 f hf) hs
  clear hx hr
  go_wp2
  go_ret
  exact ⟨rfl, hb⟩
theorem hcont_no (a : Option Addr) (len cap : Nat) (L : List (ByteArray × ByteArray)) (w : World) (hA : FArg w a len cap L) (h : ∀ f ∈ L, small f) :
    Calls Tryd.prog 13 #[.slice a len cap, .func (.func 14) #[] #[]] w fun e w' => e = .returned (.bool false) ∧ Below w.heap.size w w' := by
  have hx := hidx_arg a len cap L w hA
  go_enter Tryd.func13, Tryd.ntmps13
  go_wp2_with fail
  refine hx.mono ?_
  rintro e w1 ⟨⟨r, rfl, hr⟩, hb⟩
  have h0 : r = -1 := by
    rcases hr with h1 | h1
    · obtain ⟨_, f, hf, hs⟩ := h1
      exact absurd (h f hf) hs
    · exact h1.1
  subst h0
  clear hx hr
  go_wp2
  go_ret
  exact ⟨rfl, hb⟩
end Go.Proofs.YtkjfhgoddhigmacDoor
