/-
  CONTRACTS of the Go functions head.Weight, head.mayList, head.tooLongField, slices.IndexFunc and slices.ContainsFunc at it. No claim by itself.
-/
import Derived.Test.YtkjfhgoddhigmacDoorM15
import Derived.Test.YtkjfhgoddhigmacDoorM28
namespace Go.Proofs.YtkjfhgoddhigmacDoor
open Go.RowKit
set_option maxRecDepth 100000
set_option maxHeartbeats 1000000 in
theorem hweight_any (g off len cap : Nat) (L : List (ByteArray × ByteArray)) (w : World) (hr : FRow w g off len cap L) (hw : weight L ≤ 1152921504606846976) :
    Calls Tryd.prog 10 #[.slice (some ⟨g, off, none⟩) len cap] w fun e w' => e = .returned (.int .i64 (weight L : Int)) ∧ Below w.heap.size w w' := by
  have hcap := hr.hcap
  have hmax := hr.hmax
  unfold maxLen at hmax
  go_enter Tryd.func10, Tryd.ntmps10
  go_wp2
  go_loopw [3, 8] (fun n i wr => ∃ k : Nat, i = .int .i64 k ∧ k ≤ len ∧ n = .int .i64 (weight (L.take k) : Int) ∧ Below w.heap.size w wr) (fun _ i _ => len - (intOf i).toNat)
  case atStart => exact ⟨0, rfl, by omega, rfl, Below.refl _ _⟩
  case round =>
    obtain ⟨k, rfl, hk, rfl, hbel⟩ := hrel
    by_cases hlt : k < len
    · have hr2 := hr.below hbel
      have c1 := hr2.hname k hlt
      have c2 := hr2.hvalue k hlt
      have hl := hr.hlen
      have HT : Hid (weight (L.take (k + 1)) = weight (L.take k) + fsize (L.getD k fnone)) := weight_take L k (by omega)
      have hle := weight_take_le L (k + 1)
      rw [HT.out] at hle
      have hfs : (L.getD k fnone).1.size + (L.getD k fnone).2.size + 32 = fsize (L.getD k fnone) := rfl
      have hfs2 : fsize (L.getD k fnone) ≤ 1152921504606846976 := by omega
      generalize L.getD k fnone = f at *
      obtain ⟨n, v⟩ := f
      have hnv : n.size + v.size ≤ 1152921504606846976 := by have := hfs; simp at this; omega
      generalize weight (L.take k) = x at *
      have hsz := hbel.size
      clear hr2 hl hfs
      go_wp2_with fail
      refine (sizeof_any n v _ hnv).mono ?_
      rintro e w' ⟨rfl, rfl⟩
      generalize fsize (n, v) = y at *
      go_wp2
      go_roundw
      case rel => exact ⟨k + 1, by go_num, by omega, by rw [HT.out]; go_num, by repeat (first | exact hbel | refine Below.alloc ?_ (by (try simp); omega) _ | refine Below.setCell ?_ (by (try simp); omega) _)⟩
      case measure => simp [intOf]; omega
    · have e : L.take k = L := List.take_of_length_le (by have := hr.hlen; omega)
      rw [e]
      go_wp2
      go_ret
      exact ⟨rfl, hbel⟩
theorem hweight_arg (a : Option Addr) (len cap : Nat) (L : List (ByteArray × ByteArray)) (w : World) (hA : FArg w a len cap L) (hw : weight L ≤ 1152921504606846976) :
    Calls Tryd.prog 10 #[.slice a len cap] w fun e w' => e = .returned (.int .i64 (weight L : Int)) ∧ Below w.heap.size w w' := by
  rcases hA with ⟨rfl, rfl⟩ | ⟨g, off, rfl, hr⟩
  · go_enter Tryd.func10, Tryd.ntmps10
    go_wp2
    go_loopw [3, 8] (fun n i wr => i = .int .i64 0 ∧ n = .int .i64 0 ∧ wr = w) (fun _ _ _ => 0)
    case atStart => exact ⟨rfl, rfl, rfl⟩
    case round =>
      obtain ⟨rfl, rfl, rfl⟩ := hrel
      go_wp2
      go_ret
      exact ⟨rfl, Below.refl _ _⟩
  · exact hweight_any g off len cap L w hr hw
theorem hmay_any (a : Option Addr) (len cap : Nat) (L : List (ByteArray × ByteArray)) (w : World) (hA : FArg w a len cap L) (hlm : len ≤ 4611686018427387904) (hw : len ≤ 40 → weight L ≤ 1152921504606846976) (q : Bool) (hq : decide (len ≤ 40 ∧ weight L ≤ 2000) = q) :
    Calls Tryd.prog 12 #[.slice a len cap] w fun e w' => e = .returned (.bool q) ∧ Below w.heap.size w w' := by
  by_cases h : len ≤ 40
  · have hd : decide ((len : Int) ≤ 40) = true := by simp; omega
    have hx := hweight_arg a len cap L w hA (hw h)
    have hd2 : decide ((weight L : Int) ≤ 2000) = q := by rw [← hq]; exact decide_eq_decide.2 (by omega)
    generalize weight L = x at *
    go_enter Tryd.func12, Tryd.ntmps12
    go_wp2_with fail
    refine hx.mono ?_
    rintro e w1 ⟨rfl, hb⟩
    clear hx
    go_wp2
    go_ret
    exact ⟨rfl, hb⟩
  · have hd : decide ((len : Int) ≤ 40) = false := by simp; omega
    have hq2 : q = false := by rw [← hq]; simp; omega
    subst hq2
    go_enter Tryd.func12, Tryd.ntmps12
    go_wp2
    go_ret
    exact ⟨rfl, Below.refl _ _⟩
theorem htlf_any (n v : ByteArray) (w : World) (q : Bool) (hq : decide (400 < n.size ∨ 400 < v.size) = q) :
    Calls Tryd.prog 14 #[.agg #[.string n, .string v]] w fun e w' => e = .returned (.bool q) ∧ Below w.heap.size w w' := by
  have h1 := fun w => htoo_any n w
  have h2 := fun w => htoo_any v w
  by_cases h : 400 < n.size
  · have hd : decide ((400 : Int) < (n.size : Int)) = true := by simp; omega
    have hq2 : q = true := by rw [← hq]; simp; omega
    subst hq2
    rw [hd] at h1
    go_enter Tryd.func14, Tryd.ntmps14
    go_wp2_with fail
    refine (h1 _).mono ?_
    rintro e w1 ⟨rfl, rfl⟩
    go_wp2
    go_ret
    exact ⟨rfl, (Below.refl _ _).alloc (Nat.le_refl _) _⟩
  · have hd : decide ((400 : Int) < (n.size : Int)) = false := by simp; omega
    have hd2 : decide ((400 : Int) < (v.size : Int)) = q := by rw [← hq]; exact decide_eq_decide.2 (by omega)
    rw [hd] at h1
    rw [hd2] at h2
    go_enter Tryd.func14, Tryd.ntmps14
    go_wp2_with fail
    refine (h1 _).mono ?_
    rintro e w1 ⟨rfl, rfl⟩
    go_wp2_with fail
    refine (h2 _).mono ?_
    rintro e w1 ⟨rfl, rfl⟩
    go_wp2
    go_ret
    exact ⟨rfl, (Below.refl _ _).alloc (Nat.le_refl _) _⟩
end Go.Proofs.YtkjfhgoddhigmacDoor
/-
  CONTRACTS of the Go functions slices.IndexFunc and slices.ContainsFunc at head.tooLongField. No claim by itself.
-/
namespace Go.Proofs.YtkjfhgoddhigmacDoor
open Go.RowKit
set_option maxRecDepth 100000
theorem getD_mem {L : List (ByteArray × ByteArray)} {k : Nat} (h : k < L.length) : L.getD k fnone ∈ L := by
  rw [List.getD, List.getElem?_eq_getElem h]; exact List.getElem_mem _
/-- The index of a field that is too long, or -1. -/
def IdxTold (L : List (ByteArray × ByteArray)) (r : Int) : Prop := (0 ≤ r ∧ ∃ f ∈ L, ¬ small f) ∨ (r = -1 ∧ ∀ f ∈ L, small f)
set_option maxHeartbeats 2000000 in
theorem hidx_any (g off len cap : Nat) (L : List (ByteArray × ByteArray)) (w : World) (hr : FRow w g off len cap L) :
    Calls Tryd.prog 21 #[.slice (some ⟨g, off, none⟩) len cap, .func (.func 14) #[] #[]] w fun e w' => (∃ r, e = .returned (.int .i64 r) ∧ IdxTold L r) ∧ Below w.heap.size w w' := by
  have hcap := hr.hcap
  have hmax := hr.hmax
  unfold maxLen at hmax
  go_enter Tryd.func21, Tryd.ntmps21
  go_wp2
  go_loopw [8] (fun i wr => ∃ k : Nat, i = .int .i64 k ∧ k ≤ len ∧ (∀ t, t < k → small (L.getD t fnone)) ∧ Below w.heap.size w wr) (fun i _ => len - (intOf i).toNat)
  case atStart => exact ⟨0, rfl, by omega, fun t ht => by omega, Below.refl _ _⟩
  case round =>
    obtain ⟨k, rfl, hk, hsm, hbel⟩ := hrel
    have HSM := hide hsm
    clear hsm
    by_cases hlt : k < len
    · have hr2 := hr.below hbel
      have c1 := hr2.hname k hlt
      have c2 := hr2.hvalue k hlt
      have hmem : Hid (L.getD k fnone ∈ L) := getD_mem (by have := hr.hlen; omega)
      have hx := fun w q hq => htlf_any (L.getD k fnone).1 (L.getD k fnone).2 w q hq
      generalize hf : L.getD k fnone = f at *
      have HF := hide hf
      clear hf
      obtain ⟨n, v⟩ := f
      have hsz := hbel.size
      clear hr2
      by_cases hbig : 400 < n.size ∨ 400 < v.size
      · have hx1 := hx wr true (by simpa using hbig)
        go_wp2_with fail
        refine hx1.mono ?_
        rintro e w1 ⟨rfl, hb⟩
        clear hx1 hx
        go_wp2
        go_ret
        exact ⟨⟨_, rfl, Or.inl ⟨by omega, (n, v), hmem.out, fun h => by have h1 := h.1; have h2 := h.2; simp only at h1 h2; omega⟩⟩, hbel.trans (hb.mono hsz)⟩
      · have hx1 := hx wr false (by simpa using hbig)
        go_wp2_with fail
        refine hx1.mono ?_
        rintro e w1 ⟨rfl, hb⟩
        clear hx1 hx
        go_wp2
        go_roundw
        case rel =>
          refine ⟨k + 1, by go_num, by omega, fun t ht => ?_, hbel.trans (hb.mono hsz)⟩
          by_cases e : t = k
          · subst e
            rw [HF.out]
            exact ⟨by show n.size ≤ 400; omega, by show v.size ≤ 400; omega⟩
          · exact HSM.out t (by omega)
        case measure => simp [intOf]; omega
    · go_wp2
      go_ret
      refine ⟨⟨_, rfl, Or.inr ⟨rfl, fun f hf => ?_⟩⟩, hbel⟩
      obtain ⟨i, hi, rfl⟩ := List.getElem_of_mem hf
      have := HSM.out i (by have := hr.hlen; omega)
      simpa [List.getD, List.getElem?_eq_getElem hi] using this
theorem hidx_arg (a : Option Addr) (len cap : Nat) (L : List (ByteArray × ByteArray)) (w : World) (hA : FArg w a len cap L) :
    Calls Tryd.prog 21 #[.slice a len cap, .func (.func 14) #[] #[]] w fun e w' => (∃ r, e = .returned (.int .i64 r) ∧ IdxTold L r) ∧ Below w.heap.size w w' := by
  rcases hA with ⟨rfl, rfl⟩ | ⟨g, off, rfl, hr⟩
  · go_enter Tryd.func21, Tryd.ntmps21
    go_wp2
    go_loopw [8] (fun i wr => i = .int .i64 0 ∧ wr = w) (fun _ _ => 0)
    case atStart => exact ⟨rfl, rfl⟩
    case round =>
      obtain ⟨rfl, rfl⟩ := hrel
      go_wp2
      go_ret
      exact ⟨⟨_, rfl, Or.inr ⟨rfl, fun f hf => by simp at hf⟩⟩, Below.refl _ _⟩
  · exact hidx_any g off len cap L w hr
theorem hcont_yes (a : Option Addr) (len cap : Nat) (L : List (ByteArray × ByteArray)) (w : World) (hA : FArg w a len cap L) (h : ∃ f ∈ L, ¬ small f) :
    Calls Tryd.prog 13 #[.slice a len cap, .func (.func 14) #[] #[]] w fun e w' => e = .returned (.bool true) ∧ Below w.heap.size w w' := by
  have hx := hidx_arg a len cap L w hA
  go_enter Tryd.func13, Tryd.ntmps13
  go_wp2_with fail
  refine hx.mono ?_
  rintro e w1 ⟨⟨r, rfl, hr⟩, hb⟩
  obtain ⟨f, hf, hs⟩ := h
  have h0 : 0 ≤ r := by
    rcases hr with h1 | h1
    · exact h1.1
    · exact absurd (h1.2 f hf) hs
  clear hx hr
  go_wp2
  go_ret
  exact ⟨rfl, hb⟩
theorem hcont_no (a : Option Addr) (len cap : Nat) (L : List (ByteArray × ByteArray)) (w : World) (hA : FArg w a len cap L) (h : ∀ f ∈ L, small f) :
    Calls Tryd.prog 13 #[.slice a len cap, .func (.func 14) #[] #[]] w fun e w' => e = .returned (.bool false) ∧ Below w.heap.size w w' := by
  have hx := hidx_arg a len cap L w hA
  go_enter Tryd.func13, Tryd.ntmps13
  go_wp2_with fail
  refine hx.mono ?_
  rintro e w1 ⟨⟨r, rfl, hr⟩, hb⟩
  have h0 : r = -1 := by
    rcases hr with h1 | h1
    · obtain ⟨_, f, hf, hs⟩ := h1
      exact absurd (h f hf) hs
    · exact h1.1
  subst h0
  clear hx hr
  go_wp2
  go_ret
  exact ⟨rfl, hb⟩
end Go.Proofs.YtkjfhgoddhigmacDoor
