/-
  CONTRACTS of the Go functions head.Weight, head.mayList, head.tooLongField, slices.IndexFunc and slices.ContainsFunc at it. No claim by itself.
-/
import Derived.Test.YtkjfhgoddhigmacGreatDoorM10
import Derived.Test.YtkjfhgoddhigmacGreatDoorM19
namespace Go.Proofs.YtkjfhgoddhigmacGreatDoor
open Go.RowKit
set_option maxRecDepth 100000
set_option maxHeartbeats 1000000 in
theorem hweight_any (g off len cap : Nat) (L : List (ByteArray × ByteArray)) (w : World) (hr : FRow w g off len cap L) (hw : weight L ≤ 1152921504606846976) :
    Calls Tryz.prog 11 #[.slice (some ⟨g, off, none⟩) len cap] w fun e w' => e = .returned (.int .i64 (weight L : Int)) ∧ Below w.heap.size w w' := by
  have hcap := hr.hcap
  have hmax := hr.hmax
  unfold maxLen at hmax
  go_enter Tryz.func11, Tryz.ntmps11
  go_wp2
  go_loopw [3, 8] (fun n i wr => ∃ k : Nat, i = .int .i64 k ∧ k ≤ len ∧ n = .int .i64 (weight (L.take k) : Int) ∧ Below w.heap.size w wr) (fun _ i _ => len - (intOf i).toNat)
  case atStart => exact ⟨0, rfl, by omega, rfl, Below.refl _ _⟩
  case round =>
    obtain ⟨k, rfl, hk, rfl, hbel⟩ := hrel
    by_cases hlt : k < len
    · have hr2 := hr.below hbel
      have c1 := hr2.hname k hlt
      have c2 := hr2.hvalue k hlt
      have hl := hr.hlen
      have HT : Hid (weight (L.take (k + 1)) = weight (L.take k) + fsize (L.getD k fnone)) := weight_take L k (by omega)
      have hle := weight_take_le L (k + 1)
      rw [HT.out] at hle
      have hfs : (L.getD k fnone).1.size + (L.getD k fnone).2.size + 32 = fsize (L.getD k fnone) := rfl
      have hfs2 : fsize (L.getD k fnone) ≤ 1152921504606846976 := by omega
      generalize L.getD k fnone = f at *
      obtain ⟨n, v⟩ := f
      have hnv : n.size + v.size ≤ 1152921504606846976 := by have := hfs; simp at this; omega
      generalize weight (L.take k) = x at *
      have hsz := hbel.size
      clear hr2 hl hfs
      go_wp2_with fail
      refine (sizeof_any n v _ hnv).mono ?_
      rintro e w' ⟨rfl, rfl⟩
      generalize fsize (n, v) = y at *
      go_wp2
      go_roundw
      case rel => exact ⟨k + 1, by go_num, by omega, by rw [HT.out]; go_num, by repeat (first | exact hbel | refine Below.alloc ?_ (by (try simp); omega) _ | refine Below.setCell ?_ (by (try simp); omega) _)⟩
      case measure => simp [intOf]; omega
    · have e : L.take k = L := List.take_of_length_le (by have := hr.hlen; omega)
      rw [e]
      go_wp2
      go_ret
      exact ⟨rfl, hbel⟩
theorem hweight_arg (a : Option Addr) (len cap : Nat) (L : List (ByteArray × ByteArray)) (w : World) (hA : FArg w a len cap L) (hw : weight L ≤ 1152921504606846976) :
    Calls Tryz.prog 11 #[.slice a len cap] w fun e w' => e = .returned (.int .i64 (weight L : Int)) ∧ Below w.heap.size w w' := by
  rcases hA with ⟨rfl, rfl⟩ | ⟨g, off, rfl, hr⟩
  · go_enter Tryz.func11, Tryz.ntmps11
    go_wp2
    go_loopw [3, 8] (fun n i wr => i = .int .i64 0 ∧ n = .int .i64 0 ∧ wr = w) (fun _ _ _ => 0)
    case atStart => exact ⟨rfl, rfl, rfl⟩
    case round =>
      obtain ⟨rfl, rfl, rfl⟩ := hrel
      go_wp2
      go_ret
      exact ⟨rfl, Below.refl _ _⟩
  · exact hweight_any g off len cap L w hr hw
theorem hmay_any (a : Option Addr) (len cap : Nat) (L : List (ByteArray × ByteArray)) (w : World) (hA : FArg w a len cap L) (hlm : len ≤ 4611686018427387904) (hw : len ≤ 40 → weight L ≤ 1152921504606846976) (q : Bool) (hq : decide (len ≤ 40 ∧ weight L ≤ 2000) = q) :
    Calls Tryz.prog 24 #[.slice a len cap] w fun e w' => e = .returned (.bool q) ∧ Below w.heap.size w w' := by
  by_cases h : len ≤ 40
  · have hd : decide ((len : Int) ≤ 40) = true := by simp; omega
    have hx := hweight_arg a len cap L w hA (hw h)
    have hd2 : decide ((weight L : Int) ≤ 2000) = q := by rw [← hq]; exact decide_eq_decide.2 (by omega)
    generalize weight L = x at *
    go_enter Tryz.func24, Tryz.ntmps24
    go_wp2_with fail
    refine hx.mono ?_
    rintro e w1 ⟨rfl, hb⟩
    clear hx
    go_wp2
    go_ret
    exact ⟨rfl, hb⟩
  · have hd : decide ((len : Int) ≤ 40) = false := by simp; omega
    have hq2 : q = false := by rw [← hq]; simp; omega
    subst hq2
    go_enter Tryz.func24, Tryz.ntmps24
    go_wp2
    go_ret
    exact ⟨rfl, Below.refl _ _⟩
theorem htlf_any (n v : ByteArray) (w : World) (q : Bool) (hq : decide (400 < n.size ∨ 400 < v.size) = q) :
    Calls Tryz.prog 26 #[.agg #[.string n, .string v]] w fun e w' => e = .returned (.bool q) ∧ Below w.heap.size w w' := by
  have h1 := fun w => htoo_any n w
  have h2 := fun w => htoo_any v w
  by_cases h : 400 < n.size
  · have hd : decide ((400 : Int) < (n.size : Int)) = true := by simp; omega
    have hq2 : q = true := by rw [← hq]; simp; omega
    subst hq2
    rw [hd] at h1
    go_enter Tryz.func26, Tryz.ntmps26
    go_wp2_with fail
    refine (h1 _).mono ?_
    rintro e w1 ⟨rfl, rfl⟩
    go_wp2
    go_ret
    exact ⟨rfl, (Below.refl _ _).alloc (Nat.le_refl _) _⟩
  · have hd : decide ((400 : Int) < (n.size : Int)) = false := by simp; omega
    have hd2 : decide ((400 : Int) < (v.size : Int)) = q := by rw [← hq]; exact decide_eq_decide.2 (by omega)
    rw [hd] at h1
    rw [hd2] at h2
    go_enter Tryz.func26, Tryz.ntmps26
    go_wp2_with fail
    refine (h1 _).mono ?_
    rintro e w1 ⟨rfl, rfl⟩
    go_wp2_with fail
    refine (h2 _).mono ?_
    rintro e w1 ⟨rfl, rfl⟩
    go_wp2
    go_ret
    exact ⟨rfl, (Below.refl _ _).alloc (Nat.le_refl _) _⟩
end Go.Proofs.YtkjfhgoddhigmacGreatDoor
/-
  CONTRACTS of the Go functions slices.IndexFunc and slices.ContainsFunc at head.tooLongField. No claim by itself.
-/
namespace Go.Proofs.YtkjfhgoddhigmacGreatDoor
open Go.RowKit
set_option maxRecDepth 100000
theorem getD_mem {L : List (ByteArray × ByteArray)} {k : Nat} (h : k < L.length) : L.getD k fnone ∈ L := by
  rw [List.getD, List.getElem?_eq_getElem h]; exact List.getElem_mem _
/-- The index of a field that is too long, or -1. -/
def IdxTold (L : List (ByteArray × ByteArray)) (r : Int) : Prop := (0 ≤ r ∧ ∃ f ∈ L, ¬ small f) ∨ (r = -1 ∧ ∀ f ∈ L, small f)
set_option maxHeartbeats 2000000 in
theorem hidx_any (g off len cap : Nat) (L : List (ByteArray × ByteArray)) (w : World) (hr : FRow w g off len cap L) :
    Calls Tryz.prog 39 #[.slice (some ⟨g, off, none⟩) len cap, .func (.func 26) #[] #[]] w fun e w' => (∃ r, e = .returned (.int .i64 r) ∧ IdxTold L r) ∧ Below w.heap.size w w' := by
  have hcap := hr.hcap
  have hmax := hr.hmax
  unfold maxLen at hmax
  go_enter Tryz.func39, Tryz.ntmps39
  go_wp2
  go_loopw [8] (fun i wr => ∃ k : Nat, i = .int .i64 k ∧ k ≤ len ∧ (∀ t, t < k → small (L.getD t fnone)) ∧ Below w.heap.size w wr) (fun i _ => len - (intOf i).toNat)
  case atStart => exact ⟨0, rfl, by omega, fun t ht => by omega, Below.refl _ _⟩
  case round =>
    obtain ⟨k, rfl, hk, hsm, hbel⟩ := hrel
    have HSM := hide hsm
    clear hsm
    by_cases hlt : k < len
    · have hr2 := hr.below hbel
      have c1 := hr2.hname k hlt
      have c2 := hr2.hvalue k hlt
      have hmem : Hid (L.getD k fnone ∈ L) := getD_mem (by have := hr.hlen; omega)
      have hx := fun w q hq => htlf_any (L.getD k fnone).1 (L.getD k fnone).2 w q hq
      generalize hf : L.getD k fnone = f at *
      have HF := hide hf
      clear hf
      obtain ⟨n, v⟩ := f
      have hsz := hbel.size
      clear hr2
      by_cases hbig : 400 < n.size ∨ 400 < v.size
      · have hx1 := hx wr true (by simpa using hbig)
        go_wp2_with fail
        refine hx1.mono ?_
        rintro e w1 ⟨rfl, hb⟩
        clear hx1 hx
        go_wp2
        go_ret
        exact ⟨⟨_, rfl, Or.inl ⟨by omega, (n, v), hmem.out, fun h => by have h1 := h.1; have h2 := h.2; simp only at h1 h2; omega⟩⟩, hbel.trans (hb.mono hsz)⟩
      · have hx1 := hx wr false (by simpa using hbig)
        go_wp2_with fail
        refine hx1.mono ?_
        rintro e w1 ⟨rfl, hb⟩
        clear hx1 hx
        go_wp2
        go_roundw
        case rel =>
          refine ⟨k + 1, by go_num, by omega, fun t ht => ?_, hbel.trans (hb.mono hsz)⟩
          by_cases e : t = k
          · subst e
            rw [HF.out]
            exact ⟨by show n.size ≤ 400; omega, by show v.size ≤ 400; omega⟩
          · exact HSM.out t (by omega)
        case measure => simp [intOf]; omega
    · go_wp2
      go_ret
      refine ⟨⟨_, rfl, Or.inr ⟨rfl, fun f hf => ?_⟩⟩, hbel⟩
      obtain ⟨i, hi, rfl⟩ := List.getElem_of_mem hf
      have := HSM.out i (by have := hr.hlen; omega)
      simpa [List.getD, List.getElem?_eq_getElem hi] using this
theorem hidx_arg (a : Option Addr) (len cap : Nat) (L : List (ByteArray × ByteArray)) (w : World) (hA : FArg w a len cap L) :
    Calls Tryz.prog 39 #[.slice a len cap, .func (.func 26) #[] #[]] w fun e w' => (∃ r, e = .returned (.int .i64 r) ∧ IdxTold L r) ∧ Below w.heap.size w w' := by
  rcases hA with ⟨rfl, rfl⟩ | ⟨g, off, rfl, hr⟩
  · go_enter Tryz.func39, Tryz.ntmps39
    go_wp2
    go_loopw [8] (fun i wr => i = .int .i64 0 ∧ wr = w) (fun _ _ => 0)
    case atStart => exact ⟨rfl, rfl⟩
    case round =>
      obtain ⟨rfl, rfl⟩ := hrel
      go_wp2
      go_ret
      exact ⟨⟨_, rfl, Or.inr ⟨rfl, fun f hf => by simp at hf⟩⟩, Below.refl _ _⟩
  · exact hidx_any g off len cap L w hr
theorem hcont_yes (a : Option Addr) (len cap : Nat) (L : List (ByteArray × ByteArray)) (w : World) (hA : FArg w a len cap L) (h : ∃ f ∈ L, ¬ small f) :
    Calls Tryz.prog 25 #[.slice a len cap, .func (.func 26) #[] #[]] w fun e w' => e = .returned (.bool true) ∧ Below w.heap.size w w' := by
  have hx := hidx_arg a len cap L w hA
  go_enter Tryz.func25, Tryz.ntmps25
  go_wp2_with fail
  refine hx.mono ?_
  rintro e w1 ⟨⟨r, rfl, hr⟩, hb⟩
  obtain ⟨f, hf, hs⟩ := h
  have h0 : 0 ≤ r := by
    rcases hr with h1 | h1
    · exact h1.1
    · exact absurd (h1.2 f hf) hs
  clear hx hr
  go_wp2
  go_ret
  exact ⟨rfl, hb⟩
theorem hcont_no (a : Option Addr) (len cap : Nat) (L : List (ByteArray × ByteArray)) (w : World) (hA : FArg w a len cap L) (h : ∀ f ∈ L, small f) :
    Calls Tryz.prog 25 #[.slice a len cap, .func (.func 26) #[] #[]] w fun e w' => e = .returned (.bool false) ∧ Below w.heap.size w w' := by
  have hx := hidx_arg a len cap L w hA
  go_enter Tryz.func25, Tryz.ntmps25
  go_wp2_with fail
  refine hx.mono ?_
  rintro e w1 ⟨⟨r, rfl, hr⟩, hb⟩
  have h0 : r = -1 := by
    rcases hr with h1 | h1
    · obtain ⟨_, f, hf, hs⟩ := h1
      exact absurd (h f hf) hs
    · exact h1.1
  subst h0
  clear hx hr
  go_wp2
  go_ret
  exact ⟨rfl, hb⟩
end Go.Proofs.YtkjfhgoddhigmacGreatDoor
/-
  CONTRACTS of the methods Resize and tellSizes of head.Coder. No claim by itself.
-/
namespace Go.Proofs.YtkjfhgoddhigmacGreatDoor
open Go.RowKit
set_option maxRecDepth 100000
/-- A coder's cells. -/
theorem HCod.cells {w : World} {cb : Nat} {st : CSt} {S : Nat → Prop} (h : HCod w cb st S) : ∃ to SO vi, w.heap[cb]? = some (.cells #[.int .i64 st.most, .int .i64 (leastOf st.sz), .pointer (some ⟨to, 0, none⟩), vi] 52 (0, 0)) ∧ TabP w to st.mo st.AO SO ∧ (∀ k, SO k → S k ∧ k ≠ cb) ∧
    ((st.bad = true ∧ vi = .pointer none) ∨ (st.bad = false ∧ ∃ ti SI, vi = .pointer (some ⟨ti, 0, none⟩) ∧ TabP w ti st.mi st.AI SI ∧ ∀ k, SI k → S k ∧ k ≠ cb ∧ ¬ SO k)) := h.row
/-- The table for what goes out has turned. -/
theorem HCod.turn {w w' : World} {cb to : Nat} {st : CSt} {S SO SO' : Nat → Prop} {vi : Value} (h : HCod w cb st S) (hh : w.heap[cb]? = some (.cells #[.int .i64 st.most, .int .i64 (leastOf st.sz), .pointer (some ⟨to, 0, none⟩), vi] 52 (0, 0)))
    (hS : ∀ k, SO k → S k ∧ k ≠ cb) (hin : (st.bad = true ∧ vi = .pointer none) ∨ (st.bad = false ∧ ∃ ti SI, vi = .pointer (some ⟨ti, 0, none⟩) ∧ TabP w ti st.mi st.AI SI ∧ ∀ k, SI k → S k ∧ k ≠ cb ∧ ¬ SO k))
    (ho : Off SO w w') (mo : Int) (AO : List (ByteArray × ByteArray)) (hT : TabP w' to mo AO SO') (hS' : ∀ k, SO' k → SO k ∨ w.heap.size ≤ k) :
    HCod w' cb { st with mo := mo, AO := AO } (fun k => S k ∨ SO' k) := by
  have hcs := h.hlt cb h.hcb
  have halp := h.alw.pos
  have hA : w'.heap[1]? = w.heap[1]? := ho.block _ halp (fun hs => h.hal (hS _ hs).1)
  refine ⟨h.alw.kept hA, Or.inl h.hcb, fun k hk => ?_, ?_, to, SO', vi, (ho.block cb hcs (fun hs => (hS cb hs).2 rfl)).trans hh, hT, fun k hk => ⟨Or.inr hk, ?_⟩, ?_⟩
  · rcases hk with hk | hk
    · exact Nat.lt_of_lt_of_le (h.hlt k hk) ho.size
    · exact tabKeeps.lt hT k hk
  · rintro (hk | hk)
    · exact h.hal hk
    · exact tab_al hT hk
  · rcases hS' k hk with h1 | h1
    · exact (hS k h1).2
    · omega
  · rcases hin with h1 | ⟨hb, ti, SI, hv, ht, hd⟩
    · exact Or.inl h1
    · refine Or.inr ⟨hb, ti, SI, hv, tabKeeps.frame ht ho.size (fun k hk => ho.block k (tabKeeps.lt ht k hk) (hd k hk).2.2) hA, fun k hk => ⟨Or.inl (hd k hk).1, (hd k hk).2.1, fun h2 => ?_⟩⟩
      rcases hS' k h2 with h1 | h1
      · exact (hd k hk).2.2 h1
      · have := tabKeeps.lt ht k hk; omega
/-- The least of sizes has turned. -/
theorem HCod.least {w : World} {cb : Nat} {st : CSt} {S : Nat → Prop} (h : HCod w cb st S) (sz : List Int) : HCod (w.setCell ⟨cb, 1, none⟩ (.int .i64 (leastOf sz))) cb { st with sz := sz } S := by
  obtain ⟨h1, h2, h3, h4, to, SO, vi, h5, h6, h7, h8⟩ := h
  have hs : (w.setCell ⟨cb, 1, none⟩ (.int .i64 (leastOf sz))).heap.size = w.heap.size := by simp
  have hk : ∀ k, k ≠ cb → (w.setCell ⟨cb, 1, none⟩ (.int .i64 (leastOf sz))).heap[k]? = w.heap[k]? := fun k hk => Below.heap_setCell w ⟨cb, 1, none⟩ _ k hk
  have hA := hk 1 (fun e => h4 (e ▸ h2))
  refine ⟨h1.kept hA, h2, fun k hk' => by rw [hs]; exact h3 k hk', h4, to, SO, vi, ?_, tabKeeps.frame h6 (by omega) (fun k hk' => hk k (h7 k hk').2) hA, h7, ?_⟩
  · rw [heap_set h5]; rfl
  · rcases h8 with h8 | ⟨hb, ti, SI, hv, ht, hd⟩
    · exact Or.inl h8
    · exact Or.inr ⟨hb, ti, SI, hv, tabKeeps.frame ht (by omega) (fun k hk' => hk k (hd k hk').2.1) hA, hd⟩
set_option maxHeartbeats 4000000 in
theorem hresize_any (cb : Nat) (st : CSt) (S : Nat → Prop) (m : Int) (w : World) (hC : HCod w cb st S) (hF : HFit st) :
    Calls Tryz.prog 8 #[.pointer (some ⟨cb, 0, none⟩), .int .i64 m] w fun e w' => Off S w w' ∧ ∃ S', (∀ k, S' k → S k ∨ w.heap.size ≤ k) ∧
      ((0 ≤ m ∧ m ≤ 4096 ∧ e = .returned .nilIface ∧ HCod w' cb { st with mo := m, AO := st.AO.take (keepN st.AO m st.AO.length), sz := st.sz ++ [m] } S') ∨ (¬ (0 ≤ m ∧ m ≤ 4096) ∧ e = .returned (.iface 53 (.int .i64 1)) ∧ HCod w' cb st S')) := by
  obtain ⟨to, SO, vi, hh, hT, hS, hin⟩ := hC.cells
  have c2 : w.cell? ⟨cb, 2, none⟩ = some (.pointer (some ⟨to, 0, none⟩)) := (cell_at hh 2).trans rfl
  have hrs := tresize to st.mo st.AO SO m w hT hF.out
  have HC := hide hC
  have HH := hide hh
  have HS := hide hS
  have HI := hide hin
  have HF := hide hF
  clear hC hh hS hin hT hF
  go_enter Tryz.func8, Tryz.ntmps8
  go_wp2_with fail
  refine hrs.mono ?_
  rintro e w1 ⟨ho, SO', hS', ⟨h0, h1, rfl, hT1⟩ | ⟨hno, rfl, hT1⟩⟩
  · have HC1 := hide (HC.out.turn HH.out HS.out HI.out ho m _ hT1 hS')
    have hO1 : Off S w w1 := ho.mono (fun k hk => (HS.out k hk).1)
    have hss : ∀ k, S k ∨ SO' k → S k ∨ w.heap.size ≤ k := fun k hk => by
      rcases hk with hk | hk
      · exact Or.inl hk
      · rcases hS' k hk with h | h
        · exact Or.inl (HS.out k h).1
        · exact Or.inr h
    have hh1 : w1.heap[cb]? = some (.cells #[.int .i64 st.most, .int .i64 (leastOf st.sz), .pointer (some ⟨to, 0, none⟩), vi] 52 (0, 0)) := (ho.block cb (HC.out.hlt cb HC.out.hcb) (fun hs => (HS.out cb hs).2 rfl)).trans HH.out
    have k1 : w1.cell? ⟨cb, 1, none⟩ = some (.int .i64 (leastOf st.sz)) := (cell_at hh1 1).trans rfl
    have f1 : w1.frozen? ⟨cb, 1, none⟩ = false := frozen_at hh1 1
    have HSS := hide hss
    have HO1 := hide hO1
    have hneg := leastOf_neg st.sz HF.out.hsz
    have hsn : st.sz ≠ [] → leastOf (st.sz ++ [m]) = if m < leastOf st.sz then m else leastOf st.sz := leastOf_snoc st.sz m
    have hs1 : st.sz = [] → leastOf (st.sz ++ [m]) = m := fun e => by rw [e]; exact leastOf_one m
    have HL := hide (fun (l : Int) (e : leastOf (st.sz ++ [m]) = l) => e ▸ HC1.out.least (st.sz ++ [m]))
    have HL2 : Hid (leastOf (st.sz ++ [m]) = leastOf st.sz → HCod w1 cb { st with mo := m, AO := st.AO.take (keepN st.AO m st.AO.length), sz := st.sz ++ [m] } (fun k => S k ∨ SO' k)) := fun e => by
      obtain ⟨p1, p2, p3, p4, p5, p6, p7, p8, p9⟩ := HC1.out
      exact ⟨p1, p2, p3, p4, p5, p6, p7, by rw [show leastOf ({ st with mo := m, AO := st.AO.take (keepN st.AO m st.AO.length), sz := st.sz ++ [m] } : CSt).sz = leastOf st.sz from e]; exact p8, p9⟩
    have hcase : (leastOf st.sz = -1 ∧ leastOf (st.sz ++ [m]) = m) ∨ (leastOf st.sz ≠ -1 ∧ m < leastOf st.sz ∧ leastOf (st.sz ++ [m]) = m) ∨ (leastOf st.sz ≠ -1 ∧ ¬ m < leastOf st.sz ∧ leastOf (st.sz ++ [m]) = leastOf st.sz) := by
      by_cases e : st.sz = []
      · exact Or.inl ⟨hneg.2 e, hs1 e⟩
      · have hne : leastOf st.sz ≠ -1 := fun h => e (hneg.1 h)
        have := hsn e
        by_cases h : m < leastOf st.sz
        · rw [if_pos h] at this; exact Or.inr (Or.inl ⟨hne, h, this⟩)
        · rw [if_neg h] at this; exact Or.inr (Or.inr ⟨hne, h, this⟩)
    clear hneg hsn hs1 hrs ho hO1 hss hT1 hS' hh1
    generalize leastOf st.sz = l at *
    rcases hcase with ⟨rfl, e1⟩ | ⟨hne, hlt, e1⟩ | ⟨hne, hlt, e1⟩
    · have E := hide e1
      clear e1
      go_wp2
      go_ret
      exact ⟨HO1.out.setCell cb 1 HC.out.hcb _, fun k => S k ∨ SO' k, HSS.out, Or.inl ⟨h0, h1, rfl, HL.out m E.out⟩⟩
    · have hb : (l == -1) = false := by simpa using hne
      have E := hide e1
      clear e1
      go_wp2
      go_ret
      exact ⟨HO1.out.setCell cb 1 HC.out.hcb _, fun k => S k ∨ SO' k, HSS.out, Or.inl ⟨h0, h1, rfl, HL.out m E.out⟩⟩
    · have hb : (l == -1) = false := by simpa using hne
      have E := hide e1
      clear e1
      go_wp2
      go_ret
      exact ⟨HO1.out, fun k => S k ∨ SO' k, HSS.out, Or.inl ⟨h0, h1, rfl, HL2.out E.out⟩⟩
  · have HC1 := hide (HC.out.turn HH.out HS.out HI.out ho st.mo st.AO hT1 hS')
    have hO1 : Off S w w1 := ho.mono (fun k hk => (HS.out k hk).1)
    have hss : ∀ k, S k ∨ SO' k → S k ∨ w.heap.size ≤ k := fun k hk => by
      rcases hk with hk | hk
      · exact Or.inl hk
      · rcases hS' k hk with h | h
        · exact Or.inl (HS.out k h).1
        · exact Or.inr h
    clear hrs ho hT1 hS'
    go_wp2
    go_ret
    exact ⟨hO1, fun k => S k ∨ SO' k, hss, Or.inr ⟨hno, rfl, HC1.out⟩⟩
end Go.Proofs.YtkjfhgoddhigmacGreatDoor
