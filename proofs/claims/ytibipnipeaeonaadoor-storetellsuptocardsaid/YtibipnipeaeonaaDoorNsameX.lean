/-
  MESSAGES AS LINES: tollsame.Fields, Request, Reply, at like ones. No claim by itself.
-/
import Derived.Deep.QuietTactic
import Derived.BigQuiet
import Derived.Test.YtibipnipeaeonaaDoorNopnX
namespace Go.Proofs.YtibipnipeaeonaaDoor
open Go.RowKit
set_option maxRecDepth 100000
set_option maxHeartbeats 4000000 in
theorem sfields_any (a a2 : Option Addr) (len cap cap2 : Nat) (L : List (ByteArray × ByteArray)) (w : World) (h1 : FArg w a len cap L) (h2 : FArg w a2 len cap2 L) (hlm : len ≤ 4611686018427387904) :
    Calls Tryd.prog 23 #[.slice a len cap, .slice a2 len cap2] w fun e w' => e = .returned (.bool true) ∧ Below w.heap.size w w' := by
  have heq : ∀ (a b : ByteArray) (w : World), (binOp .neq 31 (.agg #[.string a, .string b]) (.agg #[.string a, .string b])).run Tryd.prog w = .ok (.bool false) w := fun a b w => by rw [run_neqF]; simp
  have hgd := eqGuardF
  have H1 : Hid (∀ wx, Below w.heap.size w wx → FArg wx a len cap L) := fun wx hb => h1.below hb
  have H2 : Hid (∀ wx, Below w.heap.size w wx → FArg wx a2 len cap2 L) := fun wx hb => h2.below hb
  clear h1 h2
  go_enter Tryd.func23, Tryd.ntmps23
  go_wp2_with fail
  go_loopw [5] (fun i wr => ∃ k : Nat, i = .int .i64 k ∧ k ≤ len ∧ Below w.heap.size w wr) (fun i _ => len - (intOf i).toNat)
  case atStart => exact ⟨0, rfl, by omega, Below.refl _ _⟩
  case round =>
    obtain ⟨k, rfl, hk, hbel⟩ := hrel
    by_cases hlt : k < len
    · rcases H1.out wr hbel with ⟨h0, _⟩ | ⟨g, off, rfl, hr⟩
      · omega
      rcases H2.out wr hbel with ⟨h0, _⟩ | ⟨g2, off2, rfl, hr2⟩
      · omega
      have c1 := hr.hname k hlt
      have c2 := hr.hvalue k hlt
      have c3 := hr2.hname k hlt
      have c4 := hr2.hvalue k hlt
      have hcap := hr.hcap
      have hcap2 := hr2.hcap
      have hk0 : (0 : Int) ≤ (k : Int) := by omega
      have hk1 : (k : Int) < (len : Int) := by omega
      generalize L.getD k fnone = f at *
      obtain ⟨n, v⟩ := f
      have HBE := hide hbel
      clear hr hr2 hbel
      go_wp2_with fail
      go_quiet (fail)
      go_wp2
      go_roundw
      case rel => exact ⟨k + 1, by go_num, by omega, drewN_below HBE.out _⟩
      case measure => simp [intOf]; omega
    · have hge : ¬ (k : Int) < (len : Int) := by omega
      go_wp2
      go_ret
      exact ⟨rfl, hbel⟩
theorem fds_inj : ∀ {A B : List (ByteArray × ByteArray)}, fdsOf A = fdsOf B → A = B
  | [], [], _ => rfl
  | [], _ :: _, h => by simp [fdsOf] at h
  | _ :: _, [], h => by simp [fdsOf] at h
  | (a, b) :: A, (c, d) :: B, h => by
    simp only [fdsOf, List.map_cons, List.cons.injEq, Prod.mk.injEq] at h
    obtain ⟨⟨h1, h2⟩, h3⟩ := h
    rw [unums_inj h1, unums_inj h2, fds_inj (A := A) (B := B) h3]
theorem Arg.conv {w : World} {a : Option Addr} {len cap : Nat} {Z : List Int} (h : Arg w a len cap Z) : (convert 23 9 (.slice a len cap)).run Tryd.prog w = .ok (.string (strOfNums Z)) w := by
  rcases h with ⟨rfl, rfl⟩ | ⟨g, off, rfl, hr⟩
  · cases a with
    | none => exact run_convert_bytes_nil (P := Tryd.prog) w 23 5 Tryd.underlying23 Tryd.underlying5 0 cap 9 Tryd.underlying9
    | some ad =>
      rw [run_convert_bytes_string w 23 9 5 _ 0 cap Tryd.underlying23 Tryd.underlying5 Tryd.underlying9]
      have hl : (loadCells ad 0).run Tryd.prog w = .ok #[] w := by
        have := run_loadCells_list (P := Tryd.prog) w ad [] (fun j v hj => by simp at hj)
        simpa using this
      simp [Conv.bytesToString, hl]
      rfl
  · exact run_convert_bytes_arg w 23 5 Tryd.underlying23 Tryd.underlying5 g off len cap Z hr.hlen hr.hcell 9 Tryd.underlying9
set_option maxHeartbeats 2000000 in
theorem sreply_any (c : Int) (fa : Option Addr) (fn fc : Nat) (ba : Option Addr) (bn bc : Nat) (fa2 : Option Addr) (fc2 : Nat) (ba2 : Option Addr) (bc2 : Nat) (FL : List (ByteArray × ByteArray)) (B : List Int) (w : World)
    (h1 : FArg w fa fn fc FL) (h2 : FArg w fa2 fn fc2 FL) (h3 : Arg w ba bn bc B) (h4 : Arg w ba2 bn bc2 B) (hm : fn ≤ 4611686018427387904) :
    Calls Tryd.prog 9 #[.agg #[.int .i64 c, .slice fa fn fc, .slice ba bn bc], .agg #[.int .i64 c, .slice fa2 fn fc2, .slice ba2 bn bc2]] w fun e w' => e = .returned (.bool true) ∧ Below w.heap.size w w' := by
  obtain ⟨W1, hW1⟩ : ∃ W1, W1 = (w.alloc (.cells #[.int .i64 c, .slice fa fn fc, .slice ba bn bc] 27)).alloc (.cells #[.int .i64 c, .slice fa2 fn fc2, .slice ba2 bn bc2] 27) := ⟨_, rfl⟩
  have hx0 : (w.alloc (.cells #[.int .i64 c, .slice fa fn fc, .slice ba bn bc] 27)).heap[w.heap.size]? = some (.cells #[.int .i64 c, .slice fa fn fc, .slice ba bn bc] 27 (0, 0)) := heap_alloc_new w _
  have hs0 : (w.alloc (.cells #[.int .i64 c, .slice fa fn fc, .slice ba bn bc] 27)).heap.size = w.heap.size + 1 := by simp
  have hb0 : Below w.heap.size w (w.alloc (.cells #[.int .i64 c, .slice fa fn fc, .slice ba bn bc] 27)) := (Below.refl _ w).alloc (Nat.le_refl _) _
  have hb00 : Below (w.heap.size + 1) (w.alloc (.cells #[.int .i64 c, .slice fa fn fc, .slice ba bn bc] 27)) W1 := by rw [hW1]; exact (Below.refl _ _).alloc (by rw [hs0]; exact Nat.le_refl _) _
  have hbW : Below w.heap.size w W1 := hb0.trans (hb00.mono (by omega))
  have hx1 : W1.heap[w.heap.size]? = some (.cells #[.int .i64 c, .slice fa fn fc, .slice ba bn bc] 27 (0, 0)) := (hb00.block _ (by omega)).trans hx0
  have hx2 : W1.heap[w.heap.size + 1]? = some (.cells #[.int .i64 c, .slice fa2 fn fc2, .slice ba2 bn bc2] 27 (0, 0)) := by
    rw [hW1]
    have := heap_alloc_new (w.alloc (.cells #[.int .i64 c, .slice fa fn fc, .slice ba bn bc] 27)) (.cells #[.int .i64 c, .slice fa2 fn fc2, .slice ba2 bn bc2] 27 (0, 0))
    rw [hs0] at this
    exact this
  have hsW : W1.heap.size = w.heap.size + 2 := by rw [hW1]; simp
  have HF := vl (sfields_any fa fa2 fn fc fc2 FL W1 (h1.below hbW) (h2.below hbW) hm)
  have H3 := vl h3
  have H4 := vl h4
  have HBW := vl hbW
  have HX1 := vl hx1
  have HX2 := vl hx2
  have HSW := vl hsW
  have HW1 := vl hW1
  clear h1 h2 h3 h4 hbW hx1 hx2 hsW hW1 hx0 hs0 hb0 hb00
  go_enter Tryd.func9, Tryd.ntmps9
  go_wp2_with fail
  rw [← HW1.out]
  refine HF.out.mono ?_
  rintro e w1 ⟨rfl, hb⟩
  have e1 := (hb.block w.heap.size (by have := HSW.out; omega)).trans HX1.out
  have e2 := (hb.block (w.heap.size + 1) (by have := HSW.out; omega)).trans HX2.out
  have c0 : w1.cell? ⟨w.heap.size, 0, none⟩ = some (.int .i64 c) := by simp only [World.cell?, e1]; rfl
  have d0 : w1.cell? ⟨w.heap.size + 1, 0, none⟩ = some (.int .i64 c) := by simp only [World.cell?, e2]; rfl
  have c1 : w1.cell? ⟨w.heap.size, 2, none⟩ = some (.slice ba bn bc) := by simp only [World.cell?, e1]; rfl
  have d1 : w1.cell? ⟨w.heap.size + 1, 2, none⟩ = some (.slice ba2 bn bc2) := by simp only [World.cell?, e2]; rfl
  have HB : Vl (Below w.heap.size w w1) := HBW.out.trans (hb.mono HBW.out.size)
  have cv1 := (H3.out.below HB.out).conv
  have cv2 := (H4.out.below HB.out).conv
  clear hb HF e1 e2 HX1 HX2 HSW HW1 HBW
  go_wp2
  go_ret
  exact ⟨by first | rfl | simp, HB.out⟩
end Go.Proofs.YtibipnipeaeonaaDoor
