/-
  PROVED HERE: called with any frame, any stream, any block, with end or without, and any settings, in any memory, on every schedule, the Go function tollgate/tolllaw1.FrameChecks returns true: what is wrong with any frame, any block as frames of a head, and any settings are what the document says.
  Its condition: the arguments are together of bulk at most 1048576. What the card ties to the program's text: the package-level variable errors.errorType holds what its own initialiser lays.
-/
import Derived.Test.YtdlaaollamgplacDoorCards
import Derived.Test.YtdlaaollamgplacDoorTie
import Derived.Test.YtdlaaollamgplacDoorFchecks
import Derived.Test.YtdlaaollamgplacDoorPopen
import Derived.ProofKit
import Derived.OpenShut
import Derived.ShutString
import Derived.ChangeOld
import Derived.ChangeSame
import Derived.ChangeVars
import Derived.JoinedOf
import Derived.JoinedCond
import Derived.SizedLaws
import Derived.LaidLaws
import Derived.LaidHandle
import Derived.Stop.Joined
import Derived.Deep.DeepHandedRow
namespace Go.Proofs.YtdlaaollamgplacDoor.frameChecks
open Go.ChangeShapes Go.WideShapes Go.ChangeAt Go.RowKit

theorem own : ownKnob Tryd.prog.godebug = none := by kernel_rfl
theorem laidOut : laidOutB Tryd.prog = true := by kernel_rfl
theorem bulk_one {H : Type} (d : DataW H) : 1 ≤ Rows.uptoBulk d := by
  cases d with
  | lit l => cases l <;> simp [Rows.uptoBulk]
  | nil => simp [Rows.uptoBulk]
  | ptr d => simp [Rows.uptoBulk]
  | slice elems spare => simp [Rows.uptoBulk]
  | agg parts => simp [Rows.uptoBulk]
  | iface t d => simp [Rows.uptoBulk]
  | map entries => simp [Rows.uptoBulk]
  | held h => simp [Rows.uptoBulk]
theorem bulk_length {H : Type} (l : List (DataW H)) : l.length ≤ Rows.uptoBulkAll l := by
  induction l with
  | nil => simp [Rows.uptoBulkAll]
  | cons x r ih => have := bulk_one x; simp only [Rows.uptoBulkAll, List.length_cons]; omega
theorem bulk_slice {H : Type} (elems spare : List (DataW H)) : elems.length + spare.length + 1 ≤ Rows.uptoBulk (.slice elems spare) := by
  have h1 := bulk_length elems
  have h2 := bulk_length spare
  simp only [Rows.uptoBulk]
  omega
theorem bulk_agg4 {H : Type} (x0 x1 x2 : DataW H) (elems spare : List (DataW H)) : elems.length ≤ Rows.uptoBulk (.agg [x0, x1, x2, .slice elems spare]) := by
  have h1 := bulk_length elems
  simp only [Rows.uptoBulk, Rows.uptoBulkAll]
  omega
theorem et : Tryd.prog.globalNamed "errors.errorType" = some 0 := by kernel_rfl
theorem rt : (Tryd.prog.cutTypes.find? (·.1 == "internal/reflectlite.rtype")).map (·.2) = some 143 := by kernel_rfl
theorem oneRow : ((List.range 203).filter fun t => Tryd.prog.rowNamed t [101, 114, 114, 111, 114]) = [26] := by kernel_rfl
theorem size : Tryd.prog.types.size = 203 := by kernel_rfl
/-- What the row's list gives a walk: the variable's one cell. -/
theorem handle_of_laid {W : World} (h : laidMetH Tryd.prog Rows.frameChecksUptoRow.laid W) : Laid W := by
  have h' : laidMet Tryd.prog [] W ∧ handlesMet Tryd.prog [("errors.errorType", Rows.laid_errors_errorType)] W := h
  obtain ⟨name, u, ty, e1, e2, e3, e4, e5⟩ := h'.2 _ (List.mem_singleton.2 rfl)
  have en : name = [101, 114, 114, 111, 114] := (Option.some.inj e1).symm
  subst en
  obtain rfl := Option.some.inj (rt.symm.trans e2)
  have hm : ty ∈ (List.range 203).filter fun t => Tryd.prog.rowNamed t [101, 114, 114, 111, 114] := List.mem_filter.2 ⟨List.mem_range.2 (by rw [← size]; exact e3), e4⟩
  rw [oneRow] at hm
  obtain rfl := List.mem_singleton.1 hm
  have hh : typeHandle Tryd.prog 26 = .pointer (some ⟨3, 26, none⟩) := by kernel_rfl
  rw [hh] at e5
  unfold Laid
  simpa using World.var?_cell et e5 0

set_option maxRecDepth 100000 in
theorem contract (H : Type) (enc : TypeId × Value → H) (W : World) (base : Nat) (args : Array Value) (ds gs : List (DataW H)) (before : List MemPlace)
    (hval : ∀ (j : Nat) t v, Tryd.f6.params[j]? = some t → args[j]? = some v → Value.okWide Tryd.prog W .any base t v)
    (hW : DataW.Whole enc Tryd.prog Tryd.f6.params.toList Rows.frameChecksSpec.vars false W args.toList ds gs before) (hk : Rows.uptoSmall H (ds ++ gs) = true) (hsz : (DataW.weightsEach Tryd.prog (Tryd.f6.params.toList ++ Rows.frameChecksSpec.plain.varTypes Tryd.prog) (ds ++ gs)).all (· ≤ reachBytes) = true) (hL : laidMetH Tryd.prog Rows.frameChecksUptoRow.laid W) :
    Calls Tryd.prog 6 args W fun e W' => ∃ v, e = .returned v ∧ Rows.frameChecksSpec.post enc Tryd.prog Tryd.f6 false true false false W args v W' := by
  have hW' := hW
  obtain ⟨p, q, hAA, hV, rfl, hfz, hnd⟩ := hW
  have hA : DataW.TrodAll enc Tryd.prog W 0 (fun _ => true) true Tryd.f6.params.toList args.toList ds p := hAA
  rw [Tryd.params6] at hA hval hsz
  obtain ⟨v0, vs0, d0, ds0, p0, q0, hargs, rfl, rfl, h0, r0⟩ := trodAll_cons hA
  obtain ⟨v1, vs1, d1, ds1, p1, q1, rfl, rfl, rfl, h1, r1⟩ := trodAll_cons r0
  obtain ⟨v2, vs2, d2, ds2, p2, q2, rfl, rfl, rfl, h2, r2⟩ := trodAll_cons r1
  obtain ⟨v3, vs3, d3, ds3, p3, q3, rfl, rfl, rfl, h3, r3⟩ := trodAll_cons r2
  obtain ⟨v4, vs4, d4, ds4, p4, q4, rfl, rfl, rfl, h4, r4⟩ := trodAll_cons r3
  obtain ⟨rfl, rfl, rfl⟩ := trodAll_nil r4
  obtain rfl : args = #[v0, v1, v2, v3, v4] := by cases args; simp_all
  obtain ⟨rfl, rfl⟩ := trodVars_none hV
  have kb0 := h0
  have ltb0 : ∀ x ∈ p0, x.block < W.heap.size := by obtain ⟨m, hm⟩ := kb0; exact DataW.trod_lt m _ _ _ hm
  obtain ⟨a1, rfl, rfl, rfl, w1⟩ := open_int Tryd.underlying3 (hval 1 3 v1 rfl rfl) h1
  obtain ⟨ab2, lb2, cb2, rfl⟩ := okWide_slice Tryd.underlying29 (hval 2 29 v2 rfl rfl)
  have kb2 := h2
  have ltb2 : ∀ x ∈ p2, x.block < W.heap.size := by obtain ⟨m, hm⟩ := kb2; exact DataW.trod_lt m _ _ _ hm
  obtain ⟨t3, rfl, rfl, rfl⟩ := open_bool Tryd.underlying4 (hval 3 4 v3 rfl rfl) h3
  obtain ⟨ab4, lb4, cb4, rfl⟩ := okWide_slice Tryd.underlying54 (hval 4 54 v4 rfl rfl)
  have kb4 := h4
  have ltb4 : ∀ x ∈ p4, x.block < W.heap.size := by obtain ⟨m, hm⟩ := kb4; exact DataW.trod_lt m _ _ _ hm
  have hbulk : Rows.uptoBulkAll ([d0, .lit (.int .i64 a1), d2, .lit (.bool t3), d4] : List (DataW H)) ≤ 1048576 := by
    have h := of_decide_eq_true hk
    simpa using h
  simp only [Rows.uptoBulkAll, Rows.uptoBulk] at hbulk
  obtain ⟨fk0, ff0, fs0, fa0, fn0, fc0, fZ0, rfl, hB0, hl0, hZl0, hZb0⟩ := frame_open hsz (j := 0) rfl rfl (hval 0 43 v0 rfl rfl) h0
  have hu0 : fn0 ≤ 1048576 := by
    rcases frame_bulk (hval 0 43 _ rfl rfl) h0 with hz | ⟨x0, x1, x2, el, sp, hd, hl⟩
    · omega
    · have h1 := bulk_agg4 x0 x1 x2 el sp
      rw [← hd] at h1
      omega
  obtain ⟨Z2, hA2, hnil2, hl2, hZl2, hZb2, hcm2⟩ : ∃ Z, Arg W ab2 lb2 cb2 Z ∧ (ab2 = none → lb2 = 0 ∧ cb2 = 0) ∧ lb2 ≤ 1048576 ∧ Z.length = lb2 ∧ (∀ c ∈ Z, 0 ≤ c ∧ c < 256) ∧ cb2 ≤ maxLen := by
    obtain ⟨fuel, hf⟩ := h2
    rcases open_ints Tryd.underlying29 Tryd.underlying5 (by kernel_rfl) hf with ⟨hcs, _⟩ | ⟨x, l, c, zs, hcs, _, hl, hm, hz, hx, hcell, hwz⟩
    · simp [Value.cells] at hcs
      obtain ⟨rfl, rfl, rfl⟩ := hcs
      exact ⟨[], Or.inl ⟨rfl, rfl⟩, fun _ => ⟨rfl, rfl⟩, by decide, rfl, (fun c hc => by cases hc), by decide⟩
    · simp [Value.cells] at hcs
      obtain ⟨rfl, rfl, rfl⟩ := hcs
      have hd : d2 = .slice (lits .u8 (zs.take lb2)) (lits .u8 (zs.drop lb2)) := congrArg Prod.fst hx
      have hzl : zs.length = cb2 := by simpa using hz
      rw [hd] at hbulk
      have h2 := bulk_slice (H := H) (lits .u8 (zs.take lb2)) (lits .u8 (zs.drop lb2))
      simp only [lits, List.length_map, List.length_take, List.length_drop] at h2 hbulk
      simp only [Rows.uptoBulk] at h2 hbulk
      refine ⟨zs.take lb2, arg_of hzl hl hm hcell hwz, fun h => by simp at h, by omega, by rw [List.length_take]; omega, fun c hc => ?_, hm⟩
      have hw := hwz c (List.take_subset _ _ hc)
      simp [Lit.wf, IntKind.min, IntKind.max, IntKind.bits, IntKind.signed] at hw
      omega
  obtain ⟨PP4, hP4, hpd4⟩ : ∃ P, PArg W ab4 lb4 cb4 P ∧ (lb4 = 0 ∨ ∃ elems spare, d4 = .slice elems spare ∧ elems.length = lb4) := by
    obtain ⟨fuel, hf⟩ := h4
    exact pairs_open hf
  have hu4 : lb4 ≤ 1048576 := by
    rcases hpd4 with hz | ⟨el, sp, hd, hl⟩
    · omega
    · have h1 := bulk_slice (H := H) el sp
      rw [← hd] at h1
      omega
  have hg := handle_of_laid hL
  clear hAA
  refine (fchecks_ok fk0 ff0 fs0 fa0 fn0 fc0 fZ0 a1 ab2 lb2 cb2 Z2 t3 ab4 lb4 cb4 PP4 W hg hB0 hZl0 hA2 hZl2 (fun _ => hcm2) hP4 hu0 hl2 hu4).mono fun e W' ⟨he, bel⟩ => ?_
  subst he
  exact ⟨_, rfl, _, _, _, [], _, [], hW', trodAll_mk1 (shut_bool Tryd.underlying4 _), (trodAll_cons_mk (Below.trod laidOut (by kernel_rfl) (of_decide_eq_true (by kernel_rfl)) kb0 bel ltb0) (trodAll_cons_mk (shut_int Tryd.underlying3 w1) (trodAll_cons_mk (Below.trod laidOut (by kernel_rfl) (of_decide_eq_true (by kernel_rfl)) kb2 bel ltb2) (trodAll_cons_mk (shut_bool Tryd.underlying4 _) (trodAll_cons_mk (Below.trod laidOut (by kernel_rfl) (of_decide_eq_true (by kernel_rfl)) kb4 bel ltb4) trodAll_mk0))))), rfl, bel.frame _, fun h => by cases h⟩

set_option maxRecDepth 100000 in
theorem lifted (os : Os) (started : os.Started) (H : Type) (enc : TypeId × Value → H) (F : Stop.Interp) :
    ReturnsInHanded {} Tryd.checked os 6 .any ((Rows.OpenSpec.upto Rows.frameChecksSpec).preRow enc Tryd.prog Tryd.f6 Rows.frameChecksUptoRow.domain false Rows.frameChecksUptoRow.laid) (((Rows.OpenSpec.upto Rows.frameChecksSpec).at F).post enc Tryd.prog Tryd.f6 false true false false) := by
  have hx : DataW.whole enc Tryd.prog ((({ World.holding Tryd.prog os ⟨#[], #[], []⟩ with heap := (World.holding Tryd.prog os ⟨#[], #[], []⟩).heap.modify 0 fun
      | .cells _ t frozen => .cells #[.iface 143 (.agg #[.pointer (some ⟨3, 26, none⟩)])] t frozen
      | o => o })).forCall (fun _ _ => 0) ⟨#[], #[.agg #[.int .i64 0, .int .i64 0, .int .i64 0, .slice none 0 0], .int .i64 0, .slice none 0 0, .bool false, .slice none 0 0], []⟩).memory Tryd.f6.params.toList Rows.frameChecksSpec.vars false (#[.agg #[.int .i64 0, .int .i64 0, .int .i64 0, .slice none 0 0], .int .i64 0, .slice none 0 0, .bool false, .slice none 0 0] : Array Value).toList 8 = some ([.agg [.lit (.int .i64 0), .lit (.int .i64 0), .lit (.int .i64 0), .nil], .lit (.int .i64 0), .nil, .lit (.bool false), .nil], [], []) := by kernel_rfl
  refine returnsInHanded_of_row (C := Tryd.checked) (s := (Rows.OpenSpec.upto Rows.frameChecksSpec)) own started (by kernel_rfl) Tryd.func6
    (witness_row_at (enc := enc) (C := Tryd.checked) false ({ World.holding Tryd.prog os ⟨#[], #[], []⟩ with heap := (World.holding Tryd.prog os ⟨#[], #[], []⟩).heap.modify 0 fun
      | .cells _ t frozen => .cells #[.iface 143 (.agg #[.pointer (some ⟨3, 26, none⟩)])] t frozen
      | o => o }) #[.agg #[.int .i64 0, .int .i64 0, .int .i64 0, .slice none 0 0], .int .i64 0, .slice none 0 0, .bool false, .slice none 0 0] rfl (by kernel_rfl) (by kernel_rfl) (by kernel_rfl)
      (OpenSpec.preRow_of_cond 8 hx (by kernel_rfl) (fun k hk => by cases hk; kernel_rfl) (by kernel_rfl) (laidMetH_of_parts (laidMet_nil _ _) (by kernel_rfl)))) ?_
  intro W base args ds gs before hval hW _ hcond hsz hL _ _
  exact contract H enc W base args ds gs before hval hW (hcond _ rfl) hsz hL

theorem said : Rows.FrameChecksUptoSaid :=
  OpenClaim.holds_of_cond 6 Tryd.f6 rfl rfl rfl rfl rfl rfl rfl ⟨rfl, rfl, rfl, rfl, rfl⟩ rfl rfl rfl rfl rfl (by kernel_rfl) Tryd.func6 (by kernel_rfl)
    (of_decide_eq_true (by kernel_rfl)) (by unfold Func.isWrapper; first | (rw [if_pos (by decide +kernel)]; kernel_rfl) | (rw [if_neg (by decide +kernel)]; exact ⟨rfl, rfl⟩))
    (fun os started H enc _ F => by rw [OpenClaim.pre_eq_preRow]; exact lifted os started H enc F)

theorem plain (f : FuncId) (fn : Func) (hf : Tryd.pinned.checked.prog.funcNamed "tollgate/tolllaw1.FrameChecks" = some f) (hfn : Tryd.pinned.checked.prog.funcs[f]? = some fn) :
    true = Tryd.pinned.checked.prog.looks [] ∧ ∀ (j : Nat) t, fn.params[j]? = some t → Tryd.pinned.checked.prog.wantsStandIn t = false := by
  obtain rfl : f = 6 := Option.some.inj ((show Tryd.prog.funcNamed "tollgate/tolllaw1.FrameChecks" = some 6 by kernel_rfl).symm.trans hf) |>.symm
  obtain rfl : fn = Tryd.f6 := (Option.some.inj (Tryd.func6.symm.trans hfn)).symm
  refine ⟨by kernel_rfl, fun j t ht => ?_⟩
  rw [Tryd.params6] at ht
  have hm : t = 3 ∨ t = 4 ∨ t = 29 ∨ t = 43 ∨ t = 54 := by have h := Array.mem_of_getElem? ht; simp at h; first | omega | (rcases h with h | h <;> first | exact Or.inl h | exact Or.inr h) | exact h.elim Or.inr (fun h => h.elim Or.inl Or.inr) | exact h.elim Or.inr (fun h => h.elim Or.inl (fun h => h.elim Or.inl Or.inr)) | exact h.elim Or.inr (fun h => h.elim Or.inl (fun h => h.elim Or.inl (fun h => h.elim Or.inr Or.inl))) | (rcases h with h | h | h | h | h <;> subst h <;> simp; done) | (rcases h with h | h | h | h <;> subst h <;> simp; done) | (repeat' (first | exact Or.inl h | exact Or.inr h | refine Or.elim h (fun h => ?_) (fun h => ?_)))
  rcases hm with rfl | rfl | rfl | rfl | rfl
  · exact (show Tryd.prog.wantsStandIn 3 = false by kernel_rfl)
  · exact (show Tryd.prog.wantsStandIn 4 = false by kernel_rfl)
  · exact (show Tryd.prog.wantsStandIn 29 = false by kernel_rfl)
  · exact (show Tryd.prog.wantsStandIn 43 = false by kernel_rfl)
  · exact (show Tryd.prog.wantsStandIn 54 = false by kernel_rfl)
theorem card : Rows.FrameChecksUptoCardSaid :=
  Claim7.holds_tied_plain_at .later [] _ _ _ _ said (fun _ h => by cases h) (by kernel_rfl) (fun _ h => by cases h) frameChecksUpto_row_tie rfl ⟨rfl, rfl⟩ (by kernel_rfl) rfl plain (by kernel_rfl)
end Go.Proofs.YtdlaaollamgplacDoor.frameChecks

namespace Go.Proofs.YtdlaaollamgplacDoor
theorem frameChecksUpto_holds : Rows.FrameChecksUptoCardSaid := frameChecks.card
#print axioms frameChecksUpto_holds
end Go.Proofs.YtdlaaollamgplacDoor
