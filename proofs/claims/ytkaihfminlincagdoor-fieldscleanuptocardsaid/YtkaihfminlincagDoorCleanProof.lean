/-
  PROVED HERE: called with any fields and any name, in any memory, on every schedule, the Go function tollgate/tolllaw5.FieldsClean returns true: what Clean leaves is a part of the list in its order and holds none of the five names; one more connection that names a Token leaves nothing of that name, and no more fields.
  Its condition: the arguments are together of bulk at most 1048576. What the card ties to the program's text: the package-level variables unicode/utf8.acceptRanges, unicode/utf8.first hold what their own initialisers lay (unicode/utf8.first: the pinned table).
-/
import Derived.Test.YtkaihfminlincagDoorCards
import Derived.Test.YtkaihfminlincagDoorTie
import Derived.Test.YtkaihfminlincagDoorYcl7
import Derived.Test.YtkaihfminlincagDoorYbulk
import Derived.ProofKit
import Derived.OpenShut
import Derived.ShutString
import Derived.ChangeOld
import Derived.ChangeSame
import Derived.ChangeVars
import Derived.JoinedOf
import Derived.JoinedCond
import Derived.SizedLaws
import Derived.LaidLaws
import Derived.LaidMore
import Derived.Lay
import Derived.MakeChecks
import Derived.LaidHandle
import Derived.Stop.Joined
import Derived.Deep.DeepHandedRow
namespace Go.Proofs.YtkaihfminlincagDoor.fieldsClean
open Go.ChangeShapes Go.WideShapes Go.ChangeAt Go.RowKit
open Go.ChangeMaps (open_string shut_string)

theorem own : ownKnob Tryd.prog.godebug = none := by kernel_rfl
theorem laidOut : laidOutB Tryd.prog = true := by kernel_rfl

set_option maxRecDepth 100000 in
theorem contract (H : Type) (enc : TypeId × Value → H) (W : World) (base : Nat) (args : Array Value) (ds gs : List (DataW H)) (before : List MemPlace)
    (hval : ∀ (j : Nat) t v, Tryd.f3.params[j]? = some t → args[j]? = some v → Value.okWide Tryd.prog W .any base t v)
    (hW : DataW.Whole enc Tryd.prog Tryd.f3.params.toList Rows.fieldsCleanSpec.vars false W args.toList ds gs before) (hk : Rows.uptoSmall H (ds ++ gs) = true) (_hL : laidMetH Tryd.prog Rows.fieldsCleanUptoRow.laid W) (hsh : W.ShapedOpen Tryd.prog) :
    Calls Tryd.prog 3 args W fun e W' => ∃ v, e = .returned v ∧ Rows.fieldsCleanSpec.post enc Tryd.prog Tryd.f3 false true false false W args v W' := by
  have hW' := hW
  obtain ⟨p, q, hAA, hV, rfl, hfz, hnd⟩ := hW
  have hA : DataW.TrodAll enc Tryd.prog W 0 (fun _ => true) true Tryd.f3.params.toList args.toList ds p := hAA
  rw [Tryd.params3] at hA hval
  obtain ⟨v0, vs0, d0, ds0, p0, q0, hargs, rfl, rfl, h0, r0⟩ := trodAll_cons hA
  obtain ⟨v1, vs1, d1, ds1, p1, q1, rfl, rfl, rfl, h1, r1⟩ := trodAll_cons r0
  obtain ⟨rfl, rfl, rfl⟩ := trodAll_nil r1
  obtain rfl : args = #[v0, v1] := by cases args; simp_all
  obtain ⟨rfl, rfl⟩ := trodVars_none hV
  obtain ⟨ab0, lb0, cb0, rfl⟩ := okWide_slice Tryd.underlying22 (hval 0 22 v0 rfl rfl)
  have kb0 := h0
  have ltb0 : ∀ x ∈ p0, x.block < W.heap.size := by obtain ⟨m, hm⟩ := kb0; exact DataW.trod_lt m _ _ _ hm
  obtain ⟨s1, rfl, rfl, rfl, hmax1⟩ := open_string Tryd.underlying9 (hval 1 9 v1 rfl rfl) h1
  have hbulk : Rows.uptoBulkAll ([d0, .lit (.string s1.data.toList)] : List (DataW H)) ≤ 1048576 := by
    have h := of_decide_eq_true hk
    simpa using h
  simp only [Rows.uptoBulkAll, Rows.uptoBulk] at hbulk
  obtain ⟨L0, hF0, hn0, hl0, hZ0⟩ : ∃ L, FArg W ab0 lb0 cb0 L ∧ (ab0 = none → cb0 = 0) ∧ lb0 ≤ 1048576 ∧ ∀ t, (L.getD t fnone).1.size ≤ 1048576 ∧ (L.getD t fnone).2.size ≤ 1048576 := by
    obtain ⟨fuel, hf⟩ := h0
    obtain ⟨a, len, cap, L, hv, hx⟩ := fields_bulk hf (by show Rows.uptoBulk d0 ≤ _; omega)
    cases hv
    exact ⟨L, hx⟩
  have hs1 : s1.size ≤ 1048576 := by
    have e : s1.data.toList.length = s1.size := by rw [Array.length_toList]; rfl
    omega
  clear hAA
  refine (xcleans_ok ab0 lb0 cb0 L0 s1 W hF0 hn0 (by omega) (fun t => ⟨by have := (hZ0 t).1; omega, by have := (hZ0 t).2; omega⟩) (by omega) (Tryd.laysSplit.s1_3 W hsh)).mono fun e W' ⟨he, bel⟩ => ?_
  subst he
  exact ⟨_, rfl, _, _, _, [], _, [], hW', trodAll_mk1 (shut_bool Tryd.underlying4 _), (trodAll_cons_mk (Below.trod laidOut (by kernel_rfl) (of_decide_eq_true (by kernel_rfl)) kb0 bel ltb0) (trodAll_cons_mk (shut_string Tryd.underlying9 hmax1) trodAll_mk0)), rfl, bel.frame _, fun h => by cases h⟩

set_option maxRecDepth 100000 in
theorem lifted (os : Os) (started : os.Started) (H : Type) (enc : TypeId × Value → H) (F : Stop.Interp) :
    ReturnsInHanded {} Tryd.checked os 3 .any ((Rows.OpenSpec.upto Rows.fieldsCleanSpec).preRow enc Tryd.prog Tryd.f3 Rows.fieldsCleanUptoRow.domain false Rows.fieldsCleanUptoRow.laid) (((Rows.OpenSpec.upto Rows.fieldsCleanSpec).at F).post enc Tryd.prog Tryd.f3 false true false false) := by
  have hx : DataW.whole enc Tryd.prog (((World.laidAll Tryd.prog os Rows.fieldsCleanUptoRow.laid)).forCall (fun _ _ => 0) ⟨#[], #[.slice none 0 0, .string .empty], []⟩).memory Tryd.f3.params.toList Rows.fieldsCleanSpec.vars false (#[.slice none 0 0, .string .empty] : Array Value).toList 8 = some ([.nil, .lit (.string [])], [], []) := by kernel_rfl
  refine returnsInHanded_of_row (C := Tryd.checked) (s := (Rows.OpenSpec.upto Rows.fieldsCleanSpec)) own started (by kernel_rfl) Tryd.func3
    (witness_row_at (enc := enc) (C := Tryd.checked) false (World.laidAll Tryd.prog os Rows.fieldsCleanUptoRow.laid) #[.slice none 0 0, .string .empty] (World.laidAll_os _ _ _) (by kernel_rfl) (by kernel_rfl) (by kernel_rfl)
      (OpenSpec.preRow_of_cond 8 hx (by kernel_rfl) (fun k hk => by cases hk; kernel_rfl) (by kernel_rfl) (by rw [MakeChecks.laidMetH_plain _ _ _ (by kernel_rfl)]; exact laidMet_laidAll _ (by kernel_rfl) (by kernel_rfl)))) ?_
  intro W base args ds gs before hval hW _ hcond hsz hL hsh _
  exact contract H enc W base args ds gs before hval hW (hcond _ rfl) hL hsh

theorem said : Rows.FieldsCleanUptoSaid :=
  OpenClaim.holds_of_cond 3 Tryd.f3 rfl rfl rfl rfl rfl rfl rfl ⟨rfl, rfl, rfl, rfl, rfl⟩ rfl rfl rfl rfl rfl (by kernel_rfl) Tryd.func3 (by kernel_rfl)
    (of_decide_eq_true (by kernel_rfl)) (by unfold Func.isWrapper; first | (rw [if_pos (by decide +kernel)]; kernel_rfl) | (rw [if_neg (by decide +kernel)]; exact ⟨rfl, rfl⟩))
    (fun os started H enc _ F => by rw [OpenClaim.pre_eq_preRow]; exact lifted os started H enc F)

theorem plain (f : FuncId) (fn : Func) (hf : Tryd.pinned.checked.prog.funcNamed "tollgate/tolllaw5.FieldsClean" = some f) (hfn : Tryd.pinned.checked.prog.funcs[f]? = some fn) :
    false = Tryd.pinned.checked.prog.looks [] ∧ ∀ (j : Nat) t, fn.params[j]? = some t → Tryd.pinned.checked.prog.wantsStandIn t = false := by
  obtain rfl : f = 3 := Option.some.inj ((show Tryd.prog.funcNamed "tollgate/tolllaw5.FieldsClean" = some 3 by kernel_rfl).symm.trans hf) |>.symm
  obtain rfl : fn = Tryd.f3 := (Option.some.inj (Tryd.func3.symm.trans hfn)).symm
  refine ⟨by kernel_rfl, fun j t ht => ?_⟩
  rw [Tryd.params3] at ht
  have hm : t = 9 ∨ t = 22 := by have h := Array.mem_of_getElem? ht; simp at h; first | omega | (rcases h with h | h <;> first | exact Or.inl h | exact Or.inr h) | exact h.elim Or.inr (fun h => h.elim Or.inl Or.inr) | exact h.elim Or.inr (fun h => h.elim Or.inl (fun h => h.elim Or.inl Or.inr)) | exact h.elim Or.inr (fun h => h.elim Or.inl (fun h => h.elim Or.inl (fun h => h.elim Or.inr Or.inl))) | (rcases h with h | h | h | h | h <;> subst h <;> simp; done) | (rcases h with h | h | h | h <;> subst h <;> simp; done) | (repeat' (first | exact Or.inl h | exact Or.inr h | refine Or.elim h (fun h => ?_) (fun h => ?_)))
  rcases hm with rfl | rfl
  · exact (show Tryd.prog.wantsStandIn 9 = false by kernel_rfl)
  · exact (show Tryd.prog.wantsStandIn 22 = false by kernel_rfl)
theorem card : Rows.FieldsCleanUptoCardSaid :=
  Claim7.holds_tied_plain_at .later [] _ _ _ _ said (fun _ h => by cases h) (by kernel_rfl) (fun _ h => by cases h) fieldsCleanUpto_row_tie rfl ⟨rfl, rfl⟩ (by kernel_rfl) rfl plain (by kernel_rfl)
end Go.Proofs.YtkaihfminlincagDoor.fieldsClean

namespace Go.Proofs.YtkaihfminlincagDoor
theorem fieldsCleanUpto_holds : Rows.FieldsCleanUptoCardSaid := fieldsClean.card
#print axioms fieldsCleanUpto_holds
end Go.Proofs.YtkaihfminlincagDoor
