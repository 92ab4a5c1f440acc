/-
  DERIVED: THE SHELF's CONTRACTS AT THIS DUMP, IN PLAIN WORDS (tools/lay-plain.mjs out of 'YtajdlnpaiicclaaIsrS.lean', which tools/lay-shelf.mjs wrote): THE SAME DECLARATIONS UNDER THE SAME NAMES: 'import', 'namespace', 'open', 'def', 'theorem' AND NOTHING ELSE: no command of the shelf's: FOR A HAND-IN. Each laying: the table of numbers ('.._ren') and one theorem, a field a fact of the dump's own or the kernel's comparison; each contract: ONE APPLICATION.
-/
import Derived.Shelf.SortM.Plain
import Derived.Shelf.SortM.SortNone
import Derived.Test.YtajdlnpaiicclaaProg
namespace Go.Proofs
open Go.Shelf
def Try.isort_ren : Go.Shelf.Ren := ⟨fun | 5 => 9 | 8 => 13 | 7 => 12 | 19 => 23 | 20 => 24 | 10 => 14 | 11 => 15 | 12 => 16 | 13 => 17 | 14 => 18 | 15 => 19 | 16 => 20 | 17 => 21 | 18 => 22 | 30 => 25 | 31 => 26 | 32 => 27 | 33 => 28 | 34 => 29 | 35 => 30 | 40 => 31 | n => n, fun | 23 => 22 | 25 => 3 | 3 => 3 | 32 => 39 | 22 => 22 | 0 => 0 | 44 => 49 | 46 => 51 | 4 => 4 | 36 => 42 | 35 => 41 | 41 => 46 | 5 => 5 | 9 => 9 | 53 => 52 | 57 => 56 | 63 => 58 | 64 => 59 | n => n, fun | n => n⟩
theorem Try.isort : Go.Proofs.SlLaysM.n5 Try.prog Try.isort_ren := {
  mixed := by kernel_rfl
  f5 := ⟨Try.f9.name, by decide, Try.func9.trans (congrArg some (by kernel_rfl))⟩
  f7 := ⟨Try.f12.name, by decide, Try.func12.trans (congrArg some (by kernel_rfl))⟩
  f8 := Try.func13.trans (congrArg some (by kernel_rfl))
  f10 := ⟨Try.f14.name, by decide, Try.func14.trans (congrArg some (by kernel_rfl))⟩
  f11 := ⟨Try.f15.name, by decide, Try.func15.trans (congrArg some (by kernel_rfl))⟩
  f12 := ⟨Try.f16.name, by decide, Try.func16.trans (congrArg some (by kernel_rfl))⟩
  f13 := ⟨Try.f17.name, by decide, Try.func17.trans (congrArg some (by kernel_rfl))⟩
  f14 := ⟨Try.f18.name, by decide, Try.func18.trans (congrArg some (by kernel_rfl))⟩
  f15 := ⟨Try.f19.name, by decide, Try.func19.trans (congrArg some (by kernel_rfl))⟩
  f16 := ⟨Try.f20.name, by decide, Try.func20.trans (congrArg some (by kernel_rfl))⟩
  f17 := ⟨Try.f21.name, by decide, Try.func21.trans (congrArg some (by kernel_rfl))⟩
  f18 := ⟨Try.f22.name, by decide, Try.func22.trans (congrArg some (by kernel_rfl))⟩
  f19 := Try.func23.trans (congrArg some (by kernel_rfl))
  f20 := Try.func24.trans (congrArg some (by kernel_rfl))
  f30 := ⟨Try.f25.name, by decide, Try.func25.trans (congrArg some (by kernel_rfl))⟩
  f31 := Try.func26.trans (congrArg some (by kernel_rfl))
  f32 := Try.func27.trans (congrArg some (by kernel_rfl))
  f33 := ⟨Try.f28.name, by decide, Try.func28.trans (congrArg some (by kernel_rfl))⟩
  f34 := ⟨Try.f29.name, by decide, Try.func29.trans (congrArg some (by kernel_rfl))⟩
  f35 := ⟨Try.f30.name, by decide, Try.func30.trans (congrArg some (by kernel_rfl))⟩
  f40 := ⟨Try.f31.name, by decide, Try.func31.trans (congrArg some (by kernel_rfl))⟩
  t0 := Try.underlying0
  a0 := Try.isAgg0
  z0 := Try.sizeOf0
  v0 := Try.zeroValue0
  t3 := Try.underlying3
  a3 := Try.isAgg3
  z3 := Try.sizeOf3
  v3 := Try.zeroValue3
  t4 := Try.underlying4
  a4 := Try.isAgg4
  z4 := Try.sizeOf4
  v4 := Try.zeroValue4
  t5 := Try.underlying5
  a5 := Try.isAgg5
  z5 := Try.sizeOf5
  v5 := Try.zeroValue5
  t9 := Try.underlying9
  a9 := Try.isAgg9
  z9 := Try.sizeOf9
  v9 := Try.zeroValue9
  t22 := Try.underlying22
  a22 := Try.isAgg22
  z22 := Try.sizeOf22
  v22 := Try.zeroValue22
  t23 := Try.underlying22
  a23 := Try.isAgg22
  z23 := Try.sizeOf22
  v23 := Try.zeroValue22
  t25 := Try.underlying3
  a25 := Try.isAgg3
  z25 := Try.sizeOf3
  v25 := Try.zeroValue3
  t32 := Try.underlying39
  a32 := Try.isAgg39
  z32 := Try.sizeOf39
  v32 := Try.zeroValue39
  t35 := Try.underlying41
  a35 := Try.isAgg41
  z35 := Try.sizeOf41
  v35 := Try.zeroValue41
  t36 := Try.underlying42
  a36 := Try.isAgg42
  z36 := Try.sizeOf42
  v36 := Try.zeroValue42
  t41 := Try.underlying46
  a41 := Try.isAgg46
  z41 := Try.sizeOf46
  v41 := Try.zeroValue46
  t44 := Try.underlying49
  a44 := Try.isAgg49
  z44 := Try.sizeOf49
  v44 := Try.zeroValue49
  t46 := Try.underlying51
  a46 := Try.isAgg51
  z46 := Try.sizeOf51
  v46 := Try.zeroValue51
  t53 := Try.underlying52
  a53 := Try.isAgg52
  z53 := Try.sizeOf52
  v53 := Try.zeroValue52
  t57 := Try.underlying56
  a57 := Try.isAgg56
  z57 := Try.sizeOf56
  v57 := Try.zeroValue56
  t63 := Try.underlying58
  a63 := Try.isAgg58
  z63 := Try.sizeOf58
  v63 := Try.zeroValue58
  t64 := Try.underlying59
  a64 := Try.isAgg59
  z64 := Try.sizeOf59
  v64 := Try.zeroValue59 }
end Go.Proofs
