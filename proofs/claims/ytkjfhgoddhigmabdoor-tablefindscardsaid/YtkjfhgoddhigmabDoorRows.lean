/-
  NARROWER THAN 'FOR EVERY INPUT', by the rows' own cells (each row's printed sentence says how): TablePlays: laid · TableKeeps: laid · TableFinds: laid · HeadTexts: laid.
  DERIVED. THE GIVEN ROWS OF THIS SEAT. 4 by the template 'for every input the law returns true; each argument reads behind the call as it read before'; 0 by the template 'total and deterministic' (their statements: YtkjfhgoddhigmabDoorTotals.lean).
  GIVEN WITH THE SEED: the statements are not yours to turn. If you find one false, say at which input.
  Laid BY PROGRAM, IN A SANDBOX (cutbox-rows.mjs): the forced cells as the released guide's own fill.sh prints them over the translation f56b03b64036e9e5… (all of the seat's roots in one cut). By AI agents, Wed Nov 11 2026. No macro, syntax, notation, axiom, sorry.
-/
import Derived.Test.YtkjfhgoddhigmabDoorChecked
import GoSem.Claim
import GoSem.ClaimJoined
import GoSem.ClaimMapViews
import Derived.JoinedTies
import Derived.KernelRfl
namespace Go.Proofs.YtkjfhgoddhigmabDoor
/- THE CELL 'sum', in the pinned program and in every row, IS THE sha256 OF THE DUMP (.gsa) THAT YtkjfhgoddhigmabDoorProg.lean LOADS. Nothing in Lean hashes anything: it is a label: what it is worth is what the hold of that sum in a sandbox is worth. -/
noncomputable def Tryd.pinned : Pinned := { name := "ytkjfhgoddhigmabdoor", sum := "f56b03b64036e9e579b1500ba68022f52d11c00c49894ee8f4812341e4b4fe09", checked := Tryd.checked }
namespace Rows
def none {H : Type} : Left H := { results := [], args := [] }

/- WHAT THE LISTED PACKAGE-LEVEL VARIABLES READ AS WHEN THE CALL BEGINS. Each datum BY PROGRAM (the guide's laid-datum.mjs) off the statement by which the dump's own 'gosem.cut.vars' lays the variable. In a bare row this is a premise. The card (YtkjfhgoddhigmabDoorCards.lean) ties it to the program's text. -/
def laid_errors_errorType {H : Type} : DataW H := .iface "internal/reflectlite.rtype" (.agg [.ptr (.lit (.string [101, 114, 114, 111, 114]))])
def laid_tollgate_table_always {H : Type} : DataW H := .agg [.agg [.lit (.string [58, 109, 101, 116, 104, 111, 100]), .lit (.string [71, 69, 84])], .agg [.lit (.string [58, 109, 101, 116, 104, 111, 100]), .lit (.string [80, 79, 83, 84])], .agg [.lit (.string [58, 112, 97, 116, 104]), .lit (.string [47])], .agg [.lit (.string [58, 104, 111, 115, 116]), .lit (.string [])], .agg [.lit (.string [58, 99, 111, 100, 101]), .lit (.string [50, 48, 48])], .agg [.lit (.string [58, 99, 111, 100, 101]), .lit (.string [52, 48, 52])], .agg [.lit (.string [108, 101, 110, 103, 116, 104]), .lit (.string [])], .agg [.lit (.string [116, 121, 112, 101]), .lit (.string [116, 101, 120, 116])], .agg [.lit (.string [99, 111, 111, 107, 105, 101]), .lit (.string [])], .agg [.lit (.string [97, 99, 99, 101, 112, 116]), .lit (.string [42])], .agg [.lit (.string [100, 97, 116, 101]), .lit (.string [])], .agg [.lit (.string [115, 101, 114, 118, 101, 114]), .lit (.string [])]]

/-- 'tolllaw1.TablePlays': WHATEVER THE INPUT: true; the input reads as it did. -/
def tablePlaysSpec : ChangeSpec := { name := "tablePlays", fn := fun _ => fun
  | [d1, d2, d3] => { results := [.lit (.bool true)], args := [d1, d2, d3] }
  | _ => none }
def tablePlaysRow : OpenClaim := { program := "ytkjfhgoddhigmabdoor", sum := "f56b03b64036e9e579b1500ba68022f52d11c00c49894ee8f4812341e4b4fe09", func := "tollgate/tolllaw1.TablePlays", spec := "tablePlays", inPlace := ["internal/reflectlite.ValueOf", "(internal/reflectlite.Value).Type", "(internal/reflectlite.Value).IsNil", "internal/reflectlite.TypeOf", "(internal/reflectlite.Value).Elem", "(internal/reflectlite.Value).Set", "slices.overlaps[tollgate/api.Field]"], unfollowed := true, recurses := true, named := ["errors.errorType", "tollgate/table.always"], apart := false, laid := [("errors.errorType", laid_errors_errorType), ("tollgate/table.always", laid_tollgate_table_always)] }
def TablePlaysSaid : Prop := tablePlaysRow.holds Tryd.pinned (OpenSpec.ofChange tablePlaysSpec)

/-- ITS FALSE NEIGHBOUR: 'it returns false'. Refute it at one input. -/
def tablePlaysWrong : ChangeSpec := { name := "tablePlays", fn := fun _ => fun
  | [d1, d2, d3] => { results := [.lit (.bool false)], args := [d1, d2, d3] }
  | _ => none }
def TablePlaysWrongFalsely : Prop := tablePlaysRow.holds Tryd.pinned (OpenSpec.ofChange tablePlaysWrong)

/-- 'tolllaw1.TableKeeps': WHATEVER THE INPUT: true; the input reads as it did. -/
def tableKeepsSpec : ChangeSpec := { name := "tableKeeps", fn := fun _ => fun
  | [d1, d2] => { results := [.lit (.bool true)], args := [d1, d2] }
  | _ => none }
def tableKeepsRow : OpenClaim := { program := "ytkjfhgoddhigmabdoor", sum := "f56b03b64036e9e579b1500ba68022f52d11c00c49894ee8f4812341e4b4fe09", func := "tollgate/tolllaw1.TableKeeps", spec := "tableKeeps", inPlace := ["slices.overlaps[tollgate/api.Field]"], named := ["tollgate/table.always"], apart := false, laid := [("tollgate/table.always", laid_tollgate_table_always)] }
def TableKeepsSaid : Prop := tableKeepsRow.holds Tryd.pinned (OpenSpec.ofChange tableKeepsSpec)

/-- ITS FALSE NEIGHBOUR: 'it returns false'. Refute it at one input. -/
def tableKeepsWrong : ChangeSpec := { name := "tableKeeps", fn := fun _ => fun
  | [d1, d2] => { results := [.lit (.bool false)], args := [d1, d2] }
  | _ => none }
def TableKeepsWrongFalsely : Prop := tableKeepsRow.holds Tryd.pinned (OpenSpec.ofChange tableKeepsWrong)

/-- 'tolllaw5.TableFinds': WHATEVER THE INPUT: true; the input reads as it did. -/
def tableFindsSpec : ChangeSpec := { name := "tableFinds", fn := fun _ => fun
  | [d1, d2] => { results := [.lit (.bool true)], args := [d1, d2] }
  | _ => none }
def tableFindsRow : OpenClaim := { program := "ytkjfhgoddhigmabdoor", sum := "f56b03b64036e9e579b1500ba68022f52d11c00c49894ee8f4812341e4b4fe09", func := "tollgate/tolllaw5.TableFinds", spec := "tableFinds", inPlace := ["slices.overlaps[tollgate/api.Field]"], named := ["tollgate/table.always"], apart := false, laid := [("tollgate/table.always", laid_tollgate_table_always)] }
def TableFindsSaid : Prop := tableFindsRow.holds Tryd.pinned (OpenSpec.ofChange tableFindsSpec)

/-- ITS FALSE NEIGHBOUR: 'it returns false'. Refute it at one input. -/
def tableFindsWrong : ChangeSpec := { name := "tableFinds", fn := fun _ => fun
  | [d1, d2] => { results := [.lit (.bool false)], args := [d1, d2] }
  | _ => none }
def TableFindsWrongFalsely : Prop := tableFindsRow.holds Tryd.pinned (OpenSpec.ofChange tableFindsWrong)

/-- 'tolllaw1.HeadTexts': WHATEVER THE INPUT: true; the input reads as it did. -/
def headTextsSpec : ChangeSpec := { name := "headTexts", fn := fun _ => fun
  | [d1, d2] => { results := [.lit (.bool true)], args := [d1, d2] }
  | _ => none }
def headTextsRow : OpenClaim := { program := "ytkjfhgoddhigmabdoor", sum := "f56b03b64036e9e579b1500ba68022f52d11c00c49894ee8f4812341e4b4fe09", func := "tollgate/tolllaw1.HeadTexts", spec := "headTexts", inPlace := ["internal/bytealg.IndexByteString", "internal/bytealg.MakeNoZero", "internal/reflectlite.ValueOf", "(internal/reflectlite.Value).Type", "(internal/reflectlite.Value).IsNil", "internal/reflectlite.TypeOf", "(internal/reflectlite.Value).Elem", "(internal/reflectlite.Value).Set"], unfollowed := true, recurses := true, named := ["errors.errorType"], apart := false, laid := [("errors.errorType", laid_errors_errorType)] }
def HeadTextsSaid : Prop := headTextsRow.holds Tryd.pinned (OpenSpec.ofChange headTextsSpec)

/-- ITS FALSE NEIGHBOUR: 'it returns false'. Refute it at one input. -/
def headTextsWrong : ChangeSpec := { name := "headTexts", fn := fun _ => fun
  | [d1, d2] => { results := [.lit (.bool false)], args := [d1, d2] }
  | _ => none }
def HeadTextsWrongFalsely : Prop := headTextsRow.holds Tryd.pinned (OpenSpec.ofChange headTextsWrong)

/- THE SECOND FORM. 'bulk': how many values and letters a reading holds, each counted each time it is reached (what is shared counts as often as it is met; a slice's spare places count too). A statement '..UptoSaid' is the law's where the arguments, and the package variables that the reading takes, are together of bulk at most 1048576: NARROWER than '..Said'. Prove '..Said' where nothing that the law and all that it calls make is longer than what came in: it says more and counts as full. Else prove '..UptoSaid'. A law counts once. -/
mutual
def uptoBulk {H : Type} : DataW H → Nat
  | .lit (.string bytes) => bytes.length + 1
  | .lit _ => 1
  | .nil => 1
  | .ptr d => uptoBulk d + 1
  | .slice elems spare => uptoBulkAll elems + uptoBulkAll spare + 1
  | .agg parts => uptoBulkAll parts + 1
  | .iface _ d => uptoBulk d + 1
  | .map entries => uptoBulkEntries entries + 1
  | .held _ => 1
def uptoBulkAll {H : Type} : List (DataW H) → Nat
  | [] => 0
  | d :: r => uptoBulk d + uptoBulkAll r
def uptoBulkEntries {H : Type} : List (Lit × DataW H) → Nat
  | [] => 0
  | x :: r => uptoBulkEntry x + uptoBulkEntries r
def uptoBulkEntry {H : Type} : Lit × DataW H → Nat
  | (.string bytes, d) => bytes.length + uptoBulk d + 1
  | (_, d) => uptoBulk d + 1
 end
def uptoSmall : (H : Type) → List (DataW H) → Bool := fun _ ds => decide (uptoBulkAll ds ≤ 1048576)
def OpenSpec.upto (s : _root_.Go.ChangeSpec) : _root_.Go.OpenSpec := { _root_.Go.OpenSpec.ofChange s with cond := some uptoSmall }

/-- 'tolllaw1.TablePlays', WHERE WHAT IT READS IS OF BULK AT MOST 1048576: true; the input reads as it did. -/
def tablePlaysUptoRow : OpenClaim := { program := "ytkjfhgoddhigmabdoor", sum := "f56b03b64036e9e579b1500ba68022f52d11c00c49894ee8f4812341e4b4fe09", func := "tollgate/tolllaw1.TablePlays", spec := "tablePlays", inPlace := ["internal/reflectlite.ValueOf", "(internal/reflectlite.Value).Type", "(internal/reflectlite.Value).IsNil", "internal/reflectlite.TypeOf", "(internal/reflectlite.Value).Elem", "(internal/reflectlite.Value).Set", "slices.overlaps[tollgate/api.Field]"], unfollowed := true, recurses := true, named := ["errors.errorType", "tollgate/table.always"], apart := false, laid := [("errors.errorType", laid_errors_errorType), ("tollgate/table.always", laid_tollgate_table_always)], narrowed := true }
def TablePlaysUptoSaid : Prop := tablePlaysUptoRow.holds Tryd.pinned (OpenSpec.upto tablePlaysSpec)

/-- 'tolllaw1.TableKeeps', WHERE WHAT IT READS IS OF BULK AT MOST 1048576: true; the input reads as it did. -/
def tableKeepsUptoRow : OpenClaim := { program := "ytkjfhgoddhigmabdoor", sum := "f56b03b64036e9e579b1500ba68022f52d11c00c49894ee8f4812341e4b4fe09", func := "tollgate/tolllaw1.TableKeeps", spec := "tableKeeps", inPlace := ["slices.overlaps[tollgate/api.Field]"], named := ["tollgate/table.always"], apart := false, laid := [("tollgate/table.always", laid_tollgate_table_always)], narrowed := true }
def TableKeepsUptoSaid : Prop := tableKeepsUptoRow.holds Tryd.pinned (OpenSpec.upto tableKeepsSpec)

/-- 'tolllaw5.TableFinds', WHERE WHAT IT READS IS OF BULK AT MOST 1048576: true; the input reads as it did. -/
def tableFindsUptoRow : OpenClaim := { program := "ytkjfhgoddhigmabdoor", sum := "f56b03b64036e9e579b1500ba68022f52d11c00c49894ee8f4812341e4b4fe09", func := "tollgate/tolllaw5.TableFinds", spec := "tableFinds", inPlace := ["slices.overlaps[tollgate/api.Field]"], named := ["tollgate/table.always"], apart := false, laid := [("tollgate/table.always", laid_tollgate_table_always)], narrowed := true }
def TableFindsUptoSaid : Prop := tableFindsUptoRow.holds Tryd.pinned (OpenSpec.upto tableFindsSpec)

/-- 'tolllaw1.HeadTexts', WHERE WHAT IT READS IS OF BULK AT MOST 1048576: true; the input reads as it did. -/
def headTextsUptoRow : OpenClaim := { program := "ytkjfhgoddhigmabdoor", sum := "f56b03b64036e9e579b1500ba68022f52d11c00c49894ee8f4812341e4b4fe09", func := "tollgate/tolllaw1.HeadTexts", spec := "headTexts", inPlace := ["internal/bytealg.IndexByteString", "internal/bytealg.MakeNoZero", "internal/reflectlite.ValueOf", "(internal/reflectlite.Value).Type", "(internal/reflectlite.Value).IsNil", "internal/reflectlite.TypeOf", "(internal/reflectlite.Value).Elem", "(internal/reflectlite.Value).Set"], unfollowed := true, recurses := true, named := ["errors.errorType"], apart := false, laid := [("errors.errorType", laid_errors_errorType)], narrowed := true }
def HeadTextsUptoSaid : Prop := headTextsUptoRow.holds Tryd.pinned (OpenSpec.upto headTextsSpec)

end Rows
end Go.Proofs.YtkjfhgoddhigmabDoor
