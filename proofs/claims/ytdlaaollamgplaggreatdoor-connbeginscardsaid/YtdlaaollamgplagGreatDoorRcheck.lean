/-
  CONTRACT of the Go function tollref1.Check. No claim by itself.
-/
import Derived.Test.YtdlaaollamgplagGreatDoorRrdframe
namespace Go.Proofs.YtdlaaollamgplagGreatDoor
open Go.RowKit
set_option maxRecDepth 100000
/-- What the settings of a frame are worth: the first one that is bad tells. -/
def setsF : Nat → List Int → Int
  | 0, _ => 0
  | m + 1, Z => if word (Z.take 2) = 4 ∧ 2147483647 < word ((Z.drop 2).take 4) then 3 else if word (Z.take 2) = 5 ∧ word ((Z.drop 2).take 4) < 1024 then 1 else setsF m (Z.drop 6)
/-- The code that a frame is worth; e1: whether its first flag is set. -/
def chkF (k st : Int) (e1 : Bool) (Z : List Int) : Int :=
  if (0 ≤ k ∧ k ≤ 3) ∧ st = 0 then 1
  else if (k = 4 ∨ k = 5 ∨ k = 6) ∧ st ≠ 0 then 1
  else if (k = 3 ∧ Z.length ≠ 4) ∨ (k = 5 ∧ Z.length ≠ 8) ∨ (k = 6 ∧ Z.length < 8) ∨ (k = 7 ∧ Z.length ≠ 4) then 6
  else if k = 4 ∧ (Z.length % 6 ≠ 0 ∨ (0 < Z.length ∧ e1 = true)) then 6
  else if k = 7 then (if word Z = 0 ∨ 2147483647 < word Z then 1 else 0)
  else if k = 4 then setsF (Z.length / 6) Z
  else 0
end Go.Proofs.YtdlaaollamgplagGreatDoor
