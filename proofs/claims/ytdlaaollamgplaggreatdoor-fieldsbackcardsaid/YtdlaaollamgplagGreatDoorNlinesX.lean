/-
  MESSAGES AS LINES: the document's Digits, lines, AskLines, TellLines. No claim by itself.
-/
import Derived.Lib.ConvBytes
import Derived.Test.YtdlaaollamgplagGreatDoorG4
import Derived.Test.YtdlaaollamgplagGreatDoorRchk2X
import Derived.Test.YtdlaaollamgplagGreatDoorRmtX
namespace Go.Proofs.YtdlaaollamgplagGreatDoor
open Go.RowKit
set_option maxRecDepth 100000
/-- A text as bytes of one's own. -/
theorem conv_own (s : ByteArray) (w : World) (hs : s.size ≤ 140737488355328) : ∃ cap w', (convert 9 23 (.string s)).run Tryz.prog w = .ok (.slice (some ⟨w.heap.size, 0, none⟩) s.size cap) w' ∧ UOwn w' w.heap.size (.slice (some ⟨w.heap.size, 0, none⟩) s.size cap) (unums s) ∧ Below w.heap.size w w' := by
  have hsz : (Lib.bytesCells w 5 s).size = grownCap w s.size 0 5 := by
    have hge := grownCap_ge w s.size 0 5
    have e : s.data.size = s.size := rfl
    simp [Lib.bytesCells]
    omega
  refine ⟨_, _, Lib.run_convert_string_bytes w 9 23 5 s Tryz.underlying9 Tryz.underlying23 Tryz.underlying5, Or.inr ⟨w.heap.size, _, by rw [unums_len], Nat.le_refl _, by rw [Lib.bytesWorld_size]; omega, by rw [unums_len]; exact grownCap_ge w _ _ _, grownCap_le_maxLen w _ _ _ (by unfold maxLen; omega), fun t ht => ?_, fun t ht => ?_, fun t ht => ?_⟩, ⟨rfl, rfl, rfl, by rw [Lib.bytesWorld_size]; omega, fun k hk => Lib.bytesWorld_at_old w 5 s k hk⟩⟩
  · rw [unums_len] at ht
    rw [Lib.bytesWorld_cell w 5 s t ht]
    have hk : t < s.data.toList.length := by rw [Array.length_toList]; exact ht
    simp only [unums, List.getD, List.getElem?_map, List.getElem?_eq_getElem hk, Option.map_some, Option.getD_some]
  · simp only [World.cell?, Lib.bytesWorld_at_new]
    simp
    omega
  · simp only [World.frozen?, Lib.bytesWorld_at_new]
    simp
    omega
theorem conv_val (s : ByteArray) (w : World) (hs : s.size ≤ 140737488355328) : ∃ v w', (convert 9 23 (.string s)).run Tryz.prog w = .ok v w' ∧ UOwn w' w.heap.size v (unums s) ∧ Below w.heap.size w w' := by
  obtain ⟨cap, w', h1, h2, h3⟩ := conv_own s w hs
  exact ⟨_, w', h1, h2, h3⟩
def tensS : ByteArray := ⟨#[48, 49, 50, 51, 52, 53, 54, 55, 56, 57]⟩
theorem ext_ten {d : Nat} (h : d < 10) : tensS.extract d (d + 1) = strOfNums [dc d] := by
  match d with
  | 0 => rfl
  | 1 => rfl
  | 2 => rfl
  | 3 => rfl
  | 4 => rfl
  | 5 => rfl
  | 6 => rfl
  | 7 => rfl
  | 8 => rfl
  | 9 => rfl
  | d + 10 => omega
theorem rdigits_any : ∀ (n : Nat) (w : World), n ≤ 8000 → Calls Tryz.prog 46 #[.int .i64 n] w fun e w' => e = .returned (.string (strOfNums (decL n))) ∧ w = w' := by
  intro n
  induction n using Nat.strongRecOn with
  | _ n ih =>
    intro w hn
    by_cases h : n < 10
    · rw [decL_one h]
      have h1 : (n : Int) < 10 := by omega
      go_enter Tryz.func46, Tryz.ntmps46
      go_wp2
      go_ret
      refine ⟨?_, rfl⟩
      have := ext_ten h
      unfold tensS at this
      show Ending.returned (Value.string _) = _
      rw [this]
    · have h1 : ¬ ((n : Int) < 10) := by omega
      have hd : n % 10 < 10 := by omega
      have HC := vl (ih (n / 10) (by omega) w (by omega))
      have HE := vl (ext_ten hd)
      have HX := vl (decL_more h)
      clear ih
      have hS : (strOfNums (decL (n / 10))).size ≤ 8001 := by rw [strOfNums_size]; have := decL_le (n / 10); omega
      obtain ⟨S, hSe⟩ : ∃ S, strOfNums (decL (n / 10)) = S := ⟨_, rfl⟩
      rw [hSe] at hS HC
      have HS := vl hSe
      clear hSe
      go_enter Tryz.func46, Tryz.ntmps46
      go_wp2_with fail
      refine HC.out.mono ?_
      rintro r w' ⟨rfl, rfl⟩
      go_wp2
      go_ret
      refine ⟨?_, rfl⟩
      have e1 := HE.out
      unfold tensS at e1
      show Ending.returned (Value.string (_ ++ _)) = _
      rw [e1, ← HS.out, str_app, HX.out]
theorem bytes_dec : ∀ n : Nat, Bytes (decL n) := by
  intro n
  induction n using Nat.strongRecOn with
  | _ n ih =>
    by_cases h : n < 10
    · rw [decL_one h]; intro x hx; simp at hx; subst hx; unfold dc; omega
    · rw [decL_more h]
      refine bytes_app (ih _ (by omega)) ?_
      intro x hx; simp at hx; subst hx; unfold dc; omega
theorem lines_snoc (l : List Fd) (f : Fd) : linesL (l ++ [f]) = linesL l ++ lineOf f := by
  induction l with
  | nil => simp [linesL]
  | cons x l ih => simp [linesL, ih]
theorem lines_le : ∀ {l : List Fd}, fldsE l = 0 → (linesL l).length ≤ 804 * l.length
  | [], _ => by simp [linesL]
  | f :: l, h => by
    obtain ⟨h1, h2⟩ := flds_cons.1 h
    obtain ⟨a, b, _⟩ := fld_ok h1
    have i := lines_le h2
    have n1 := (name_small a).2.1
    have v1 := (plain_ok b).1
    simp [linesL, lineOf]
    omega
theorem fds_take {L : List (ByteArray × ByteArray)} {k : Nat} (h : k < L.length) : (fdsOf L).take (k + 1) = (fdsOf L).take k ++ [(unums (L.getD k fnone).1, unums (L.getD k fnone).2)] := by
  have h' : k < (fdsOf L).length := by rw [fds_len]; exact h
  rw [List.take_succ_eq_append_getElem h']
  simp [fdsOf, List.getD, List.getElem?_eq_getElem h]
def edgeS : ByteArray := ⟨#[32, 69, 68, 71, 69, 47, 49, 13, 10, 104, 111, 115, 116, 58, 32]⟩
def lenS : ByteArray := ⟨#[108, 101, 110, 103, 116, 104, 58, 32]⟩
theorem edge_nums : unums ⟨#[32, 69, 68, 71, 69, 47, 49, 13, 10, 104, 111, 115, 116, 58, 32]⟩ = edgeHost ++ [58, 32] := rfl
theorem len_nums : unums ⟨#[108, 101, 110, 103, 116, 104, 58, 32]⟩ = lengthN ++ [58, 32] := rfl
theorem ln_nums : unums ⟨#[13, 10]⟩ = [13, 10] := rfl
theorem sp_nums : unums ⟨#[32]⟩ = [32] := rfl
theorem ln2_nums : unums ⟨#[13, 10, 13, 10]⟩ = [13, 10, 13, 10] := rfl
theorem esp_nums : unums ⟨#[69, 68, 71, 69, 47, 49, 32]⟩ = edgeSp := rfl
theorem cod_nums : unums ⟨#[99, 111, 100, 105, 110, 103, 58, 32, 99, 104, 117, 110, 107, 101, 100, 13, 10, 13, 10]⟩ = codingN ++ chunkedS := rfl
end Go.Proofs.YtdlaaollamgplagGreatDoor
