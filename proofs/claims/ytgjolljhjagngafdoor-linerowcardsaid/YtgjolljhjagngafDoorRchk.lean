/-
  BODIES IN PIECES: the document's Hex and Chunks. No claim by itself.
-/
import Derived.Test.YtgjolljhjagngafDoorUapp
namespace Go.Proofs.YtgjolljhjagngafDoor
open Go.RowKit
set_option maxRecDepth 100000
def digitsS : ByteArray := ⟨#[48, 49, 50, 51, 52, 53, 54, 55, 56, 57, 97, 98, 99, 100, 101, 102]⟩
theorem ext_digit {d : Nat} (h : d < 16) : digitsS.extract d (d + 1) = strOfNums [hx d] := by
  match d with
  | 0 => rfl
  | 1 => rfl
  | 2 => rfl
  | 3 => rfl
  | 4 => rfl
  | 5 => rfl
  | 6 => rfl
  | 7 => rfl
  | 8 => rfl
  | 9 => rfl
  | 10 => rfl
  | 11 => rfl
  | 12 => rfl
  | 13 => rfl
  | 14 => rfl
  | 15 => rfl
  | d + 16 => omega
theorem str_app (A B : List Int) : strOfNums A ++ strOfNums B = strOfNums (A ++ B) := by
  apply ByteArray.ext
  rw [ByteArray.data_append]
  unfold strOfNums
  simp
theorem rhex_any : ∀ (n : Nat) (w : World), n ≤ 8000 → Calls Tryd.prog 84 #[.int .i64 n] w fun e w' => e = .returned (.string (strOfNums (hexL n))) ∧ w = w' := by
  intro n
  induction n using Nat.strongRecOn with
  | _ n ih =>
    intro w hn
    by_cases h : n < 16
    · rw [hexL_one h]
      have h1 : (n : Int) < 16 := by omega
      go_enter Tryd.func84, Tryd.ntmps84
      go_wp2
      go_ret
      refine ⟨?_, rfl⟩
      have := ext_digit h
      unfold digitsS at this
      show Ending.returned (Value.string _) = _
      rw [this]
    · have h1 : ¬ ((n : Int) < 16) := by omega
      have hd : n % 16 < 16 := by omega
      have q1 : (n : Int).tdiv 16 = ((n / 16 : Nat) : Int) := rfl
      have q2 : (n : Int).tmod 16 = ((n % 16 : Nat) : Int) := rfl
      have HC := vl (ih (n / 16) (by omega) w (by omega))
      have HE := vl (ext_digit hd)
      have HX := vl (hexL_more h)
      clear ih
      have hS : (strOfNums (hexL (n / 16))).size ≤ 8001 := by rw [strOfNums_size]; have := hexL_le (n / 16); omega
      obtain ⟨S, hSe⟩ : ∃ S, strOfNums (hexL (n / 16)) = S := ⟨_, rfl⟩
      rw [hSe] at hS HC
      have HS := vl hSe
      clear hSe q1 q2
      go_enter Tryd.func84, Tryd.ntmps84
      go_wp2_with fail
      refine HC.out.mono ?_
      rintro r w' ⟨rfl, rfl⟩
      go_wp2
      go_ret
      refine ⟨?_, rfl⟩
      have e1 := HE.out
      unfold digitsS at e1
      show Ending.returned (Value.string (_ ++ _)) = _
      rw [e1, ← HS.out, str_app, HX.out]
theorem hex_nums (n : Nat) : unums (strOfNums (hexL n)) = hexL n := by
  have hb := bytes_hex n
  unfold unums
  rw [strOfNums_data, List.map_map]
  conv => rhs; rw [← List.map_id (hexL n)]
  apply List.map_congr_left
  intro x hx
  have := hb x hx
  simp [Function.comp]
  omega
end Go.Proofs.YtgjolljhjagngafDoor
