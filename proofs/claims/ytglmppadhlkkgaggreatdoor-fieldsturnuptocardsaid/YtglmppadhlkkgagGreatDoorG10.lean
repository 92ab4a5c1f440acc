/-
  BODIES IN PIECES: the document's Hex and Chunks. No claim by itself.
-/
import Derived.BigQuiet
import Derived.Deep.QuietTactic
import Derived.Lib.ConvBytes
import Derived.Test.YtglmppadhlkkgagGreatDoorG2
import Derived.Test.YtglmppadhlkkgagGreatDoorG4
namespace Go.Proofs.YtglmppadhlkkgagGreatDoor
open Go.RowKit
set_option maxRecDepth 100000
def digitsS : ByteArray := ⟨#[48, 49, 50, 51, 52, 53, 54, 55, 56, 57, 97, 98, 99, 100, 101, 102]⟩
theorem ext_digit {d : Nat} (h : d < 16) : digitsS.extract d (d + 1) = strOfNums [hx d] := by
  match d with
  | 0 => rfl
  | 1 => rfl
  | 2 => rfl
  | 3 => rfl
  | 4 => rfl
  | 5 => rfl
  | 6 => rfl
  | 7 => rfl
  | 8 => rfl
  | 9 => rfl
  | 10 => rfl
  | 11 => rfl
  | 12 => rfl
  | 13 => rfl
  | 14 => rfl
  | 15 => rfl
  | d + 16 => omega
theorem str_app (A B : List Int) : strOfNums A ++ strOfNums B = strOfNums (A ++ B) := by
  apply ByteArray.ext
  rw [ByteArray.data_append]
  unfold strOfNums
  simp
theorem hex_nums (n : Nat) : unums (strOfNums (hexL n)) = hexL n := by
  have hb := bytes_hex n
  unfold unums
  rw [strOfNums_data, List.map_map]
  conv => rhs; rw [← List.map_id (hexL n)]
  apply List.map_congr_left
  intro x hx
  have := hb x hx
  simp [Function.comp]
  omega
end Go.Proofs.YtglmppadhlkkgagGreatDoor
/-
  BODIES IN PIECES: the document's Chunks. No claim by itself.
-/
namespace Go.Proofs.YtglmppadhlkkgagGreatDoor
open Go.RowKit
set_option maxRecDepth 100000
theorem u_cut {w : World} {g off len cap : Nat} {Z : List Int} (h : Row w g off len cap Z) (u n : Nat) (hu : u + n ≤ len) :
    ∃ o, (if cap = u then some (⟨g, off, none⟩ : Addr) else some ⟨g, off + u, none⟩) = some ⟨g, o, none⟩ ∧ Row w g o n (cap - u) ((Z.drop u).take n) := by
  have hl := h.hlen
  have hc := h.hcap
  have hm := h.hmax
  have hlen : ((Z.drop u).take n).length = n := by simp; omega
  have hget : ∀ t, t < n → ((Z.drop u).take n).getD t 0 = Z.getD (u + t) 0 := fun t ht => by
    simp [List.getD, ht]
  have hby : ∀ t, 0 ≤ ((Z.drop u).take n).getD t 0 ∧ ((Z.drop u).take n).getD t 0 < 256 := fun t => by
    by_cases ht : t < n
    · rw [hget t ht]; exact h.hbyte _
    · have : ((Z.drop u).take n).getD t 0 = 0 := by
        rw [List.getD, List.getElem?_eq_none (by omega)]; rfl
      rw [this]; omega
  by_cases e : cap = u
  · refine ⟨off, if_pos e, hlen, by omega, by omega, fun t ht => by omega, hby⟩
  · refine ⟨off + u, if_neg e, hlen, by omega, by omega, fun t ht => ?_, hby⟩
    rw [hget t ht, ← h.hcell (u + t) (by omega)]
    congr 2
    omega
theorem one_arg (w : World) (x : Int) (hx : 0 ≤ x ∧ x < 256) : Arg (w.alloc (.cells #[.int .u8 x] 5)) (some ⟨w.heap.size, 0, none⟩) 1 1 [x] := by
  have hh : (w.alloc (.cells #[.int .u8 x] 5)).heap[w.heap.size]? = some (.cells #[.int .u8 x] 5 (0, 0)) := heap_alloc_new w _
  refine Or.inr ⟨_, _, rfl, rfl, Nat.le_refl _, by unfold maxLen; omega, fun t ht => ?_, fun t => ?_⟩
  · simp only [World.cell?, hh]
    match t with
    | 0 => rfl
    | t + 1 => omega
  · match t with
    | 0 => exact hx
    | t + 1 => simp
theorem hexln_nums (n : Nat) : unums (strOfNums (hexL n) ++ ⟨#[13, 10]⟩) = hexL n ++ [13, 10] := by
  have e : (strOfNums (hexL n) ++ ⟨#[13, 10]⟩ : ByteArray) = strOfNums (hexL n ++ [13, 10]) := by
    rw [← str_app]; rfl
  rw [e]
  have hb : Bytes (hexL n ++ [13, 10]) := bytes_app (bytes_hex n) bytes_line
  unfold unums
  rw [strOfNums_data, List.map_map]
  conv => rhs; rw [← List.map_id (hexL n ++ [13, 10])]
  apply List.map_congr_left
  intro x hx
  have := hb x hx
  simp [Function.comp]
  omega
theorem chunk_acc {s : Nat} (hs : 1 ≤ s) {D acc T : List Int} (hD : D ≠ []) (h : acc ++ chunkL s D = T) {n : Nat} (hn : n = min s D.length) :
    ((((acc ++ (hexL n ++ [13, 10])) ++ D.take n) ++ [13]) ++ [10]) ++ chunkL s (D.drop n) = T := by
  rw [← h, chunk_more hs hD]
  have e1 : D.take s = D.take n := by
    by_cases c : s ≤ D.length
    · rw [show n = s by omega]
    · rw [List.take_of_length_le (by omega), List.take_of_length_le (by omega)]
  have e2 : D.drop s = D.drop n := by
    by_cases c : s ≤ D.length
    · rw [show n = s by omega]
    · rw [List.drop_eq_nil_of_le (by omega), List.drop_eq_nil_of_le (by omega)]
  have e3 : (D.take n).length = n := by simp; omega
  rw [e1, e2]
  unfold piece
  rw [e3]
  simp
end Go.Proofs.YtglmppadhlkkgagGreatDoor
/-
  BODIES IN PIECES: the document's match, at a line end. No claim by itself.
-/
namespace Go.Proofs.YtglmppadhlkkgagGreatDoor
open Go.RowKit
set_option maxRecDepth 100000
theorem dN_below {B : Nat} {w w' : World} (h : Below B w w') : ∀ n, Below B w (w'.drewN n)
  | 0 => h
  | n + 1 => by
    have := dN_below h n
    exact ⟨this.os, this.tape, this.output, this.size, this.block⟩
theorem drop_at {Z : List Int} {t : Nat} (h : t < Z.length) : Z.drop t = Z.getD t 0 :: Z.drop (t + 1) := by
  rw [List.drop_eq_getElem_cons h]
  simp [List.getD, List.getElem?_eq_getElem h]
/-- How far a line end was found. -/
def MtAt (Z : List Int) (p k : Nat) : Prop := p + k ≤ Z.length ∧ (1 ≤ k → Z.getD p 0 = 13) ∧ (2 ≤ k → Z.getD (p + 1) 0 = 10)
theorem mt_short {Z : List Int} {p k : Nat} (h : MtAt Z p k) (hk : k < 2) (hl : Z.length ≤ p + k) : (mt (Z.drop p)).1 = 8 := by
  obtain ⟨h1, h2, _⟩ := h
  match k with
  | 0 => rw [List.drop_eq_nil_of_le (by omega)]; rfl
  | 1 =>
    have h2 := h2 (by omega)
    rw [drop_at (by omega), h2, List.drop_eq_nil_of_le (by omega)]
    rfl
  | k + 2 => omega
theorem mt_wrong {Z : List Int} {p k : Nat} (h : MtAt Z p k) (hk : k < 2) (hl : p + k < Z.length) (hx : Z.getD (p + k) 0 ≠ (if k = 0 then 13 else 10)) : (mt (Z.drop p)).1 = 2 := by
  obtain ⟨h1, h2, _⟩ := h
  match k with
  | 0 =>
    rw [drop_at (by omega)]
    unfold mt
    simp at hx
    simp [hx]
  | 1 =>
    have h2 := h2 (by omega)
    rw [drop_at (by omega), drop_at (by omega), h2]
    unfold mt
    simp at hx
    simp [hx]
  | k + 2 => omega
theorem mt_right {Z : List Int} {p : Nat} (h : MtAt Z p 2) : mt (Z.drop p) = (0, Z.drop (p + 2)) := by
  obtain ⟨h1, h2, h3⟩ := h
  rw [drop_at (by omega), drop_at (by omega), h2 (by omega), h3 (by omega)]
  simp [mt]
def mtV (Z : List Int) (p : Nat) : Value := .tuple #[.int .i64 (if (mt (Z.drop p)).1 = 0 then ((p + 2 : Nat) : Int) else 0), .int .i64 (mt (Z.drop p)).1]
end Go.Proofs.YtglmppadhlkkgagGreatDoor
/-
  MESSAGES AS LINES: the document's Digits, lines, AskLines, TellLines. No claim by itself.
-/
namespace Go.Proofs.YtglmppadhlkkgagGreatDoor
open Go.RowKit
set_option maxRecDepth 100000
/-- A text as bytes of one's own. -/
theorem conv_own (s : ByteArray) (w : World) (hs : s.size ≤ 140737488355328) : ∃ cap w', (convert 9 23 (.string s)).run Tryz.prog w = .ok (.slice (some ⟨w.heap.size, 0, none⟩) s.size cap) w' ∧ UOwn w' w.heap.size (.slice (some ⟨w.heap.size, 0, none⟩) s.size cap) (unums s) ∧ Below w.heap.size w w' := by
  have hsz : (Lib.bytesCells w 5 s).size = grownCap w s.size 0 5 := by
    have hge := grownCap_ge w s.size 0 5
    have e : s.data.size = s.size := rfl
    simp [Lib.bytesCells]
    omega
  refine ⟨_, _, Lib.run_convert_string_bytes w 9 23 5 s Tryz.underlying9 Tryz.underlying23 Tryz.underlying5, Or.inr ⟨w.heap.size, _, by rw [unums_len], Nat.le_refl _, by rw [Lib.bytesWorld_size]; omega, by rw [unums_len]; exact grownCap_ge w _ _ _, grownCap_le_maxLen w _ _ _ (by unfold maxLen; omega), fun t ht => ?_, fun t ht => ?_, fun t ht => ?_⟩, ⟨rfl, rfl, rfl, by rw [Lib.bytesWorld_size]; omega, fun k hk => Lib.bytesWorld_at_old w 5 s k hk⟩⟩
  · rw [unums_len] at ht
    rw [Lib.bytesWorld_cell w 5 s t ht]
    have hk : t < s.data.toList.length := by rw [Array.length_toList]; exact ht
    simp only [unums, List.getD, List.getElem?_map, List.getElem?_eq_getElem hk, Option.map_some, Option.getD_some]
  · simp only [World.cell?, Lib.bytesWorld_at_new]
    simp
    omega
  · simp only [World.frozen?, Lib.bytesWorld_at_new]
    simp
    omega
theorem conv_val (s : ByteArray) (w : World) (hs : s.size ≤ 140737488355328) : ∃ v w', (convert 9 23 (.string s)).run Tryz.prog w = .ok v w' ∧ UOwn w' w.heap.size v (unums s) ∧ Below w.heap.size w w' := by
  obtain ⟨cap, w', h1, h2, h3⟩ := conv_own s w hs
  exact ⟨_, w', h1, h2, h3⟩
def tensS : ByteArray := ⟨#[48, 49, 50, 51, 52, 53, 54, 55, 56, 57]⟩
theorem ext_ten {d : Nat} (h : d < 10) : tensS.extract d (d + 1) = strOfNums [dc d] := by
  match d with
  | 0 => rfl
  | 1 => rfl
  | 2 => rfl
  | 3 => rfl
  | 4 => rfl
  | 5 => rfl
  | 6 => rfl
  | 7 => rfl
  | 8 => rfl
  | 9 => rfl
  | d + 10 => omega
theorem rdigits_any : ∀ (n : Nat) (w : World), n ≤ 8000 → Calls Tryz.prog 46 #[.int .i64 n] w fun e w' => e = .returned (.string (strOfNums (decL n))) ∧ w = w' := by
  intro n
  induction n using Nat.strongRecOn with
  | _ n ih =>
    intro w hn
    by_cases h : n < 10
    · rw [decL_one h]
      have h1 : (n : Int) < 10 := by omega
      go_enter Tryz.func46, Tryz.ntmps46
      go_wp2
      go_ret
      refine ⟨?_, rfl⟩
      have := ext_ten h
      unfold tensS at this
      show Ending.returned (Value.string _) = _
      rw [this]
    · have h1 : ¬ ((n : Int) < 10) := by omega
      have hd : n % 10 < 10 := by omega
      have HC := vl (ih (n / 10) (by omega) w (by omega))
      have HE := vl (ext_ten hd)
      have HX := vl (decL_more h)
      clear ih
      have hS : (strOfNums (decL (n / 10))).size ≤ 8001 := by rw [strOfNums_size]; have := decL_le (n / 10); omega
      obtain ⟨S, hSe⟩ : ∃ S, strOfNums (decL (n / 10)) = S := ⟨_, rfl⟩
      rw [hSe] at hS HC
      have HS := vl hSe
      clear hSe
      go_enter Tryz.func46, Tryz.ntmps46
      go_wp2_with fail
      refine HC.out.mono ?_
      rintro r w' ⟨rfl, rfl⟩
      go_wp2
      go_ret
      refine ⟨?_, rfl⟩
      have e1 := HE.out
      unfold tensS at e1
      show Ending.returned (Value.string (_ ++ _)) = _
      rw [e1, ← HS.out, str_app, HX.out]
theorem bytes_dec : ∀ n : Nat, Bytes (decL n) := by
  intro n
  induction n using Nat.strongRecOn with
  | _ n ih =>
    by_cases h : n < 10
    · rw [decL_one h]; intro x hx; simp at hx; subst hx; unfold dc; omega
    · rw [decL_more h]
      refine bytes_app (ih _ (by omega)) ?_
      intro x hx; simp at hx; subst hx; unfold dc; omega
theorem lines_snoc (l : List Fd) (f : Fd) : linesL (l ++ [f]) = linesL l ++ lineOf f := by
  induction l with
  | nil => simp [linesL]
  | cons x l ih => simp [linesL, ih]
theorem lines_le : ∀ {l : List Fd}, fldsE l = 0 → (linesL l).length ≤ 804 * l.length
  | [], _ => by simp [linesL]
  | f :: l, h => by
    obtain ⟨h1, h2⟩ := flds_cons.1 h
    obtain ⟨a, b, _⟩ := fld_ok h1
    have i := lines_le h2
    have n1 := (name_small a).2.1
    have v1 := (plain_ok b).1
    simp [linesL, lineOf]
    omega
theorem fds_take {L : List (ByteArray × ByteArray)} {k : Nat} (h : k < L.length) : (fdsOf L).take (k + 1) = (fdsOf L).take k ++ [(unums (L.getD k fnone).1, unums (L.getD k fnone).2)] := by
  have h' : k < (fdsOf L).length := by rw [fds_len]; exact h
  rw [List.take_succ_eq_append_getElem h']
  simp [fdsOf, List.getD, List.getElem?_eq_getElem h]
def edgeS : ByteArray := ⟨#[32, 69, 68, 71, 69, 47, 49, 13, 10, 104, 111, 115, 116, 58, 32]⟩
def lenS : ByteArray := ⟨#[108, 101, 110, 103, 116, 104, 58, 32]⟩
theorem edge_nums : unums ⟨#[32, 69, 68, 71, 69, 47, 49, 13, 10, 104, 111, 115, 116, 58, 32]⟩ = edgeHost ++ [58, 32] := rfl
theorem len_nums : unums ⟨#[108, 101, 110, 103, 116, 104, 58, 32]⟩ = lengthN ++ [58, 32] := rfl
theorem ln_nums : unums ⟨#[13, 10]⟩ = [13, 10] := rfl
theorem sp_nums : unums ⟨#[32]⟩ = [32] := rfl
theorem ln2_nums : unums ⟨#[13, 10, 13, 10]⟩ = [13, 10, 13, 10] := rfl
theorem esp_nums : unums ⟨#[69, 68, 71, 69, 47, 49, 32]⟩ = edgeSp := rfl
theorem cod_nums : unums ⟨#[99, 111, 100, 105, 110, 103, 58, 32, 99, 104, 117, 110, 107, 101, 100, 13, 10, 13, 10]⟩ = codingN ++ chunkedS := rfl
end Go.Proofs.YtglmppadhlkkgagGreatDoor
