/-
  MESSAGES AS LINES: the document's Digits, lines, AskLines, TellLines. No claim by itself.
-/
import Derived.Test.YtgjolljhjagngafDoorNask
import Derived.Test.YtgjolljhjagngafDoorRchk2
import Derived.Test.YtgjolljhjagngafDoorRmt
import Derived.Lib.ConvBytes
namespace Go.Proofs.YtgjolljhjagngafDoor
open Go.RowKit
set_option maxRecDepth 100000
/-- A text as bytes of one's own. -/
theorem conv_own (s : ByteArray) (w : World) (hs : s.size ≤ 140737488355328) : ∃ cap w', (convert 9 22 (.string s)).run Tryd.prog w = .ok (.slice (some ⟨w.heap.size, 0, none⟩) s.size cap) w' ∧ UOwn w' w.heap.size (.slice (some ⟨w.heap.size, 0, none⟩) s.size cap) (unums s) ∧ Below w.heap.size w w' := by
  have hsz : (Lib.bytesCells w 5 s).size = grownCap w s.size 0 5 := by
    have hge := grownCap_ge w s.size 0 5
    have e : s.data.size = s.size := rfl
    simp [Lib.bytesCells]
    omega
  refine ⟨_, _, Lib.run_convert_string_bytes w 9 22 5 s Tryd.underlying9 Tryd.underlying22 Tryd.underlying5, Or.inr ⟨w.heap.size, _, by rw [unums_len], Nat.le_refl _, by rw [Lib.bytesWorld_size]; omega, by rw [unums_len]; exact grownCap_ge w _ _ _, grownCap_le_maxLen w _ _ _ (by unfold maxLen; omega), fun t ht => ?_, fun t ht => ?_, fun t ht => ?_⟩, ⟨rfl, rfl, rfl, by rw [Lib.bytesWorld_size]; omega, fun k hk => Lib.bytesWorld_at_old w 5 s k hk⟩⟩
  · rw [unums_len] at ht
    rw [Lib.bytesWorld_cell w 5 s t ht]
    have hk : t < s.data.toList.length := by rw [Array.length_toList]; exact ht
    simp only [unums, List.getD, List.getElem?_map, List.getElem?_eq_getElem hk, Option.map_some, Option.getD_some]
  · simp only [World.cell?, Lib.bytesWorld_at_new]
    simp
    omega
  · simp only [World.frozen?, Lib.bytesWorld_at_new]
    simp
    omega
theorem conv_val (s : ByteArray) (w : World) (hs : s.size ≤ 140737488355328) : ∃ v w', (convert 9 22 (.string s)).run Tryd.prog w = .ok v w' ∧ UOwn w' w.heap.size v (unums s) ∧ Below w.heap.size w w' := by
  obtain ⟨cap, w', h1, h2, h3⟩ := conv_own s w hs
  exact ⟨_, w', h1, h2, h3⟩
def tensS : ByteArray := ⟨#[48, 49, 50, 51, 52, 53, 54, 55, 56, 57]⟩
theorem ext_ten {d : Nat} (h : d < 10) : tensS.extract d (d + 1) = strOfNums [dc d] := by
  match d with
  | 0 => rfl
  | 1 => rfl
  | 2 => rfl
  | 3 => rfl
  | 4 => rfl
  | 5 => rfl
  | 6 => rfl
  | 7 => rfl
  | 8 => rfl
  | 9 => rfl
  | d + 10 => omega
theorem rdigits_any : ∀ (n : Nat) (w : World), n ≤ 8000 → Calls Tryd.prog 34 #[.int .i64 n] w fun e w' => e = .returned (.string (strOfNums (decL n))) ∧ w = w' := by
  intro n
  induction n using Nat.strongRecOn with
  | _ n ih =>
    intro w hn
    by_cases h : n < 10
    · rw [decL_one h]
      have h1 : (n : Int) < 10 := by omega
      go_enter Tryd.func34, Tryd.ntmps34
      go_wp2
      go_ret
      refine ⟨?_, rfl⟩
      have := ext_ten h
      unfold tensS at this
      show Ending.returned (Value.string _) = _
      rw [this]
    · have h1 : ¬ ((n : Int) < 10) := by omega
      have hd : n % 10 < 10 := by omega
      have HC := vl (ih (n / 10) (by omega) w (by omega))
      have HE := vl (ext_ten hd)
      have HX := vl (decL_more h)
      clear ih
      have hS : (strOfNums (decL (n / 10))).size ≤ 8001 := by rw [strOfNums_size]; have := decL_le (n / 10); omega
      obtain ⟨S, hSe⟩ : ∃ S, strOfNums (decL (n / 10)) = S := ⟨_, rfl⟩
      rw [hSe] at hS HC
      have HS := vl hSe
      clear hSe
      go_enter Tryd.func34, Tryd.ntmps34
      go_wp2_with fail
      refine HC.out.mono ?_
      rintro r w' ⟨rfl, rfl⟩
      go_wp2
      go_ret
      refine ⟨?_, rfl⟩
      have e1 := HE.out
      unfold tensS at e1
      show Ending.returned (Value.string (_ ++ _)) = _
      rw [e1, ← HS.out, str_app, HX.out]
theorem bytes_dec : ∀ n : Nat, Bytes (decL n) := by
  intro n
  induction n using Nat.strongRecOn with
  | _ n ih =>
    by_cases h : n < 10
    · rw [decL_one h]; intro x hx; simp at hx; subst hx; unfold dc; omega
    · rw [decL_more h]
      refine bytes_app (ih _ (by omega)) ?_
      intro x hx; simp at hx; subst hx; unfold dc; omega
theorem lines_snoc (l : List Fd) (f : Fd) : linesL (l ++ [f]) = linesL l ++ lineOf f := by
  induction l with
  | nil => simp [linesL]
  | cons x l ih => simp [linesL, ih]
theorem lines_le : ∀ {l : List Fd}, fldsE l = 0 → (linesL l).length ≤ 804 * l.length
  | [], _ => by simp [linesL]
  | f :: l, h => by
    obtain ⟨h1, h2⟩ := flds_cons.1 h
    obtain ⟨a, b, _⟩ := fld_ok h1
    have i := lines_le h2
    have n1 := (name_small a).2.1
    have v1 := (plain_ok b).1
    simp [linesL, lineOf]
    omega
theorem fds_take {L : List (ByteArray × ByteArray)} {k : Nat} (h : k < L.length) : (fdsOf L).take (k + 1) = (fdsOf L).take k ++ [(unums (L.getD k fnone).1, unums (L.getD k fnone).2)] := by
  have h' : k < (fdsOf L).length := by rw [fds_len]; exact h
  rw [List.take_succ_eq_append_getElem h']
  simp [fdsOf, List.getD, List.getElem?_eq_getElem h]
set_option maxHeartbeats 4000000 in
theorem rlines_any (a : Option Addr) (len cap : Nat) (FL : List (ByteArray × ByteArray)) (w : World) (hA : FArg w a len cap FL) (hm : len ≤ 40) (he : fldsE (fdsOf FL) = 0) :
    Calls Tryd.prog 33 #[.slice a len cap] w fun e w' => ∃ s : ByteArray, e = .returned (.string s) ∧ unums s = linesL (fdsOf FL) ∧ Below w.heap.size w w' := by
  have hlen := hA.len
  have HA := vl hA
  have HE := vl he
  clear hA he
  go_enter Tryd.func33, Tryd.ntmps33
  go_wp2_with fail
  go_loopw [3, 4] (fun x i wr => ∃ (k : Nat) (s : ByteArray), i = .int .i64 k ∧ x = .string s ∧ k ≤ len ∧ Vl (unums s = linesL ((fdsOf FL).take k)) ∧ Vl (Below w.heap.size w wr)) (fun _ i _ => len - (intOf i).toNat)
  case atStart => exact ⟨0, ⟨#[]⟩, rfl, rfl, by omega, rfl, Below.refl _ _⟩
  case round =>
    obtain ⟨k, s, rfl, rfl, hk, HS, HB⟩ := hrel
    by_cases hlt : k < len
    · rcases (HA.out.below HB.out) with ⟨h0, _⟩ | ⟨g, off, rfl, hr⟩
      · omega
      have c1 := hr.hname k hlt
      have c2 := hr.hvalue k hlt
      have hcap := hr.hcap
      have hlt' : (k : Int) < (len : Int) := by omega
      have HT := vl (fds_take (L := FL) (k := k) (by omega))
      obtain ⟨⟨n, v⟩, hf⟩ : ∃ f, FL.getD k fnone = f := ⟨_, rfl⟩
      rw [hf] at c1 c2 HT
      have hgood : fldE (unums n, unums v) = 0 ∧ fldsE ((fdsOf FL).take k) = 0 := by
        have h9 := HE.out
        rw [← List.take_append_drop (k + 1) (fdsOf FL), flds_app, HT.out, flds_app] at h9
        exact ⟨(flds_cons.1 h9.1.2).1, h9.1.1⟩
      have hs1 : s.size ≤ 40000 := by
        have h8 := lines_le hgood.2
        rw [← HS.out, unums_len] at h8
        simp [fds_len] at h8
        omega
      have hn1 : n.size ≤ 400 := by
        have := (name_small (fld_ok hgood.1).1).2.1
        rw [unums_len] at this
        exact this
      have hv1 : v.size ≤ 400 := by
        have := (plain_ok (fld_ok hgood.1).2.1).1
        rw [unums_len] at this
        exact this
      clear hf hr hgood
      have HN : Vl (unums (s ++ n ++ ⟨#[58, 32]⟩ ++ v ++ ⟨#[13, 10]⟩) = linesL ((fdsOf FL).take (k + 1))) := by
        show unums _ = _
        rw [HT.out, lines_snoc, unums_app, unums_app, unums_app, unums_app, HS.out]
        have e1 : unums ⟨#[58, 32]⟩ = [58, 32] := rfl
        have e2 : unums ⟨#[13, 10]⟩ = [13, 10] := rfl
        rw [e1, e2]
        simp [lineOf]
      go_wp2_with fail
      go_quiet (fail)
      go_wp2
      exact ⟨⟨k + 1, _, by go_num, rfl, by omega, HN.out, dN_below HB.out _⟩, by simp [intOf]; omega⟩
    · have hlt' : ¬ ((k : Int) < (len : Int)) := by omega
      have HX : Vl (unums s = linesL (fdsOf FL)) := by
        show unums _ = _
        rw [HS.out, List.take_of_length_le (by rw [fds_len]; omega)]
      go_wp2
      go_ret
      exact ⟨s, rfl, HX.out, HB.out⟩
def edgeS : ByteArray := ⟨#[32, 69, 68, 71, 69, 47, 49, 13, 10, 104, 111, 115, 116, 58, 32]⟩
def lenS : ByteArray := ⟨#[108, 101, 110, 103, 116, 104, 58, 32]⟩
theorem edge_nums : unums ⟨#[32, 69, 68, 71, 69, 47, 49, 13, 10, 104, 111, 115, 116, 58, 32]⟩ = edgeHost ++ [58, 32] := rfl
theorem len_nums : unums ⟨#[108, 101, 110, 103, 116, 104, 58, 32]⟩ = lengthN ++ [58, 32] := rfl
theorem ln_nums : unums ⟨#[13, 10]⟩ = [13, 10] := rfl
theorem sp_nums : unums ⟨#[32]⟩ = [32] := rfl
theorem ln2_nums : unums ⟨#[13, 10, 13, 10]⟩ = [13, 10, 13, 10] := rfl
set_option maxHeartbeats 4000000 in
theorem rasklines_any (q : RqM) (w : World) (h : RqIn w q) (hok : askE q.rq = 0) : Calls Tryd.prog 12 #[q.val] w fun e w' => ∃ v, e = .returned v ∧ UOwn w' w.heap.size v (askL q.rq) ∧ Below w.heap.size w w' := by
  obtain ⟨m, p, ho, fa, fn, fc, ba, bn, bc, FL, B⟩ := q
  obtain ⟨h1, h2, h3, ⟨h4, h5⟩, _, _⟩ := h
  unfold RqM.rq at hok
  obtain ⟨k1, k2, k3, k4, k5, k6, k7⟩ := ask_ok hok
  simp only at h1 h2 h3 h4 h5 k1 k2 k3 k4 k5 k6 k7
  have hfl := h1.len
  have hbl := h2.len
  rw [fds_len, hfl] at k1
  rw [hbl] at k2
  have sm : m.size ≤ 400 := by have := (tok_ok k3).2.1; rwa [unums_len] at this
  have sp : p.size ≤ 400 := by have := (word_ok k4).2.1; rwa [unums_len] at this
  have sh : ho.size ≤ 400 := by have := (plain_ok k5).1; rwa [unums_len] at this
  have hll := lines_le k7
  rw [fds_len, hfl] at hll
  obtain ⟨W1, hW1⟩ : ∃ W1, W1 = w.alloc (.cells #[.string m, .string p, .string ho, .slice fa fn fc, .slice ba bn bc] 34) := ⟨_, rfl⟩
  have HW : Vl (Below w.heap.size w W1) := by rw [hW1]; exact (Below.refl _ _).alloc (Nat.le_refl _) _
  have hx : W1.heap[w.heap.size]? = some (.cells #[.string m, .string p, .string ho, .slice fa fn fc, .slice ba bn bc] 34 (0, 0)) := by rw [hW1]; exact heap_alloc_new w _
  have hs1 : W1.heap.size = w.heap.size + 1 := by rw [hW1]; simp
  have HL := vl (rlines_any fa fn fc FL W1 (h1.below HW.out) k1 k7)
  have HBo := vl h2
  have HNI := vl h3
  have HX := vl hx
  have HS1 := vl hs1
  have HW1 := vl hW1
  clear h1 h2 h3 hok k3 k4 k5 k6 k7 hx hs1 hW1
  unfold RqM.val RqM.rq
  simp only
  go_enter Tryd.func12, Tryd.ntmps12
  go_wp2_with fail
  rw [← HW1.out]
  refine HL.out.mono ?_
  rintro e w2 ⟨f, rfl, hf, hb2⟩
  have sf : f.size ≤ 32160 := by rw [← hf, unums_len] at hll; omega
  have e2 := (hb2.block w.heap.size (by have := HS1.out; omega)).trans HX.out
  have c0 : w2.cell? ⟨w.heap.size, 0, none⟩ = some (.string m) := by simp only [World.cell?, e2]; rfl
  have c1 : w2.cell? ⟨w.heap.size, 1, none⟩ = some (.string p) := by simp only [World.cell?, e2]; rfl
  have c2 : w2.cell? ⟨w.heap.size, 2, none⟩ = some (.string ho) := by simp only [World.cell?, e2]; rfl
  have c4 : w2.cell? ⟨w.heap.size, 4, none⟩ = some (.slice ba bn bc) := by simp only [World.cell?, e2]; rfl
  have HB2 : Vl (Below w.heap.size w w2) := HW.out.trans (hb2.mono HW.out.size)
  have HF := vl hf
  clear hb2 hf e2 HL hll HX HS1 HW1 HW
  by_cases hb : bn = 0
  · have hB : B = [] := List.eq_nil_of_length_eq_zero (by omega)
    subst hB
    subst hb
    have HT : Vl (unums (m ++ ⟨#[32]⟩ ++ p ++ ⟨#[32, 69, 68, 71, 69, 47, 49, 13, 10, 104, 111, 115, 116, 58, 32]⟩ ++ ho ++ ⟨#[13, 10]⟩ ++ f ++ ⟨#[13, 10]⟩) = askL ⟨unums m, unums p, unums ho, fdsOf FL, []⟩) := by
      show unums _ = _
      simp only [unums_app, edge_nums, ln_nums, sp_nums, HF.out]
      simp [askL, tailL]
    obtain ⟨v3, w3, hcv, ho3, hb3⟩ := conv_val (m ++ ⟨#[32]⟩ ++ p ++ ⟨#[32, 69, 68, 71, 69, 47, 49, 13, 10, 104, 111, 115, 116, 58, 32]⟩ ++ ho ++ ⟨#[13, 10]⟩ ++ f ++ ⟨#[13, 10]⟩) w2 (by
      rw [← unums_len]
      simp only [unums_app, List.length_append, edge_nums, ln_nums, sp_nums, unums_len]
      simp [edgeHost]
      omega)
    have hal : (askL ⟨unums m, unums p, unums ho, fdsOf FL, []⟩).length ≤ 60000 := by
      rw [← HT.out]
      simp only [unums_app, List.length_append, edge_nums, ln_nums, sp_nums, unums_len]
      simp [edgeHost]
      omega
    rw [HT.out] at ho3
    have HO3 := vl ho3
    have HB3 := vl (HB2.out.trans (hb3.mono HB2.out.size))
    have c4' : w3.cell? ⟨w.heap.size, 4, none⟩ = some (.slice ba 0 bc) := (hb3.cell (p := ⟨w.heap.size, 4, none⟩) (blk_of_cell c4)).trans c4
    have HAX := vl (HBo.out.below HB3.out)
    have HS2 := vl HB2.out.size
    have HS3 := vl hb3.size
    clear ho3 hb3 HT
    go_wp2_with (at_builtin; refine wpList_uapp _ rfl _ _ rfl w2.heap.size _ _ rfl HO3.out ba 0 bc [] rfl HAX.out (fun h => (HNI.out h).2) (by omega) HS3.out ?_)
    intro v4 w4 ho4 hg4
    have HO4 := vl ho4
    have HB4 := vl (u_below_grown HB3.out hg4 HB3.out.size (fun k hk => by have := HO3.out.base k hk; have := HS2.out; omega))
    clear ho4 hg4
    go_wp2
    go_ret
    exact ⟨_, rfl, HO4.out.mono HS2.out, HB4.out⟩
  · have hb' : (0 : Int) < (bn : Int) := by omega
    have hBne : B ≠ [] := fun e => by rw [e] at hbl; simp at hbl; omega
    have HD := vl (rdigits_any bn w2 k2)
    obtain ⟨d, hd⟩ : ∃ d, strOfNums (decL bn) = d := ⟨_, rfl⟩
    rw [hd] at HD
    have hdn : unums d = decL bn := by rw [← hd]; exact unums_str (bytes_dec bn)
    have sd : d.size ≤ 8001 := by rw [← unums_len, hdn]; have := decL_le bn; omega
    have HT : Vl (unums (m ++ ⟨#[32]⟩ ++ p ++ ⟨#[32, 69, 68, 71, 69, 47, 49, 13, 10, 104, 111, 115, 116, 58, 32]⟩ ++ ho ++ ⟨#[13, 10]⟩ ++ f ++ ⟨#[108, 101, 110, 103, 116, 104, 58, 32]⟩ ++ d ++ ⟨#[13, 10]⟩ ++ ⟨#[13, 10]⟩) ++ B = askL ⟨unums m, unums p, unums ho, fdsOf FL, B⟩) := by
      show unums _ ++ B = _
      simp only [unums_app, edge_nums, ln_nums, sp_nums, len_nums, HF.out, hdn]
      simp [askL, tailL, hBne, lenLine, hbl]
    obtain ⟨v3, w3, hcv, ho3, hb3⟩ := conv_val (m ++ ⟨#[32]⟩ ++ p ++ ⟨#[32, 69, 68, 71, 69, 47, 49, 13, 10, 104, 111, 115, 116, 58, 32]⟩ ++ ho ++ ⟨#[13, 10]⟩ ++ f ++ ⟨#[108, 101, 110, 103, 116, 104, 58, 32]⟩ ++ d ++ ⟨#[13, 10]⟩ ++ ⟨#[13, 10]⟩) w2 (by
      rw [← unums_len]
      simp only [unums_app, List.length_append, edge_nums, ln_nums, sp_nums, len_nums, unums_len]
      simp [edgeHost, lengthN]
      omega)
    have hal : (unums (m ++ ⟨#[32]⟩ ++ p ++ ⟨#[32, 69, 68, 71, 69, 47, 49, 13, 10, 104, 111, 115, 116, 58, 32]⟩ ++ ho ++ ⟨#[13, 10]⟩ ++ f ++ ⟨#[108, 101, 110, 103, 116, 104, 58, 32]⟩ ++ d ++ ⟨#[13, 10]⟩ ++ ⟨#[13, 10]⟩)).length ≤ 60000 := by
      simp only [unums_app, List.length_append, edge_nums, ln_nums, sp_nums, len_nums, unums_len]
      simp [edgeHost, lengthN]
      omega
    obtain ⟨TL, hTL⟩ : ∃ TL, unums (m ++ ⟨#[32]⟩ ++ p ++ ⟨#[32, 69, 68, 71, 69, 47, 49, 13, 10, 104, 111, 115, 116, 58, 32]⟩ ++ ho ++ ⟨#[13, 10]⟩ ++ f ++ ⟨#[108, 101, 110, 103, 116, 104, 58, 32]⟩ ++ d ++ ⟨#[13, 10]⟩ ++ ⟨#[13, 10]⟩) = TL := ⟨_, rfl⟩
    rw [hTL] at HT ho3 hal
    have HO3 := vl ho3
    have HB3 := vl (HB2.out.trans (hb3.mono HB2.out.size))
    have c4' : w3.cell? ⟨w.heap.size, 4, none⟩ = some (.slice ba bn bc) := (hb3.cell (p := ⟨w.heap.size, 4, none⟩) (blk_of_cell c4)).trans c4
    have HAX := vl (HBo.out.below HB3.out)
    have HS2 := vl HB2.out.size
    have HS3 := vl hb3.size
    clear ho3 hb3 hd hdn hTL
    go_wp2_with fail
    refine HD.out.mono ?_
    rintro r w' ⟨rfl, rfl⟩
    go_wp2_with (at_builtin; refine wpList_uapp _ rfl _ _ rfl w2.heap.size _ _ rfl HO3.out ba bn bc B rfl HAX.out (fun h => (HNI.out h).2) (by omega) HS3.out ?_)
    intro v4 w4 ho4 hg4
    rw [HT.out] at ho4
    have HO4 := vl ho4
    have HB4 := vl (u_below_grown HB3.out hg4 HB3.out.size (fun k hk => by have := HO3.out.base k hk; have := HS2.out; omega))
    clear ho4 hg4
    go_wp2
    go_ret
    exact ⟨_, rfl, HO4.out.mono HS2.out, HB4.out⟩
theorem esp_nums : unums ⟨#[69, 68, 71, 69, 47, 49, 32]⟩ = edgeSp := rfl
theorem cod_nums : unums ⟨#[99, 111, 100, 105, 110, 103, 58, 32, 99, 104, 117, 110, 107, 101, 100, 13, 10, 13, 10]⟩ = codingN ++ chunkedS := rfl
set_option maxHeartbeats 4000000 in
theorem rtelllines_any (q : RpM) (size : Int) (w : World) (h : RpIn w q) (hok : tellE q.rp size = 0) (hi : I64 size) : Calls Tryd.prog 15 #[q.val, .int .i64 size] w fun e w' => ∃ v, e = .returned v ∧ UOwn w' w.heap.size v (tellL q.rp size) ∧ Below w.heap.size w w' := by
  obtain ⟨code, fa, fn, fc, ba, bn, bc, FL, B⟩ := q
  obtain ⟨_, h1, h2, h3, ⟨h4, h5⟩, _⟩ := h
  unfold RpM.rp at hok
  obtain ⟨k1, k2, k3, k4, k5, k7⟩ := tell_ok hok
  simp only at h1 h2 h3 h4 h5 k1 k2 k3 k4 k5 k7
  have hfl := h1.len
  have hbl := h2.len
  rw [fds_len, hfl] at k1
  rw [hbl] at k2
  have hll := lines_le k7
  rw [fds_len, hfl] at hll
  obtain ⟨cd, rfl⟩ : ∃ cd : Nat, code = cd := ⟨code.toNat, by omega⟩
  obtain ⟨W1, hW1⟩ : ∃ W1, W1 = w.alloc (.cells #[.int .i64 cd, .slice fa fn fc, .slice ba bn bc] 36) := ⟨_, rfl⟩
  have HW : Vl (Below w.heap.size w W1) := by rw [hW1]; exact (Below.refl _ _).alloc (Nat.le_refl _) _
  have hx : W1.heap[w.heap.size]? = some (.cells #[.int .i64 cd, .slice fa fn fc, .slice ba bn bc] 36 (0, 0)) := by rw [hW1]; exact heap_alloc_new w _
  have hs1 : W1.heap.size = w.heap.size + 1 := by rw [hW1]; simp
  have HL := vl (rlines_any fa fn fc FL W1 (h1.below HW.out) k1 k7)
  have HBo := vl h2
  have HNI := vl h3
  have HX := vl hx
  have HS1 := vl hs1
  have HW1 := vl hW1
  have HI := vl hi
  clear h1 h2 h3 hok k7 hx hs1 hW1 hi
  unfold RpM.val RpM.rp
  simp only
  go_enter Tryd.func15, Tryd.ntmps15
  go_wp2_with fail
  rw [← HW1.out]
  refine HL.out.mono ?_
  rintro e w2 ⟨f, rfl, hf, hb2⟩
  have sf : f.size ≤ 32160 := by rw [← hf, unums_len] at hll; omega
  have e2 := (hb2.block w.heap.size (by have := HS1.out; omega)).trans HX.out
  have c0 : w2.cell? ⟨w.heap.size, 0, none⟩ = some (.int .i64 cd) := by simp only [World.cell?, e2]; rfl
  have c2 : w2.cell? ⟨w.heap.size, 2, none⟩ = some (.slice ba bn bc) := by simp only [World.cell?, e2]; rfl
  have HB2 : Vl (Below w.heap.size w w2) := HW.out.trans (hb2.mono HW.out.size)
  have HF := vl hf
  clear hb2 hf e2 HL hll HX HS1 HW1 HW
  have HD := vl (rdigits_any cd w2 (by omega))
  obtain ⟨d, hd⟩ : ∃ d, strOfNums (decL cd) = d := ⟨_, rfl⟩
  rw [hd] at HD
  have hdn : unums d = decL cd := by rw [← hd]; exact unums_str (bytes_dec cd)
  have sd : d.size ≤ 8001 := by rw [← unums_len, hdn]; have := decL_le cd; omega
  have HDN := vl hdn
  clear hd hdn
  go_wp2_with fail
  refine HD.out.mono ?_
  rintro r w' ⟨rfl, rfl⟩
  have HS2 := vl HB2.out.size
  by_cases hz : size = 0
  · subst hz
    have HD2 := vl (rdigits_any bn w2 k2)
    obtain ⟨dn, hd⟩ : ∃ d, strOfNums (decL bn) = d := ⟨_, rfl⟩
    rw [hd] at HD2
    have hdn : unums dn = decL bn := by rw [← hd]; exact unums_str (bytes_dec bn)
    have sdn : dn.size ≤ 8001 := by rw [← unums_len, hdn]; have := decL_le bn; omega
    have HT : Vl (unums (⟨#[69, 68, 71, 69, 47, 49, 32]⟩ ++ d ++ ⟨#[13, 10]⟩ ++ f ++ ⟨#[108, 101, 110, 103, 116, 104, 58, 32]⟩ ++ dn ++ ⟨#[13, 10, 13, 10]⟩) ++ B = tellL ⟨(cd : Int), fdsOf FL, B⟩ 0) := by
      show unums _ ++ B = _
      simp only [unums_app, esp_nums, ln_nums, ln2_nums, len_nums, HF.out, HDN.out, hdn]
      simp [tellL, tellTail, lenLine, hbl]
    obtain ⟨v3, w3, hcv, ho3, hb3⟩ := conv_val (⟨#[69, 68, 71, 69, 47, 49, 32]⟩ ++ d ++ ⟨#[13, 10]⟩ ++ f ++ ⟨#[108, 101, 110, 103, 116, 104, 58, 32]⟩ ++ dn ++ ⟨#[13, 10, 13, 10]⟩) w2 (by
      rw [← unums_len]
      simp only [unums_app, List.length_append, esp_nums, ln_nums, ln2_nums, len_nums, unums_len]
      simp [edgeSp, lengthN]
      omega)
    have hal : (unums (⟨#[69, 68, 71, 69, 47, 49, 32]⟩ ++ d ++ ⟨#[13, 10]⟩ ++ f ++ ⟨#[108, 101, 110, 103, 116, 104, 58, 32]⟩ ++ dn ++ ⟨#[13, 10, 13, 10]⟩)).length ≤ 60000 := by
      simp only [unums_app, List.length_append, esp_nums, ln_nums, ln2_nums, len_nums, unums_len]
      simp [edgeSp, lengthN]
      omega
    obtain ⟨TL, hTL⟩ : ∃ TL, unums (⟨#[69, 68, 71, 69, 47, 49, 32]⟩ ++ d ++ ⟨#[13, 10]⟩ ++ f ++ ⟨#[108, 101, 110, 103, 116, 104, 58, 32]⟩ ++ dn ++ ⟨#[13, 10, 13, 10]⟩) = TL := ⟨_, rfl⟩
    rw [hTL] at HT ho3 hal
    have HO3 := vl ho3
    have HB3 := vl (HB2.out.trans (hb3.mono HB2.out.size))
    have c2' : w3.cell? ⟨w.heap.size, 2, none⟩ = some (.slice ba bn bc) := (hb3.cell (p := ⟨w.heap.size, 2, none⟩) (blk_of_cell c2)).trans c2
    have HAX := vl (HBo.out.below HB3.out)
    have HS3 := vl hb3.size
    clear ho3 hb3 hd hdn hTL
    go_wp2_with fail
    refine HD2.out.mono ?_
    rintro r w' ⟨rfl, rfl⟩
    go_wp2_with (at_builtin; refine wpList_uapp _ rfl _ _ rfl w2.heap.size _ _ rfl HO3.out ba bn bc B rfl HAX.out (fun h => (HNI.out h).2) (by omega) HS3.out ?_)
    intro v4 w4 ho4 hg4
    rw [HT.out] at ho4
    have HO4 := vl ho4
    have HB4 := vl (u_below_grown HB3.out hg4 HB3.out.size (fun k hk => by have := HO3.out.base k hk; have := HS2.out; omega))
    clear ho4 hg4
    go_wp2
    go_ret
    exact ⟨_, rfl, HO4.out.mono HS2.out, HB4.out⟩
  · have hz' : (size == 0) = false := by simpa using hz
    obtain ⟨sz, hsz⟩ : ∃ sz : Int, sz = if 8000 < size then 8000 else size := ⟨_, rfl⟩
    have hsr : 1 ≤ sz ∧ sz ≤ 8000 := by rw [hsz]; split <;> omega
    have HCH := vl (rchunks_any ba bn bc B sz w2 (HBo.out.below HB2.out) (by unfold I64; omega))
    have hcf : chunksF B sz = (0, chunkL (if 8000 < size then 8000 else size.toNat) B) := by
      unfold chunksF
      rw [if_neg (by omega), if_neg (by omega)]
      congr 2
      rw [hsz]
      split <;> rfl
    rw [hcf] at HCH
    obtain ⟨C, hC⟩ : ∃ C, chunkL (if 8000 < size then 8000 else size.toNat) B = C := ⟨_, rfl⟩
    rw [hC] at HCH
    have hcl : C.length ≤ 60000 := by
      rw [← hC]
      have := chunk_len_le (s := if 8000 < size then 8000 else size.toNat) (by split <;> omega) B.length B (Nat.le_refl _)
      omega
    have hcb : Bytes C := by rw [← hC]; exact bytes_chunk (by split <;> omega) _ B (Nat.le_refl _) HBo.out.bytes
    have HT : Vl (unums (⟨#[69, 68, 71, 69, 47, 49, 32]⟩ ++ d ++ ⟨#[13, 10]⟩ ++ f ++ ⟨#[99, 111, 100, 105, 110, 103, 58, 32, 99, 104, 117, 110, 107, 101, 100, 13, 10, 13, 10]⟩) ++ C = tellL ⟨(cd : Int), fdsOf FL, B⟩ size) := by
      show unums _ ++ C = _
      simp only [unums_app, esp_nums, ln_nums, cod_nums, HF.out, HDN.out]
      simp [tellL, tellTail, hz, hC]
    have hal : (unums (⟨#[69, 68, 71, 69, 47, 49, 32]⟩ ++ d ++ ⟨#[13, 10]⟩ ++ f ++ ⟨#[99, 111, 100, 105, 110, 103, 58, 32, 99, 104, 117, 110, 107, 101, 100, 13, 10, 13, 10]⟩)).length ≤ 60000 := by
      simp only [unums_app, List.length_append, esp_nums, ln_nums, cod_nums, unums_len]
      simp [edgeSp, codingN, chunkedS]
      omega
    have HCV := vl (fun W => conv_val (⟨#[69, 68, 71, 69, 47, 49, 32]⟩ ++ d ++ ⟨#[13, 10]⟩ ++ f ++ ⟨#[99, 111, 100, 105, 110, 103, 58, 32, 99, 104, 117, 110, 107, 101, 100, 13, 10, 13, 10]⟩) W (by rw [← unums_len]; omega))
    obtain ⟨TL, hTL⟩ : ∃ TL, unums (⟨#[69, 68, 71, 69, 47, 49, 32]⟩ ++ d ++ ⟨#[13, 10]⟩ ++ f ++ ⟨#[99, 111, 100, 105, 110, 103, 58, 32, 99, 104, 117, 110, 107, 101, 100, 13, 10, 13, 10]⟩) = TL := ⟨_, rfl⟩
    rw [hTL] at HT hal HCV
    have HCB := vl hcb
    have GO : Vl ((8000 < size ∧ sz = 8000) ∨ (¬ 8000 < size ∧ sz = size)) := by
      show _ ∨ _
      rw [hsz]
      split
      · exact Or.inl ⟨by assumption, rfl⟩
      · exact Or.inr ⟨by assumption, rfl⟩
    clear hcf hC hcb hTL hsz hsr
    rcases GO.out with ⟨g1, rfl⟩ | ⟨g1, rfl⟩
    all_goals
      clear GO
      go_wp2_with fail
      refine HCH.out.mono ?_
      rintro r w3 ⟨vx, rfl, hox, hb3⟩
      obtain ⟨ax, cx, rfl, hlx, hmx⟩ := hox.slice
      obtain ⟨v4, w4, hcv, ho4, hb4⟩ := HCV.out w3
      have HB3 := vl (HB2.out.trans (hb3.mono HB2.out.size))
      have HB4 := vl (HB3.out.trans (hb4.mono HB3.out.size))
      have HO4 := vl ho4
      have HAX := vl ((hox.below hb4).arg HCB.out)
      have HS3 := vl HB3.out.size
      have HS4 := vl hb4.size
      have HNX : Vl (ax = none → cx = 0) := by
        rcases hox with ⟨e9, e8⟩ | ⟨g, cap, e9, _⟩
        · injection e9 with _ _ e7
          exact fun _ => e7
        · injection e9 with e6 _ _
          exact fun h => by rw [e6] at h; cases h
      clear hox hb3 ho4 hb4 hlx hmx
      go_wp2_with (at_builtin; refine wpList_uapp _ rfl _ _ rfl w3.heap.size _ _ rfl HO4.out ax C.length cx C rfl HAX.out HNX.out (by omega) HS4.out ?_)
      intro v5 w5 ho5 hg5
      rw [HT.out] at ho5
      have HO5 := vl ho5
      have HB5 := vl (u_below_grown HB4.out hg5 HB4.out.size (fun k hk => by have := HO4.out.base k hk; have := HS3.out; omega))
      clear ho5 hg5
      go_wp2
      go_ret
      exact ⟨_, rfl, HO5.out.mono HS3.out, HB5.out⟩
end Go.Proofs.YtgjolljhjagngafDoor
