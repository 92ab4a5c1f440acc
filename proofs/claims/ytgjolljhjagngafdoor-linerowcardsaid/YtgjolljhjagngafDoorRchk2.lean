/-
  BODIES IN PIECES: the document's Chunks. No claim by itself.
-/
import Derived.Test.YtgjolljhjagngafDoorRchk
namespace Go.Proofs.YtgjolljhjagngafDoor
open Go.RowKit
set_option maxRecDepth 100000
theorem u_cut {w : World} {g off len cap : Nat} {Z : List Int} (h : Row w g off len cap Z) (u n : Nat) (hu : u + n ≤ len) :
    ∃ o, (if cap = u then some (⟨g, off, none⟩ : Addr) else some ⟨g, off + u, none⟩) = some ⟨g, o, none⟩ ∧ Row w g o n (cap - u) ((Z.drop u).take n) := by
  have hl := h.hlen
  have hc := h.hcap
  have hm := h.hmax
  have hlen : ((Z.drop u).take n).length = n := by simp; omega
  have hget : ∀ t, t < n → ((Z.drop u).take n).getD t 0 = Z.getD (u + t) 0 := fun t ht => by
    simp [List.getD, ht]
  have hby : ∀ t, 0 ≤ ((Z.drop u).take n).getD t 0 ∧ ((Z.drop u).take n).getD t 0 < 256 := fun t => by
    by_cases ht : t < n
    · rw [hget t ht]; exact h.hbyte _
    · have : ((Z.drop u).take n).getD t 0 = 0 := by
        rw [List.getD, List.getElem?_eq_none (by omega)]; rfl
      rw [this]; omega
  by_cases e : cap = u
  · refine ⟨off, if_pos e, hlen, by omega, by omega, fun t ht => by omega, hby⟩
  · refine ⟨off + u, if_neg e, hlen, by omega, by omega, fun t ht => ?_, hby⟩
    rw [hget t ht, ← h.hcell (u + t) (by omega)]
    congr 2
    omega
theorem one_arg (w : World) (x : Int) (hx : 0 ≤ x ∧ x < 256) : Arg (w.alloc (.cells #[.int .u8 x] 5)) (some ⟨w.heap.size, 0, none⟩) 1 1 [x] := by
  have hh : (w.alloc (.cells #[.int .u8 x] 5)).heap[w.heap.size]? = some (.cells #[.int .u8 x] 5 (0, 0)) := heap_alloc_new w _
  refine Or.inr ⟨_, _, rfl, rfl, Nat.le_refl _, by unfold maxLen; omega, fun t ht => ?_, fun t => ?_⟩
  · simp only [World.cell?, hh]
    match t with
    | 0 => rfl
    | t + 1 => omega
  · match t with
    | 0 => exact hx
    | t + 1 => simp
theorem hexln_nums (n : Nat) : unums (strOfNums (hexL n) ++ ⟨#[13, 10]⟩) = hexL n ++ [13, 10] := by
  have e : (strOfNums (hexL n) ++ ⟨#[13, 10]⟩ : ByteArray) = strOfNums (hexL n ++ [13, 10]) := by
    rw [← str_app]; rfl
  rw [e]
  have hb : Bytes (hexL n ++ [13, 10]) := bytes_app (bytes_hex n) bytes_line
  unfold unums
  rw [strOfNums_data, List.map_map]
  conv => rhs; rw [← List.map_id (hexL n ++ [13, 10])]
  apply List.map_congr_left
  intro x hx
  have := hb x hx
  simp [Function.comp]
  omega
theorem chunk_acc {s : Nat} (hs : 1 ≤ s) {D acc T : List Int} (hD : D ≠ []) (h : acc ++ chunkL s D = T) {n : Nat} (hn : n = min s D.length) :
    ((((acc ++ (hexL n ++ [13, 10])) ++ D.take n) ++ [13]) ++ [10]) ++ chunkL s (D.drop n) = T := by
  rw [← h, chunk_more hs hD]
  have e1 : D.take s = D.take n := by
    by_cases c : s ≤ D.length
    · rw [show n = s by omega]
    · rw [List.take_of_length_le (by omega), List.take_of_length_le (by omega)]
  have e2 : D.drop s = D.drop n := by
    by_cases c : s ≤ D.length
    · rw [show n = s by omega]
    · rw [List.drop_eq_nil_of_le (by omega), List.drop_eq_nil_of_le (by omega)]
  have e3 : (D.take n).length = n := by simp; omega
  rw [e1, e2]
  unfold piece
  rw [e3]
  simp
set_option maxHeartbeats 4000000 in
theorem rchunks_any (a : Option Addr) (len cap : Nat) (B : List Int) (size : Int) (w : World) (hA : Arg w a len cap B) (hi : I64 size) :
    Calls Tryd.prog 43 #[.slice a len cap, .int .i64 size] w fun e w' => ∃ v, e = .returned (.tuple #[v, .int .i64 (chunksF B size).1]) ∧ UOwn w' w.heap.size v (chunksF B size).2 ∧ Below w.heap.size w w' := by
  have hlen := hA.len
  have HA := vl hA
  have HNL : Vl (UOwn w w.heap.size (.slice none 0 0) []) := Or.inl ⟨rfl, rfl⟩
  obtain ⟨i1, i2⟩ := hi
  clear hA
  by_cases h1 : size < 1
  · have e1 : chunksF B size = (1, []) := by unfold chunksF; rw [if_pos (Or.inl h1)]
    rw [e1]
    go_enter Tryd.func43, Tryd.ntmps43
    go_wp2
    go_ret2
    exact ⟨_, rfl, HNL.out, Below.refl _ _⟩
  have h1' : 1 ≤ size := by omega
  by_cases h2 : 8000 < size
  · have e1 : chunksF B size = (1, []) := by unfold chunksF; rw [if_pos (Or.inr h2)]
    rw [e1]
    go_enter Tryd.func43, Tryd.ntmps43
    go_wp2
    go_ret2
    exact ⟨_, rfl, HNL.out, Below.refl _ _⟩
  have h2' : size ≤ 8000 := by omega
  by_cases h3 : 8000 < len
  · have e1 : chunksF B size = (4, []) := by unfold chunksF; rw [if_neg (by omega), if_pos (by omega)]
    have h3' : (8000 : Int) < (len : Int) := by omega
    rw [e1]
    go_enter Tryd.func43, Tryd.ntmps43
    go_wp2
    go_ret2
    exact ⟨_, rfl, HNL.out, Below.refl _ _⟩
  obtain ⟨s, rfl⟩ : ∃ s : Nat, size = s := ⟨size.toNat, by omega⟩
  have e1 : chunksF B (s : Int) = (0, chunkL s B) := by unfold chunksF; rw [if_neg (by omega), if_neg (by omega)]; simp
  rw [e1]
  have hs : 1 ≤ s := by omega
  have hs' : s ≤ 8000 := by omega
  have h3' : (len : Int) ≤ 8000 := by omega
  have hmx := chunk_len_le hs B.length B (Nat.le_refl _)
  clear e1 i1 i2 h1 h2 h1' h2' h3
  go_enter Tryd.func43, Tryd.ntmps43
  go_wp2_with fail
  go_loopw [0, 6] (fun x y wr => ∃ (t : Nat) (av : Option Addr) (cv : Nat) (acc : List Int), x = .slice av (len - t) cv ∧ t ≤ len ∧ Vl (Arg w av (len - t) cv (B.drop t)) ∧ Vl (UOwn wr w.heap.size y acc) ∧ Vl (Below w.heap.size w wr) ∧ Vl (acc ++ chunkL s (B.drop t) = chunkL s B)) (fun x _ _ => match x with | .slice _ n _ => n | _ => 0)
  case atStart => exact ⟨0, a, cap, [], by simp, Nat.zero_le _, HA.out, HNL.out, Below.refl _ _, rfl⟩
  case round =>
    obtain ⟨t, av, cv, acc, rfl, ht, HAv, HO, HB, HK⟩ := hrel
    have hal : acc.length ≤ 60000 := by
      have := congrArg List.length HK.out
      rw [List.length_append] at this
      omega
    obtain ⟨lf, hlf⟩ : ∃ lf, lf = len - t := ⟨_, rfl⟩
    rw [← hlf] at HAv ⊢
    have HLF := vl hlf
    have hlb : lf ≤ 8000 := by omega
    clear HNL hlf
    by_cases hz : lf = 0
    · subst hz
      have ed : B.drop t = [] := List.drop_eq_nil_of_le (by have := HLF.out; omega)
      have HF : Vl (acc ++ endL = chunkL s B) := by
        have := HK.out
        rw [ed, chunk_nil] at this
        exact this
      go_wp2_with (first | (at_builtin; refine wpList_uapps _ rfl _ _ rfl w.heap.size _ acc rfl HO.out _ rfl endL rfl (by simp [endL]; omega) HB.out.size ?_; intro v1 w1 ho1 hg1; have HO1 := vl ho1; have HB1 := vl (u_below_grown HB.out hg1 HB.out.size (fun k hk => (HO.out.base k hk).1)); clear ho1 hg1) | fail)
      go_ret2
      exact ⟨_, rfl, by rw [← HF.out]; exact HO1.out, HB1.out⟩
    · obtain ⟨g, off, rfl, hr⟩ : ∃ g off, av = some ⟨g, off, none⟩ ∧ Row w g off lf cv (B.drop t) := by
        rcases HAv.out with ⟨h0, _⟩ | h0
        · exact absurd h0 hz
        · exact h0
      have hcap := hr.hcap
      have hmax := hr.hmax
      unfold maxLen at hmax
      have HR := vl hr
      obtain ⟨n, hn⟩ : ∃ n, n = min s lf := ⟨_, rfl⟩
      have hz' : (0 : Int) < (lf : Int) := by omega
      have HST := vl (chunk_acc hs (D := B.drop t) (by intro e; have := congrArg List.length e; have h9 := hr.hlen; rw [e] at h9; simp at h9; omega) HK.out (n := n) (by rw [hr.hlen]; exact hn))
      have hn1 : 1 ≤ n := by omega
      have hn3 : n ≤ lf := by omega
      obtain ⟨o, ho, hcut⟩ := u_cut hr n (lf - n) (by omega)
      have HCUT := vl hcut
      clear HK hr hcut HAv hz
      have GO : Vl ((n : Int) = if (lf : Int) < (s : Int) then (lf : Int) else (s : Int)) := by show (n : Int) = _; split <;> omega
      by_cases hls : (lf : Int) < (s : Int)
      · obtain rfl : n = lf := by have := GO.out; rw [if_pos hls] at this; omega
        clear GO hn
        obtain ⟨t1, ht1⟩ : ∃ t1, strOfNums (hexL n) = t1 := ⟨_, rfl⟩
        have HX := vl (rhex_any n wr (by omega))
        have HN1 := vl (hexln_nums n)
        have hS : t1.size ≤ 8001 := by rw [← ht1, strOfNums_size]; have := hexL_le n; omega
        have hxl := hexL_le n
        rw [ht1] at HX HN1
        clear ht1
        go_wp2_with fail
        refine HX.out.mono ?_
        rintro r w' ⟨rfl, rfl⟩
        go_wp2_with (at_builtin; refine wpList_uapps _ rfl _ _ rfl w.heap.size _ acc rfl HO.out _ rfl (hexL n ++ [13, 10]) HN1.out (by simp; omega) HB.out.size ?_)
        intro v1 w1 ho1 hg1
        have HO1 := vl ho1
        have HB1 := vl (u_below_grown HB.out hg1 HB.out.size (fun k hk => (HO.out.base k hk).1))
        have HA1 : Vl (Arg w1 (some ⟨g, off, none⟩) n cv ((B.drop t).take n)) := Arg.below (w := w) (Or.inr ⟨g, off, rfl, HR.out.take n (by omega)⟩) HB1.out
        clear ho1 hg1 HO HB HX HN1
        go_wp2_with (at_builtin; refine wpList_uapp _ rfl _ _ rfl w.heap.size _ _ rfl HO1.out _ n cv _ rfl HA1.out (fun h => by cases h) (by simp; omega) HB1.out.size ?_)
        intro v2 w2 ho2 hg2
        have HO2 := vl ho2
        have HB2 := vl (u_below_grown HB1.out hg2 HB1.out.size (fun k hk => (HO1.out.base k hk).1))
        clear ho2 hg2 HO1 HB1 HA1
        have HO2' : Vl (UOwn (w2.alloc (.cells #[.int .u8 13] 5)) w.heap.size v2 _) := HO2.out.below ((Below.refl _ _).alloc (Nat.le_refl _) _)
        have HB2' : Vl (Below w.heap.size w (w2.alloc (.cells #[.int .u8 13] 5))) := HB2.out.alloc HB2.out.size _
        go_wp2_with (at_builtin; refine wpList_uapp _ rfl _ _ rfl w.heap.size _ _ rfl HO2'.out _ 1 1 _ rfl (one_arg w2 13 (by omega)) (fun h => by cases h) (by simp; omega) HB2'.out.size ?_)
        intro v3 w3 ho3 hg3
        have HO3 := vl ho3
        have HB3 := vl (u_below_grown HB2'.out hg3 HB2'.out.size (fun k hk => (HO2'.out.base k hk).1))
        clear ho3 hg3 HO2 HB2 HO2' HB2'
        have HO3' : Vl (UOwn (w3.alloc (.cells #[.int .u8 10] 5)) w.heap.size v3 _) := HO3.out.below ((Below.refl _ _).alloc (Nat.le_refl _) _)
        have HB3' : Vl (Below w.heap.size w (w3.alloc (.cells #[.int .u8 10] 5))) := HB3.out.alloc HB3.out.size _
        go_wp2_with (at_builtin; refine wpList_uapp _ rfl _ _ rfl w.heap.size _ _ rfl HO3'.out _ 1 1 _ rfl (one_arg w3 10 (by omega)) (fun h => by cases h) (by simp; omega) HB3'.out.size ?_)
        intro v4 w4 ho4 hg4
        have HO4 := vl ho4
        have HB4 := vl (u_below_grown HB3'.out hg4 HB3'.out.size (fun k hk => (HO3'.out.base k hk).1))
        clear ho4 hg4 HO3 HB3 HO3' HB3'
        go_wp2
        go_roundw
        case rel =>
          have hLF := HLF.out
          refine ⟨t + n, some ⟨g, o, none⟩, cv - n, _, ?_, by omega, ?_, HO4.out, HB4.out, ?_⟩
          · congr 1; omega
          · have hr2 := HCUT.out
            rw [List.drop_drop, List.take_of_length_le (by simp; omega)] at hr2
            have e9 := hr2.hlen
            rw [List.length_drop, hlen] at e9
            rw [e9]
            exact Or.inr ⟨g, o, rfl, hr2⟩
          · have h9 := HST.out
            rw [List.drop_drop] at h9
            show _ = _
            simpa using h9
        case measure => show _ < _; simp; try omega
      · obtain rfl : n = s := by have := GO.out; rw [if_neg hls] at this; omega
        clear GO hn
        obtain ⟨t1, ht1⟩ : ∃ t1, strOfNums (hexL n) = t1 := ⟨_, rfl⟩
        have HX := vl (rhex_any n wr (by omega))
        have HN1 := vl (hexln_nums n)
        have hS : t1.size ≤ 8001 := by rw [← ht1, strOfNums_size]; have := hexL_le n; omega
        have hxl := hexL_le n
        rw [ht1] at HX HN1
        clear ht1
        go_wp2_with fail
        refine HX.out.mono ?_
        rintro r w' ⟨rfl, rfl⟩
        go_wp2_with (at_builtin; refine wpList_uapps _ rfl _ _ rfl w.heap.size _ acc rfl HO.out _ rfl (hexL n ++ [13, 10]) HN1.out (by simp; omega) HB.out.size ?_)
        intro v1 w1 ho1 hg1
        have HO1 := vl ho1
        have HB1 := vl (u_below_grown HB.out hg1 HB.out.size (fun k hk => (HO.out.base k hk).1))
        have HA1 : Vl (Arg w1 (some ⟨g, off, none⟩) n cv ((B.drop t).take n)) := Arg.below (w := w) (Or.inr ⟨g, off, rfl, HR.out.take n (by omega)⟩) HB1.out
        clear ho1 hg1 HO HB HX HN1
        go_wp2_with (at_builtin; refine wpList_uapp _ rfl _ _ rfl w.heap.size _ _ rfl HO1.out _ n cv _ rfl HA1.out (fun h => by cases h) (by simp; omega) HB1.out.size ?_)
        intro v2 w2 ho2 hg2
        have HO2 := vl ho2
        have HB2 := vl (u_below_grown HB1.out hg2 HB1.out.size (fun k hk => (HO1.out.base k hk).1))
        clear ho2 hg2 HO1 HB1 HA1
        have HO2' : Vl (UOwn (w2.alloc (.cells #[.int .u8 13] 5)) w.heap.size v2 _) := HO2.out.below ((Below.refl _ _).alloc (Nat.le_refl _) _)
        have HB2' : Vl (Below w.heap.size w (w2.alloc (.cells #[.int .u8 13] 5))) := HB2.out.alloc HB2.out.size _
        go_wp2_with (at_builtin; refine wpList_uapp _ rfl _ _ rfl w.heap.size _ _ rfl HO2'.out _ 1 1 _ rfl (one_arg w2 13 (by omega)) (fun h => by cases h) (by simp; omega) HB2'.out.size ?_)
        intro v3 w3 ho3 hg3
        have HO3 := vl ho3
        have HB3 := vl (u_below_grown HB2'.out hg3 HB2'.out.size (fun k hk => (HO2'.out.base k hk).1))
        clear ho3 hg3 HO2 HB2 HO2' HB2'
        have HO3' : Vl (UOwn (w3.alloc (.cells #[.int .u8 10] 5)) w.heap.size v3 _) := HO3.out.below ((Below.refl _ _).alloc (Nat.le_refl _) _)
        have HB3' : Vl (Below w.heap.size w (w3.alloc (.cells #[.int .u8 10] 5))) := HB3.out.alloc HB3.out.size _
        go_wp2_with (at_builtin; refine wpList_uapp _ rfl _ _ rfl w.heap.size _ _ rfl HO3'.out _ 1 1 _ rfl (one_arg w3 10 (by omega)) (fun h => by cases h) (by simp; omega) HB3'.out.size ?_)
        intro v4 w4 ho4 hg4
        have HO4 := vl ho4
        have HB4 := vl (u_below_grown HB3'.out hg4 HB3'.out.size (fun k hk => (HO3'.out.base k hk).1))
        clear ho4 hg4 HO3 HB3 HO3' HB3'
        go_wp2
        go_roundw
        case rel =>
          have hLF := HLF.out
          refine ⟨t + n, some ⟨g, o, none⟩, cv - n, _, ?_, by omega, ?_, HO4.out, HB4.out, ?_⟩
          · congr 1; omega
          · have hr2 := HCUT.out
            rw [List.drop_drop, List.take_of_length_le (by simp; omega)] at hr2
            have e9 := hr2.hlen
            rw [List.length_drop, hlen] at e9
            rw [e9]
            exact Or.inr ⟨g, o, rfl, hr2⟩
          · have h9 := HST.out
            rw [List.drop_drop] at h9
            show _ = _
            simpa using h9
        case measure => show _ < _; simp; try omega
end Go.Proofs.YtgjolljhjagngafDoor
