/-
  CONTRACTS of the library's functions for digits to base 16: bits.TrailingZeros, strconv's own. No claim by itself.
-/
import Derived.Deep.DeepCutAuto
import Derived.Laws.BitsAllLaws
import Derived.RangeFuncCalls
import Derived.Test.YtglmppadhlkkgagGreatDoorG2
namespace Go.Proofs.YtglmppadhlkkgagGreatDoor
open Go Go.RowKit
set_option maxRecDepth 100000
/-- A row of one's own that has bytes, or none at all: what is not cells stays behind an append. -/
theorem UOwn.others {w w' : World} {base : Nat} {v : Value} {L : List Int} (h : UOwn w base v L) (hne : L = [] → v.ownBlock = none) (hg : w.grownBy w' v.ownBlock) : KeepsOthers w w' :=
  KeepsOthers.of_grownBy hg fun j o hj ho => by
    rcases h with ⟨rfl, _⟩ | ⟨g, cap, rfl, _, _, _, _, h5, _⟩
    · cases hj
    · have hL : L ≠ [] := fun e => by have := hne e; rw [this] at hj; cases hj
      have hc := h5 0 (List.length_pos_iff.2 hL)
      cases hj
      simp only [World.cell?, ho] at hc
      cases o <;> first | rfl | simp at hc
theorem others_of_below {w w' : World} (h : Below w.heap.size w w') : KeepsOthers w w' := ⟨h.size, fun k _ hk _ => (h.block k (Array.getElem?_eq_some_iff.1 hk).1).trans hk⟩
theorem ispow_16 (w : World) : Calls Tryz.prog 257 #[.int .i64 16] w fun e w' => e = .returned (.bool true) ∧ w = w' := by
  go_enter Tryz.func257, Tryz.ntmps257
  go_wp2
  go_ret
  exact ⟨rfl, rfl⟩
theorem tz64_16 (w : World) (hu : ULaid w) : Calls Tryz.prog 274 #[.int .u64 16] w fun e w' => e = .returned (.int .i64 4) ∧ w = w' := by
  have hc : w.cell? ⟨9, 15, none⟩ = some (.int .u8 4) := hu
  have hx : IntKind.u64.wrap (bits BinOp.and IntKind.u64 16 (IntKind.u64.wrap (-16)) * 285870213051353865) / 288230376151711744 = 15 := by decide +kernel
  go_enter Tryz.func274, Tryz.ntmps274
  go_wp2
  go_ret
  exact ⟨rfl, rfl⟩
theorem tz_16 (w : World) (hu : ULaid w) : Calls Tryz.prog 258 #[.int .u64 16] w fun e w' => e = .returned (.int .i64 4) ∧ w = w' := by
  go_enter Tryz.func258, Tryz.ntmps258
  go_wp2_with fail
  refine (tz64_16 w hu).mono ?_
  rintro _ _ ⟨rfl, rfl⟩
  go_wp2
  go_ret
  exact ⟨rfl, rfl⟩
theorem hexL_four {n : Nat} (h : n < 65536) : (hexL n).length ≤ 4 := by
  by_cases h1 : n < 16
  · rw [hexL_one h1]; simp
  rw [hexL_more h1]
  by_cases h2 : n / 16 < 16
  · rw [hexL_one h2]; simp
  rw [hexL_more h2]
  by_cases h3 : n / 16 / 16 < 16
  · rw [hexL_one h3]; simp
  rw [hexL_more h3, hexL_one (by omega)]; simp
/-- The cells of an array of bytes that is being filled from its end. -/
structure Fa (w : World) (g i : Nat) (T : List Int) : Prop where
  sum : i + T.length = 65
  cell : ∀ t, t < T.length → w.cell? ⟨g, i + t, none⟩ = some (.int .u8 (T.getD t 0))
  there : ∀ t, t < 65 → (w.cell? ⟨g, t, none⟩).isSome = true
  froz : ∀ t, t < 65 → w.frozen? ⟨g, t, none⟩ = false
theorem Fa.put {w : World} {g i : Nat} {T : List Int} (h : Fa w g i T) (j : Nat) (hj : i = j + 1) (c : Int) : Fa (w.setCell ⟨g, j, none⟩ (.int .u8 c)) g j (c :: T) := by
  have hs := h.sum
  have hold : ∃ v, w.cell? ⟨g, j, none⟩ = some v := Option.isSome_iff_exists.1 (h.there j (by omega))
  obtain ⟨v, hv⟩ := hold
  refine ⟨by simp; omega, fun t ht => ?_, fun t ht => ?_, fun t ht => by rw [World.frozen?_setCell]; exact h.froz t ht⟩
  · match t with
    | 0 => rw [Nat.add_zero, World.cell?_setCell_same w _ _ hv]; rfl
    | t + 1 =>
      rw [World.cell?_setCell_other w _ _ _ (by simp), show j + (t + 1) = i + t by omega, h.cell t (by simp at ht; omega)]
      rfl
  · by_cases e : j = t
    · subst e; rw [World.cell?_setCell_same w _ _ hv]; rfl
    · rw [World.cell?_setCell_other w _ _ _ (by simp)]; exact h.there t ht
def dig36 : ByteArray := ⟨#[48, 49, 50, 51, 52, 53, 54, 55, 56, 57, 97, 98, 99, 100, 101, 102, 103, 104, 105, 106, 107, 108, 109, 110, 111, 112, 113, 114, 115, 116, 117, 118, 119, 120, 121, 122]⟩
theorem hx_at {d : Nat} (h : d < 16) (h' : d < dig36.size) : ((dig36[d]'h').toNat : Int) = hx d := by
  match d with
  | 0 => rfl
  | 1 => rfl
  | 2 => rfl
  | 3 => rfl
  | 4 => rfl
  | 5 => rfl
  | 6 => rfl
  | 7 => rfl
  | 8 => rfl
  | 9 => rfl
  | 10 => rfl
  | 11 => rfl
  | 12 => rfl
  | 13 => rfl
  | 14 => rfl
  | 15 => rfl
  | d + 16 => omega
theorem slice_arr (w : World) (G j : Nat) (hj : j < 65) : (Instr.sliceAt 289 (.pointer (some ⟨G, 0, none⟩)) (some (.int .i64 (j : Int))) none none).run Tryz.prog w = .ok (.slice (some ⟨G, j, none⟩) (65 - j) (65 - j)) w := by
  have hl : Tryz.prog.arrayLen 289 = 65 := by kernel_rfl
  have he : Tryz.prog.elem 289 = 5 := by kernel_rfl
  have hs : (sizeOf 5).run Tryz.prog w = .ok 1 w := by kernel_rfl
  rw [run_sliceAt_array_l w 289 _ (by kernel_rfl) .i64 (j : Int) (by omega) (by rw [hl]; omega), hl, he, hs]
  have h65 : ¬ (65 = j) := by omega
  simp [Result.andThen, slicedAt, Addr.add, h65]
  try omega
theorem Fa.arg {w : World} {g i : Nat} {T : List Int} (h : Fa w g i T) (hb : Bytes T) : Arg w (some ⟨g, i, none⟩) (65 - i) (65 - i) T := by
  have hs := h.sum
  have e : 65 - i = T.length := by omega
  rw [e]
  exact Or.inr ⟨g, i, rfl, rfl, Nat.le_refl _, by unfold maxLen; omega, h.cell, bytes_getD hb⟩
def zarr : Array Value := Array.replicate 65 (.int .u8 0)
theorem zero_arr (w : World) : (zeroValue 289).run Tryz.prog w = .ok (.agg zarr) w := by kernel_rfl
theorem fa_start (w : World) : Fa (w.alloc (.cells zarr 289)) w.heap.size 65 [] := by
  have hh : (w.alloc (.cells zarr 289)).heap[w.heap.size]? = some (.cells zarr 289 (0, 0)) := heap_alloc_new w _
  refine ⟨rfl, fun t ht => by simp at ht, fun t ht => ?_, fun t ht => ?_⟩
  · simp only [World.cell?, hh]
    simp [zarr, ht]
  · unfold World.frozen?; rw [hh]; simp
set_option maxHeartbeats 2000000 in
theorem fbits_16 (base : Nat) (v : Value) (L : List Int) (n : Nat) (w : World) (hu : ULaid w) (ho : UOwn w base v L) (hne : L = [] → v.ownBlock = none) (hn : n < 65536) (hL : L.length ≤ 1000000) (hb : base ≤ w.heap.size) :
    Calls Tryz.prog 226 #[v, .int .u64 n, .int .i64 16, .bool false, .bool true] w fun e w' => ∃ v', e = .returned (.tuple #[v', .string .empty]) ∧ UOwn w' base v' (L ++ hexL n) ∧ Below base w w' ∧ KeepsOthers w w' := by
  have HU := vl hu
  have HO := vl ho
  have HNE := vl hne
  have hz := zero_arr w
  clear hu ho hne
  obtain ⟨W1, hW1⟩ : ∃ W1, W1 = w.alloc (.cells zarr 289) := ⟨_, rfl⟩
  have HF1 := vl (fa_start w)
  rw [← hW1] at HF1
  have HB1 : Vl (Below w.heap.size w W1) := by rw [hW1]; exact (Below.refl _ _).alloc (Nat.le_refl _) _
  have HP := vl (ispow_16 W1)
  have HT := vl (tz_16 W1 (HU.out.below HB1.out))
  obtain ⟨G, hG⟩ : ∃ G, G = w.heap.size := ⟨_, rfl⟩
  have HG := vl hG
  rw [← hG] at HF1
  go_enter Tryz.func226, Tryz.ntmps226
  go_wp2_with fail
  rw [← hW1, ← hG]
  clear hW1 hG hz
  refine HP.out.mono ?_
  rintro e w2 ⟨rfl, rfl⟩
  clear HP
  go_wp2_with fail
  refine HT.out.mono ?_
  rintro e w2 ⟨rfl, rfl⟩
  clear HT
  go_wp2_with fail
  go_loopw [1, 13] (fun x y wr => ∃ (u i : Nat) (T : List Int), x = .int .u64 u ∧ y = .int .i64 i ∧ u ≤ n ∧ Vl (Fa wr G i T) ∧ Vl (hexL u ++ T = hexL n) ∧ Vl (Below w.heap.size w wr) ∧ Vl (KeepsOthers w wr)) (fun x _ _ => (intOf x).toNat)
  case atStart => exact ⟨n, 65, [], rfl, rfl, Nat.le_refl _, HF1.out, (by show _ ++ _ = _; rw [List.append_nil]), HB1.out, others_of_below HB1.out⟩
  case round =>
    obtain ⟨u, i, T, rfl, rfl, hun, HF, HX, HB, HK⟩ := hrel
    clear HF1 HB1
    have hi : T.length + 1 ≤ 4 := by
      have h1 := congrArg List.length HX.out
      rw [List.length_append] at h1
      have h2 := hexL_pos u
      have h3 := hexL_four hn
      omega
    have hsum := HF.out.sum
    obtain ⟨j, rfl⟩ : ∃ j, i = j + 1 := ⟨i - 1, by omega⟩
    have hj : j < 65 := by omega
    have fz := HF.out.froz j hj
    obtain ⟨old, hold⟩ := Option.isSome_iff_exists.1 (HF.out.there j hj)
    have hGw : w.heap.size ≤ G := Nat.le_of_eq HG.out.symm
    by_cases h16 : u < 16
    · have h16' : ¬ ((16 : Int) ≤ (u : Int)) := by omega
      have hsl := fun W => slice_arr W G j hj
      have HF2 := vl (HF.out.put j rfl (hx u))
      have HX2 : Vl (hx u :: T = hexL n) := by
        show _ = _
        rw [← HX.out, hexL_one h16]; rfl
      have hix := hx_at h16 (by have e36 : dig36.size = 36 := rfl; omega)
      unfold dig36 at hix
      have HBS := vl (bytes_hex n)
      have HB2 := vl (HB.out.setCell (p := ⟨G, j, none⟩) hGw (.int .u8 (hx u)))
      obtain ⟨W2, hW2⟩ : ∃ W2, W2 = wr.setCell ⟨G, j, none⟩ (.int .u8 (hx u)) := ⟨_, rfl⟩
      have HK2 := vl (HK.out.trans (KeepsOthers.setCell wr ⟨G, j, none⟩ (.int .u8 (hx u))))
      rw [← hW2] at HF2 HB2 HK2
      rw [HX2.out] at HF2
      have HO2 := vl (HO.out.below HB2.out)
      have HA2 := vl (HF2.out.arg HBS.out)
      have hlen := hexL_four hn
      have hbs : base ≤ W2.heap.size := Nat.le_trans hb HB2.out.size
      have HXN := vl HX2.out
      clear HX hun hsum hi
      go_wp2_with (rw [← hW2]; at_builtin; refine wpList_uapp _ rfl _ _ rfl base _ L rfl HO2.out _ (65 - j) (65 - j) (hexL n) rfl HA2.out (fun h => by cases h) (by omega) hbs ?_)
      intro v3 w3 ho3 hg3
      rw [← hW2] at hg3
      have HO3 := vl ho3
      have HB3 := vl (u_below_grown (HB2.out.mono hb) hg3 hbs (fun k hk => (HO2.out.base k hk).1))
      have HK3 := vl (HK2.out.trans (HO2.out.others HNE.out hg3))
      clear ho3 hg3
      go_wp2
      go_ret2
      exact ⟨_, rfl, HO3.out, HB3.out, HK3.out⟩
    · have h16' : (16 : Int) ≤ (u : Int) := by omega
      have hd := u64_and_nat u 15 (by omega) (by omega)
      rw [show u &&& 15 = u % 16 from Nat.and_two_pow_sub_one_eq_mod u 4] at hd
      have hd' : bits BinOp.and IntKind.u64 (u : Int) 15 = ((u % 16 : Nat) : Int) := hd
      have hd2 : u % 16 < 16 := by omega
      have HF2 := vl (HF.out.put j rfl (hx (u % 16)))
      have HX2 : Vl (hexL (u / 16) ++ hx (u % 16) :: T = hexL n) := by
        show _ = _
        rw [← HX.out, hexL_more h16]; simp
      obtain ⟨d, hde⟩ : ∃ d, d = u % 16 := ⟨_, rfl⟩
      rw [← hde] at hd' hd2 HF2 HX2
      have hix := hx_at hd2 (by have e36 : dig36.size = 36 := rfl; omega)
      unfold dig36 at hix
      clear hd hde HX hi hsum
      go_wp2
      go_roundw
      case rel => exact ⟨u / 16, j, _, by go_num, rfl, by omega, HF2.out, HX2.out, HB.out.setCell (p := ⟨G, j, none⟩) hGw _, HK.out.trans (KeepsOthers.setCell _ _ _)⟩
      case measure => simp [intOf]; omega
theorem iappu_16 (base : Nat) (v : Value) (L : List Int) (n : Nat) (w : World) (hu : ULaid w) (ho : UOwn w base v L) (hne : L = [] → v.ownBlock = none) (hn : n < 65536) (hL : L.length ≤ 1000000) (hb : base ≤ w.heap.size) :
    Calls Tryz.prog 272 #[v, .int .u64 n, .int .i64 16] w fun e w' => ∃ v', e = .returned v' ∧ UOwn w' base v' (L ++ hexL n) ∧ Below base w w' ∧ KeepsOthers w w' := by
  have H := vl (fbits_16 base v L n w hu ho hne hn hL hb)
  clear hu ho hne
  go_enter Tryz.func272, Tryz.ntmps272
  go_wp2_with fail
  refine H.out.mono ?_
  rintro e w1 ⟨v1, rfl, ho1, hb1, hk1⟩
  go_wp2
  go_ret
  exact ⟨_, rfl, ho1, hb1, hk1⟩
theorem iappi_16 (base : Nat) (v : Value) (L : List Int) (n : Nat) (w : World) (hu : ULaid w) (ho : UOwn w base v L) (hne : L = [] → v.ownBlock = none) (hn : n < 65536) (hL : L.length ≤ 1000000) (hb : base ≤ w.heap.size) :
    Calls Tryz.prog 253 #[v, .int .i64 n, .int .i64 16] w fun e w' => ∃ v', e = .returned v' ∧ UOwn w' base v' (L ++ hexL n) ∧ Below base w w' ∧ KeepsOthers w w' := by
  have H := vl (iappu_16 base v L n w hu ho hne hn hL hb)
  have h0 : ¬ ((n : Int) < 0) := by omega
  clear hu ho hne
  go_enter Tryz.func253, Tryz.ntmps253
  go_wp2_with fail
  refine H.out.mono ?_
  rintro e w1 ⟨v1, rfl, ho1, hb1, hk1⟩
  go_wp2
  go_ret
  exact ⟨_, rfl, ho1, hb1, hk1⟩
/-- A number's digits behind bytes of one's own. -/
theorem sappi_16 (base : Nat) (v : Value) (L : List Int) (n : Nat) (w : World) (hu : ULaid w) (ho : UOwn w base v L) (hne : L = [] → v.ownBlock = none) (hn : n < 65536) (hL : L.length ≤ 1000000) (hb : base ≤ w.heap.size) :
    Calls Tryz.prog 222 #[v, .int .i64 n, .int .i64 16] w fun e w' => ∃ v', e = .returned v' ∧ UOwn w' base v' (L ++ hexL n) ∧ Below base w w' ∧ KeepsOthers w w' := by
  have H := vl (iappi_16 base v L n w hu ho hne hn hL hb)
  clear hu ho hne
  go_enter Tryz.func222, Tryz.ntmps222
  go_wp2_with fail
  refine H.out.mono ?_
  rintro e w1 ⟨v1, rfl, ho1, hb1, hk1⟩
  go_wp2
  go_ret
  exact ⟨_, rfl, ho1, hb1, hk1⟩
end Go.Proofs.YtglmppadhlkkgagGreatDoor
