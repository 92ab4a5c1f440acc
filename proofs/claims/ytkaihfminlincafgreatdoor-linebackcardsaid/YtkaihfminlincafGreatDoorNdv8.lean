/-
  MESSAGES AS LINES: the developers' reader: value, digit, code, length. No claim by itself.
-/
import Derived.Test.YtkaihfminlincafGreatDoorNdv7
import Derived.Deep.DeepCutAuto
import Derived.Deep.CutBlock
import Derived.Deep.LoopGhost
namespace Go.Proofs.YtkaihfminlincafGreatDoor
open Go Go.RowKit Go.Shelf
set_option maxRecDepth 100000
attribute [local go_sem] run_store_func run_store_nilFunc
theorem bind_assoc {α β γ : Type} [Inhabited β] [Inhabited γ] (p : Pz α) (g : α → Pz β) (f : β → Pz γ) : bindP (bindP p g) f = bindP p fun x => bindP (g x) f := by
  funext b
  unfold bindP
  by_cases h : (p b).1 = 0
  · simp [h]
  · simp [h]
theorem bind_ret {α β : Type} [Inhabited β] (v : α) (f : α → Pz β) : bindP (retP v) f = f v := by
  funext b
  simp [bindP, retP]
theorem bind_look {α β : Type} [Inhabited α] [Inhabited β] (g : Int → Pz α) (f : α → Pz β) : bindP (lookP g) f = lookP fun c => bindP (g c) f := by
  funext b
  match b with
  | [] => simp [bindP, lookP]
  | c :: r => rfl
section
variable {β : Type} [Inhabited β] {G : Int × β × List Int} {w0 wx : World} {lb : Nat} {a : Option Addr} {len cap : Nat} {Z : List Int}
set_option maxHeartbeats 1000000 in
theorem value_st {f : List Int → Pz β} (least : Nat) (h : Dst G (bindP (valP least) f) w0 wx lb a len cap Z) :
    Calls Tryz.prog 15 #[rptr lb, .int .i64 (least : Int)] wx fun e w' => ∃ s : ByteArray, e = .returned (.string s) ∧ Dst G (f (unums s)) w0 w' lb a len cap Z ∧ Tr lb wx w' ∧ s.size ≤ 400 := by
  unfold valP at h
  rw [bind_assoc] at h
  have hd0 := h.on (Below.refl _ wx).drew
  have HD := vl hd0
  have H1 := vl (nplainf_any (least : Int) wx.drew)
  have HX : Vl (∀ w1, Below wx.drew.heap.size wx.drew w1 → Calls Tryz.prog 11 #[rptr lb, formV least (.func (.func 59) #[] #[]), .int .u8 13] w1 fun e w' => ∃ s : ByteArray, e = .returned (.string s) ∧ Dst G (bindP (bindP (mtsP [10]) fun _ => retP (unums s)) f) w0 w' lb a len cap Z ∧ Tr lb w1 w' ∧ s.size ≤ 400) := fun w1 hb => text_st 13 ok3 least _ (lb + 1) (mayf_plain w1 _) (by omega) (HD.out.on hb)
  unfold rptr formV at HX
  unfold formV at H1
  unfold rptr
  clear h hd0
  go_enter Tryz.func15, Tryz.ntmps15
  go_wp2_with fail
  go_region_held3 (fun _ => True) (trivial)
    (first
      | (go_at_call 24; refine H1.out.mono ?_; rintro e w1 ⟨rfl, hb⟩)
      | (go_at_call 11; refine (HX.out _ hb).mono ?_; rintro e w2 ⟨s, rfl, hd2, ht2, hs2⟩))
  all_goals
    have HW := vl (word_st (s := ⟨#[10]⟩) (by decide) (show Dst G (bindP (mtsP (unums ⟨#[10]⟩)) fun _ => f (unums s)) w0 w2 lb a len cap Z from (by rw [bind_assoc] at hd2; exact hd2)))
    have HT : Vl (Tr lb wx w2) := (Tr.of ((Below.refl _ wx).drew.trans hb)).trans ht2
    have HS := vl hs2
    unfold rptr at HW
    clear hb hd2 ht2 hs2 HX H1
    go_wp2_with (go_at_call 14; refine HW.out.mono ?_; rintro e w3 ⟨rfl, hd3, ht3⟩)
    go_ret
    exact ⟨s, rfl, hd3, HT.out.trans ht3, HS.out⟩
/- digits -/
def dgB (least most c : Int) : Bool := decide (least + 48 ≤ c) && decide (c ≤ most + 48)
theorem dig_is {f : Int → Pz β} (least most : Int) : bindP (digQ least most) f = bindP (nxtP (dgB least most)) fun c => f (c - 48) := by
  funext b
  match b with
  | [] => rfl
  | c :: r =>
    unfold bindP digQ lookP nxtP dgB
    by_cases h : least + 48 ≤ c ∧ c ≤ most + 48
    · simp [h, bindP, skipP, retP]
    · have h2 : ¬ ((decide (least + 48 ≤ c) && decide (c ≤ most + 48)) = true) := by simpa using h
      simp [h, h2, failP]
end
theorem ndigit1_any (b1 b2 : Nat) (least most c : Int) (w : World) (h1 : w.cell? ⟨b1, 0, none⟩ = some (.int .i64 least)) (h2 : w.cell? ⟨b2, 0, none⟩ = some (.int .i64 most)) (hc0 : 0 ≤ c) (hc1 : c < 256) (hl : 0 ≤ least) (hm : most ≤ 9) :
    Calls Tryz.prog 68 #[.int .u8 c, .pointer (some ⟨b1, 0, none⟩), .pointer (some ⟨b2, 0, none⟩)] w fun e w' => e = .returned (.bool (dgB least most c)) ∧ Below w.heap.size w w' := by
  have H := vl (nisd_any c w)
  by_cases hd : 48 ≤ c ∧ c ≤ 57
  · have e1 : dg c = true := by unfold dg; simp [hd]
    rw [e1] at H
    obtain ⟨k, rfl⟩ : ∃ k : Int, c = k + 48 := ⟨c - 48, by omega⟩
    have hk0 : 0 ≤ k := by omega
    have hk9 : k ≤ 9 := by omega
    have hw : IntKind.u8.wrap (k + 48 - 48) = k := by rw [show k + 48 - 48 = k by omega]; unfold IntKind.wrap; simp [IntKind.bits, IntKind.signed]; omega
    by_cases c1 : least ≤ k
    · by_cases c2 : k ≤ most
      · go_enter Tryz.func68, Tryz.ntmps68
        go_wp2_with (go_at_call 49; refine H.out.mono ?_; rintro e w' ⟨rfl, rfl⟩)
        go_ret
        exact ⟨by unfold dgB; rw [decide_eq_true (by omega), decide_eq_true (by omega)]; rfl, Below.refl _ _⟩
      · have e2 : dgB least most (k + 48) = false := by unfold dgB; rw [decide_eq_false (show ¬ k + 48 ≤ most + 48 by omega), Bool.and_false]
        rw [e2]
        have hdf : decide (k ≤ most) = false := decide_eq_false c2
        clear e2
        go_enter Tryz.func68, Tryz.ntmps68
        go_wp2_with (go_at_call 49; refine H.out.mono ?_; rintro e w' ⟨rfl, rfl⟩)
        go_ret
        exact ⟨by first | rfl | simp [hdf], Below.refl _ _⟩
    · go_enter Tryz.func68, Tryz.ntmps68
      go_wp2_with (go_at_call 49; refine H.out.mono ?_; rintro e w' ⟨rfl, rfl⟩)
      go_ret
      exact ⟨by unfold dgB; rw [decide_eq_false (show ¬ least + 48 ≤ k + 48 by omega), Bool.false_and]; rfl, Below.refl _ _⟩
  · have e1 : dg c = false := by
      unfold dg
      rw [Bool.eq_false_iff]
      simpa using hd
    rw [e1] at H
    have e2 : dgB least most c = false := by
      unfold dgB
      rw [Bool.eq_false_iff]
      simp
      omega
    rw [e2]
    go_enter Tryz.func68, Tryz.ntmps68
    go_wp2_with (go_at_call 49; refine H.out.mono ?_; rintro e w' ⟨rfl, rfl⟩)
    go_ret
    exact ⟨rfl, Below.refl _ _⟩
section
variable {β : Type} [Inhabited β] {G : Int × β × List Int} {w0 wx : World} {lb : Nat} {a : Option Addr} {len cap : Nat} {Z : List Int}
theorem digit_st {f : Int → Pz β} (least most : Int) (hl : 0 ≤ least) (hm : most ≤ 9) (h : Dst G (bindP (digQ least most) f) w0 wx lb a len cap Z) :
    Calls Tryz.prog 56 #[rptr lb, .int .i64 least, .int .i64 most] wx fun e w' => ∃ v : Int, e = .returned (.int .i64 v) ∧ -48 ≤ v ∧ v ≤ 207 ∧ Dst G (f v) w0 w' lb a len cap Z ∧ Tr lb wx w' := by
  rw [dig_is] at h
  obtain ⟨W2, hW2⟩ : ∃ W2, (wx.alloc (.cells #[.int .i64 least] 3)).alloc (.cells #[.int .i64 most] 3) = W2 := ⟨_, rfl⟩
  have hb2 : Below wx.heap.size wx W2 := by rw [← hW2]; exact ((Below.refl _ wx).alloc (Nat.le_refl _) _).alloc (by simp) _
  have e1 : W2.heap[wx.heap.size]? = some (.cells #[.int .i64 least] 3 (0, 0)) := by rw [← hW2, Below.heap_alloc _ _ _ (by simp)]; exact heap_alloc_new wx _
  have e2 : W2.heap[wx.heap.size + 1]? = some (.cells #[.int .i64 most] 3 (0, 0)) := by
    rw [← hW2]
    have := heap_alloc_new (wx.alloc (.cells #[.int .i64 least] 3)) (.cells #[.int .i64 most] 3 (0, 0))
    simpa using this
  have HN := vl (next_st (fg := 68) (fb := #[.pointer (some ⟨wx.heap.size, 0, none⟩), .pointer (some ⟨wx.heap.size + 1, 0, none⟩)]) (h.on hb2) (enters_of Tryz.func68 (by kernel_rfl) rfl) (fun c W c0 c1 hb => ndigit1_any _ _ least most c W (o1 ((hb.block _ (Array.getElem?_eq_some_iff.1 e1).1).trans e1)).1 (o1 ((hb.block _ (Array.getElem?_eq_some_iff.1 e2).1).trans e2)).1 c0 c1 hl hm))
  have HT : Vl (Tr lb wx W2) := Tr.of hb2
  unfold rptr at HN ⊢
  clear h hb2 e1 e2
  go_enter Tryz.func56, Tryz.ntmps56
  go_wp2_with fail
  try rw [hW2]
  clear hW2
  refine HN.out.mono ?_
  rintro e w3 ⟨c, rfl, c0, c1, hd, ht⟩
  have HD := vl hd
  have HT3 : Vl (Tr lb wx w3) := HT.out.trans ht
  clear hd ht HN
  go_wp2
  go_ret
  exact ⟨c - 48, rfl, by omega, by omega, HD.out, HT3.out⟩
set_option maxHeartbeats 1000000 in
theorem code_st {f : Int → Pz β} (h : Dst G (bindP codeQ f) w0 wx lb a len cap Z) :
    Calls Tryz.prog 33 #[rptr lb] wx fun e w' => ∃ v : Int, e = .returned (.int .i64 v) ∧ -6000 ≤ v ∧ v ≤ 24000 ∧ Dst G (f v) w0 w' lb a len cap Z ∧ Tr lb wx w' := by
  unfold codeQ at h
  simp only [bind_assoc, bind_ret] at h
  have H1 := vl (digit_st 1 5 (by omega) (by omega) h)
  unfold rptr at H1 ⊢
  clear h
  go_enter Tryz.func33, Tryz.ntmps33
  go_wp2_with fail
  refine H1.out.mono ?_
  rintro e w1 ⟨v1, rfl, v1a, v1b, hd1, ht1⟩
  have H2 := vl (digit_st 0 9 (by omega) (by omega) hd1)
  have HT1 := vl ht1
  unfold rptr at H2
  clear H1 hd1 ht1
  go_wp2_with fail
  refine wp_loop_rounds 3 ?_
  rw [rounds_succ]
  go_wp2_with fail
  refine H2.out.mono ?_
  rintro e w2 ⟨v2, rfl, v2a, v2b, hd2, ht2⟩
  have H3 := vl (digit_st 0 9 (by omega) (by omega) hd2)
  have HT2 : Vl (Tr lb wx w2) := HT1.out.trans ht2
  unfold rptr at H3
  clear H2 hd2 ht2 HT1
  go_wp2_with fail
  rw [rounds_succ]
  go_wp2_with fail
  refine H3.out.mono ?_
  rintro e w3 ⟨v3, rfl, v3a, v3b, hd3, ht3⟩
  have H4 := vl (word_st (s := ⟨#[13, 10]⟩) (by decide) hd3)
  have HT3 : Vl (Tr lb wx w3) := HT2.out.trans ht3
  unfold rptr at H4
  clear H3 hd3 ht3 HT2
  go_wp2_with fail
  rw [rounds_succ]
  go_wp2_with fail
  refine H4.out.mono ?_
  rintro e w4 ⟨rfl, hd4, ht4⟩
  have HD4 := vl hd4
  have HT4 : Vl (Tr lb wx w4) := HT3.out.trans ht4
  clear H4 hd4 ht4 HT3
  go_wp2
  go_ret
  exact ⟨10 * (10 * v1 + v2) + v3, by go_num, by omega, by omega, HD4.out, HT4.out⟩
end
end Go.Proofs.YtkaihfminlincafGreatDoor
