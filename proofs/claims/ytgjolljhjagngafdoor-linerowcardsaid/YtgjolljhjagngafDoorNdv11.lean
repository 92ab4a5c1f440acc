/-
  MESSAGES AS LINES: the developers' reader: fault, rest, pieces. No claim by itself.
-/
import Derived.Test.YtgjolljhjagngafDoorNdv10
import Derived.Test.YtgjolljhjagngafDoorNis
import Derived.Test.YtgjolljhjagngafDoorUdec
import Derived.Test.YtgjolljhjagngafDoorNrtm
namespace Go.Proofs.YtgjolljhjagngafDoor
open Go Go.RowKit Go.Shelf
set_option maxRecDepth 100000
theorem fault_any (lb : Nat) (a : Option Addr) (len cap : Nat) (p bad : Int) (w : World) (h : RM w lb a len cap p bad) :
    Calls Tryd.prog 61 #[rptr lb] w fun e w' => e = .returned (errW (if bad = 8 ∧ 20000 < len then 4 else bad)) ∧ w = w' := by
  have c0 := h.c0
  have c2 := h.c2
  have HN := vl (nis_any bad w)
  unfold rptr
  by_cases h1 : bad = 8
  · subst h1
    rw [decide_eq_true rfl] at HN
    rw [errW_ne (by omega)] at c2 HN
    by_cases h2 : 20000 < len
    · rw [if_pos ⟨rfl, h2⟩, errW_ne (by omega)]
      have h3 : (20000 : Int) < (len : Int) := by omega
      clear h
      go_enter Tryd.func61, Tryd.ntmps61
      go_wp2_with (go_at_call 100; refine HN.out.mono ?_; rintro e w' ⟨rfl, rfl⟩)
      go_ret
      exact ⟨rfl, rfl⟩
    · rw [if_neg (fun h => h2 h.2), errW_ne (by omega)]
      have h3 : ¬ (20000 : Int) < (len : Int) := by omega
      clear h
      go_enter Tryd.func61, Tryd.ntmps61
      go_wp2_with (go_at_call 100; refine HN.out.mono ?_; rintro e w' ⟨rfl, rfl⟩)
      go_ret
      exact ⟨rfl, rfl⟩
  · rw [decide_eq_false h1] at HN
    rw [if_neg (fun h => h1 h.1)]
    clear h1 h
    generalize errW bad = v at *
    go_enter Tryd.func61, Tryd.ntmps61
    go_wp2_with (go_at_call 100; refine HN.out.mono ?_; rintro e w' ⟨rfl, rfl⟩)
    go_ret
    exact ⟨rfl, rfl⟩
section
variable {β : Type} [Inhabited β] {G : Int × β × List Int} {w0 wx : World} {lb : Nat} {a : Option Addr} {len cap : Nat} {Z : List Int}
/-- What body answers, with a fault or without. -/
theorem body_st {f : List Int → Pz β} (n : Int) (hn : -100000 ≤ n ∧ n ≤ 140737488351232) (hnil : a = none → len = 0) (h : Dst G (bindP (bodyP n.toNat) f) w0 wx lb a len cap Z) (hpos : 0 ≤ n ∨ ∃ q bad, RS w0 wx lb a len cap Z q bad ∧ bad ≠ 0) :
    Calls Tryd.prog 60 #[rptr lb, .int .i64 n] wx fun e w' => ∃ v B, e = .returned v ∧ UOwn w' wx.heap.size v B ∧ Dst G (f B) w0 w' lb a len cap Z ∧ Tr lb wx w' ∧ (B.length ≤ 140737488351232 ∧ ∀ x ∈ B, x ∈ Z) := by
  obtain ⟨q, bad, h1, hc⟩ := h
  have hle := h1.le
  have hm := h1.most
  have hz := h1.zlen
  rcases hc with ⟨rfl, h2⟩ | ⟨h2, h3⟩
  · have hp : 0 ≤ n := by
      rcases hpos with h | ⟨q', bad', h3, h4⟩
      · exact h
      · exfalso
        have e1 := h1.mem.c2
        have e2 := h3.mem.c2
        rw [e1, errW_0, errW_ne h4] at e2
        cases e2
    obtain ⟨k, rfl⟩ : ∃ k : Nat, n = k := ⟨n.toNat, by omega⟩
    rw [Int.toNat_natCast] at h2
    refine (body_go w0 lb a len cap Z q k wx h1 hnil (by omega)).mono ?_
    rintro e w' ⟨⟨hq, v, rfl, ho, hs⟩ | ⟨hq, rfl, hs⟩, ht⟩
    · have e1 : bodyP k (Z.drop q) = (0, (Z.drop q).take k, Z.drop (q + k)) := by
        unfold bodyP
        rw [if_neg (by simp; omega), List.drop_drop]
      refine ⟨v, _, rfl, ho, ⟨q + k, 0, hs, Or.inl ⟨rfl, by rw [h2, bindP_ok e1]⟩⟩, ht, ⟨by simp; omega, fun x hx => List.mem_of_mem_drop (List.mem_of_mem_take hx)⟩⟩
    · have e1 : (bodyP k (Z.drop q)).1 = 8 := by
        unfold bodyP
        rw [if_pos (by simp; omega)]
      exact ⟨_, [], rfl, Or.inl ⟨rfl, rfl⟩, ⟨q, 8, hs, Or.inr ⟨by omega, by rw [h2, bindP_no (by rw [e1]; omega), e1]⟩⟩, ht, ⟨by simp, fun x hx => by cases hx⟩⟩
  · unfold ULim at hm
    refine (body_no lb a len cap q bad n wx h1.mem h2 (by omega) (by omega) h1.most).mono ?_
    rintro e w' ⟨rfl, hb⟩
    exact ⟨_, [], rfl, Or.inl ⟨rfl, rfl⟩, ⟨q, bad, h1.on hb, Or.inr ⟨h2, h3⟩⟩, Tr.of hb, ⟨by simp, fun x hx => by cases hx⟩⟩
set_option maxHeartbeats 2000000 in
theorem rest_st {f : List Int → Pz β} (closed : Bool) (hcl : closed = true → len ≤ 140737488351232) (hnil : a = none → len = 0) (h : Dst G (bindP (restP closed) f) w0 wx lb a len cap Z) :
    Calls Tryd.prog 66 #[rptr lb, .bool closed] wx fun e w' => ∃ v B, e = .returned v ∧ UOwn w' wx.heap.size v B ∧ Dst G (f B) w0 w' lb a len cap Z ∧ Tr lb wx w' ∧ (B.length ≤ 140737488351232 ∧ ∀ x ∈ B, x ∈ Z) := by
  obtain ⟨q, bad, h1, hc⟩ := h
  have hle := h1.le
  have hm := h1.most
  have hz := h1.zlen
  unfold ULim at hm
  have hlq : (len : Int) - (q : Int) = ((len - q : Nat) : Int) := by omega
  -- behind the test
  have tail : ∀ (bad' : Int) (W : World), RS w0 W lb a len cap Z q bad' → Tr lb wx W → ((bad' = 0 ∧ closed = true ∧ G = bindP (restP closed) f (Z.drop q)) ∨ (bad' ≠ 0 ∧ G.1 = bad')) →
      Calls Tryd.prog 60 #[rptr lb, .int .i64 ((len : Int) - (q : Int))] W.drew fun e w' => ∃ v B, e = .returned v ∧ UOwn w' wx.heap.size v B ∧ Dst G (f B) w0 w' lb a len cap Z ∧ Tr lb wx w' ∧ (B.length ≤ 140737488351232 ∧ ∀ x ∈ B, x ∈ Z) := by
    intro bad' W hS hT hcase
    have hS1 := hS.on (Below.refl _ W).drew
    have hT1 : Tr lb wx W.drew := hT.on (Below.refl _ W).drew
    rw [hlq]
    rcases hcase with ⟨rfl, hx, hg⟩ | ⟨hx, hg⟩
    · have hcl2 := hcl hx
      refine (body_go w0 lb a len cap Z q (len - q) W.drew hS1 hnil (by omega)).mono ?_
      rintro e w' ⟨⟨hq, v, rfl, ho, hs⟩ | ⟨hq, rfl, hs⟩, ht⟩
      · have e1 : restP closed (Z.drop q) = (0, Z.drop q, []) := by
          unfold restP
          rw [if_pos hx]
        rw [List.take_of_length_le (by rw [List.length_drop, hz]; omega)] at ho
        rw [show q + (len - q) = len by omega] at hs
        refine ⟨v, _, rfl, ho.mono hT1.size, ⟨len, 0, hs, Or.inl ⟨rfl, ?_⟩⟩, hT1.trans ht, ⟨by simp; omega, fun x hx => List.mem_of_mem_drop hx⟩⟩
        rw [hg, bindP_ok e1, List.drop_of_length_le (i := len) (by omega)]
      · omega
    · refine (body_no lb a len cap q bad' _ W.drew hS1.mem hx (by omega) (by omega) hS.most).mono ?_
      rintro e w' ⟨rfl, hb⟩
      exact ⟨_, [], rfl, Or.inl ⟨rfl, rfl⟩, ⟨q, bad', hS1.on hb, Or.inr ⟨hx, hg⟩⟩, hT1.on hb, ⟨by simp, fun x hx => by cases hx⟩⟩
  have TAIL := vl tail
  have H1 := vl h1
  have HC := vl hc
  clear tail
  cases closed with
  | true =>
    have HB := vl (TAIL.out bad wx h1 (Tr.refl _ _) (by
      rcases hc with ⟨e1, e2⟩ | ⟨e1, e2⟩
      · exact Or.inl ⟨e1, rfl, e2⟩
      · exact Or.inr ⟨e1, e2⟩))
    have c0 := h1.mem.c0
    have c1 := h1.mem.c1
    have hlt := h1.lt
    have HZ : Vl (∀ w1, Below wx.drew.heap.size wx.drew w1 → w1.cell? ⟨lb, 0, none⟩ = some (.slice a len cap) ∧ w1.cell? ⟨lb, 1, none⟩ = some (.int .i64 (q : Int))) := fun w1 hb => ⟨(hb.cell (p := ⟨lb, 0, none⟩) hlt).trans c0, (hb.cell (p := ⟨lb, 1, none⟩) hlt).trans c1⟩
    have hsub : IntKind.i64.wrap ((len : Int) - (q : Int)) = (len : Int) - (q : Int) := by rw [IntKind.wrap_i64]; omega
    unfold rptr at HB ⊢
    clear h1 hc hcl hlq TAIL HC
    go_enter Tryd.func66, Tryd.ntmps66
    go_wp2_with fail
    go_region_with ((go_at_call 60; refine HB.out.mono ?_; rintro e w3 ⟨v, B, rfl, ho, hd, ht, hl⟩))
    all_goals
      have HO := vl ho
      have HD := vl hd
      have HT := vl ht
      have HL := vl hl
      clear ho hd ht hl HB
      go_simp
      go_wp2
      go_ret
      exact ⟨v, B, rfl, HO.out, HD.out, HT.out, HL.out⟩
  | false =>
    have HF := vl (fail_rs w0 lb a len cap Z q bad 8 wx h1 (by omega))
    unfold rptr at HF ⊢
    clear hc hcl h1
    go_enter Tryd.func66, Tryd.ntmps66
    go_wp2_with fail
    refine HF.out.mono ?_
    rintro e w1 ⟨rfl, hs1, ht1⟩
    obtain ⟨bad1, hb1⟩ : ∃ b1, (if bad = 0 then 8 else bad) = b1 := ⟨_, rfl⟩
    rw [hb1] at hs1
    have HB := vl (TAIL.out bad1 w1 hs1 ht1 (by
      right
      rw [← hb1]
      rcases HC.out with ⟨e1, e2⟩ | ⟨e1, e2⟩
      · rw [if_pos e1]
        refine ⟨by omega, ?_⟩
        rw [e2]
        rfl
      · rw [if_neg e1]
        exact ⟨e1, e2⟩))
    have c0 := hs1.mem.c0
    have c1 := hs1.mem.c1
    have hsub : IntKind.i64.wrap ((len : Int) - (q : Int)) = (len : Int) - (q : Int) := by rw [IntKind.wrap_i64]; omega
    unfold rptr at HB
    clear hs1 ht1 hb1 HF TAIL HC hlq
    go_wp2_with fail
    go_region_with ((go_at_call 60; refine HB.out.mono ?_; rintro e w3 ⟨v, B, rfl, ho, hd, ht, hl⟩))
    all_goals
      have HO := vl ho
      have HD := vl hd
      have HT := vl ht
      have HL := vl hl
      clear ho hd ht hl HB
      go_simp
      go_wp2
      go_ret
      exact ⟨v, B, rfl, HO.out, HD.out, HT.out, HL.out⟩
end
end Go.Proofs.YtgjolljhjagngafDoor
