/-
  CONTRACT of the Go function frame.Encode. No claim by itself.
-/
import Derived.Test.YtdlaaollamgplagGreatDoorDfr2
namespace Go.Proofs.YtdlaaollamgplagGreatDoor
open Go.RowKit
set_option maxRecDepth 100000
/-- What writing a frame gives: its bytes, or none and the error. -/
def EncMade (w w' : World) (f : Frm) (v x : Value) : Prop :=
  (frmE f = 0 ∧ x = .nilIface ∧ w'.ownsRow w.heap.size 5 1 v (frmL f).length ((frmL f).map (Value.int .u8))) ∨ (frmE f ≠ 0 ∧ x = .iface 88 (.int .i64 (frmE f)) ∧ v = .slice none 0 0)
theorem frmE_one {k fl st : Int} {Z : List Int} (h : ∃ p ∈ [(k, (1 : Int)), (fl, 1), (st, 4)], ¬ bigOk p.1 p.2) : frmE (k, fl, st, Z) = 1 := by
  unfold frmE
  rw [if_pos]
  obtain ⟨p, hp, hn⟩ := h
  have m1 : most 1 = 255 := by decide
  have m4 : most 4 = 2147483647 := by decide
  unfold bigOk at hn
  simp at hp
  rcases hp with rfl | rfl | rfl <;> simp only [m1, m4] at hn ⊢ <;> omega
theorem frmE_two {k fl st : Int} {Z : List Int} (h : ∀ p ∈ [(k, (1 : Int)), (fl, 1), (st, 4)], bigOk p.1 p.2) : frmE (k, fl, st, Z) = if 1024 < Z.length then 4 else 0 := by
  unfold frmE
  have m1 : most 1 = 255 := by decide
  have m4 : most 4 = 2147483647 := by decide
  have h1 := h (k, 1) (by simp)
  have h2 := h (fl, 1) (by simp)
  have h3 := h (st, 4) (by simp)
  unfold bigOk at h1 h2 h3
  simp only [m1, m4] at h1 h2 h3 ⊢
  rw [if_neg (by omega)]
set_option maxHeartbeats 8000000 in
theorem encode_any (k fl st : Int) (a : Option Addr) (len cap : Nat) (Z : List Int) (w : World) (hA : Arg w a len cap Z) (hZ : Z.length = len) :
    Calls Tryz.prog 26 #[.agg #[.int .i64 k, .int .i64 fl, .int .i64 st, .slice a len cap]] w fun e w' => (∃ v x, e = .returned (.tuple #[v, x]) ∧ EncMade w w' (k, fl, st, Z) v x) ∧ Below w.heap.size w w' := by
  obtain ⟨w0, hw0⟩ : ∃ w0, w0 = w.alloc (.cells #[.int .i64 k, .int .i64 fl, .int .i64 st, .slice a len cap] 60) := ⟨_, rfl⟩
  have hb0 : Below w.heap.size w w0 := by rw [hw0]; exact (Below.refl _ _).alloc (Nat.le_refl _) _
  have hsz0 : w.heap.size + 1 = w0.heap.size := by rw [hw0]; simp
  have hx : w0.heap[w.heap.size]? = some (.cells #[.int .i64 k, .int .i64 fl, .int .i64 st, .slice a len cap] 60 (0, 0)) := by rw [hw0]; exact Array.getElem?_push_size
  have HX : Hid (∀ wx i u, Below w0.heap.size w0 wx → (#[Value.int .i64 k, .int .i64 fl, .int .i64 st, .slice a len cap] : Array Value)[i]? = some u → wx.cell? ⟨w.heap.size, i, none⟩ = some u) := fun wx i u hb hu => by
    rw [hb.cell (p := ⟨w.heap.size, i, none⟩) (by show w.heap.size < _; omega), cell_of_row w0 w.heap.size i _ _ _ hx]; exact hu
  have HA : Hid (∀ wx, Below w.heap.size w wx → Arg wx a len cap Z) := fun wx hb => hA.below hb
  have HZ := hide hZ
  have HW0 := hide hw0
  clear hA hx hZ hw0
  go_enter Tryz.func26, Tryz.ntmps26
  go_wp2_with fail
  rw [← HW0.out]
  obtain ⟨w1, hw1⟩ : ∃ w1, w1 = w0.alloc (Obj.cells #[Value.int IntKind.i64 k, Value.int IntKind.i64 1, Value.int IntKind.i64 fl, Value.int IntKind.i64 1, Value.int IntKind.i64 st, Value.int IntKind.i64 4] 122) := ⟨_, rfl⟩
  rw [← hw1]
  have hb1 : Below w0.heap.size w0 w1 := by rw [hw1]; exact (Below.refl _ _).alloc (Nat.le_refl _) _
  have hsz1 : w0.heap.size + 1 = w1.heap.size := by rw [hw1]; simp
  have hp1 : w1.heap[w0.heap.size]? = some (Obj.cells #[Value.int IntKind.i64 k, Value.int IntKind.i64 1, Value.int IntKind.i64 fl, Value.int IntKind.i64 1, Value.int IntKind.i64 st, Value.int IntKind.i64 4] 122 (0, 0)) := by rw [hw1]; exact Array.getElem?_push_size
  have hPs : Pairs w1 w0.heap.size [(k, 1), (fl, 1), (st, 4)] := by
    intro j p hj
    match j with
    | 0 => cases hj; exact ⟨cell_of_row _ _ 0 _ _ _ hp1, cell_of_row _ _ 1 _ _ _ hp1⟩
    | 1 => cases hj; exact ⟨cell_of_row _ _ 2 _ _ _ hp1, cell_of_row _ _ 3 _ _ _ hp1⟩
    | 2 => cases hj; exact ⟨cell_of_row _ _ 4 _ _ _ hp1, cell_of_row _ _ 5 _ _ _ hp1⟩
    | n + 3 => simp at hj
  have B01 := hide (hb0.trans (hb1.mono (by omega)))
  refine (numbers_any w0.heap.size 3 _ w1 (by omega) hPs rfl (by decide) (by intro p hp; simp at hp; rcases hp with rfl | rfl | rfl <;> simp)).mono ?_
  have Hb1 := hide hb1
  clear hPs hp1 hw1 HW0 hb1 hb0
  rintro e w2 ⟨⟨v, rfl, hok, hown⟩ | ⟨rfl, hno⟩, hb2⟩
  · have HE := hide (frmE_two (Z := Z) hok)
    have hnl : nmL [(k, 1), (fl, 1), (st, 4)] = [k % 256, fl % 256] ++ bigL 4 st := by simp [nmL, bigL]
    have ek : k % 256 = k := by have h := (hok (k, 1) (by simp)); unfold bigOk at h; simp only [show most 1 = 255 from by decide] at h; omega
    have ef : fl % 256 = fl := by have h := (hok (fl, 1) (by simp)); unfold bigOk at h; simp only [show most 1 = 255 from by decide] at h; omega
    rw [hnl, ek, ef] at hown
    have hl6 : ([k, fl] ++ bigL 4 st).length = 6 := by simp [bigL_len]
    have hby : ∀ x ∈ [k, fl] ++ bigL 4 st, 0 ≤ x ∧ x < 256 := by
      intro x hx
      rcases List.mem_append.1 hx with h | h
      · simp at h; rcases h with rfl | rfl <;> omega
      · exact bigL_byte 4 st x h
    rw [hl6] at hown
    obtain ⟨g2, c2, rfl⟩ := fr_shape hown (by decide)
    have s2 := hb2.size
    have B2 := hide (B01.out.trans (hb2.mono (by omega)))
    have m3 := HX.out w2 3 _ (Hb1.out.trans (hb2.mono (by omega))) rfl
    have B02 := hide (Hb1.out.trans (hb2.mono (by omega)))
    have HQ := hide (row_of hl6 hown hby)
    have HF : Hid (frmL (k, fl, st, Z) = bigL 3 len ++ (([k, fl] ++ bigL 4 st) ++ Z)) := by show frmL _ = _; unfold frmL; rw [HZ.out]; simp
    clear hok hnl ek ef hby hown hb2 B01 Hb1
    generalize [k, fl] ++ bigL 4 st = Q at *
    by_cases hbig : 1024 < len
    · have E4 : Hid (frmE (k, fl, st, Z) = 4) := by have h := HE.out; rw [HZ.out, if_pos hbig] at h; exact h
      have d : decide ((1024 : Int) < (len : Int)) = true := decide_eq_true (by omega)
      clear HE
      go_wp2
      go_ret2
      exact ⟨⟨_, _, rfl, Or.inr ⟨by rw [E4.out]; decide, by rw [E4.out]; rfl, rfl⟩⟩, B2.out⟩
    · have E0 : Hid (frmE (k, fl, st, Z) = 0) := by have h := HE.out; rw [HZ.out, if_neg hbig] at h; exact h
      have d : decide ((1024 : Int) < (len : Int)) = false := decide_eq_false (by omega)
      clear HE
      have HBIG := hide (big_yes (len : Int) 3 w2 ⟨by decide, by decide, by omega, by rw [show most 3 = 16777215 from by decide]; omega⟩)
      go_wp2_with fail
      refine HBIG.out.mono ?_
      rintro e w3 ⟨g3, rfl, ho3, hb3⟩
      have hl3 : (bigL ((3 : Int)).toNat (len : Int)).length = 3 := bigL_len _ _
      have HP := hide (row_of hl3 (by rw [hl3] at ho3; exact ho3) (bigL_byte _ _))
      rw [hl3]
      have hPP : bigL ((3 : Int)).toNat (len : Int) = bigL 3 len := rfl
      rw [hPP] at HP
      have s3 := hb3.size
      have B3 := hide (B2.out.trans (hb3.mono (by omega)))
      have B03 := hide (B02.out.trans (hb3.mono (by omega)))
      have n3 := HX.out w3 3 _ B03.out rfl
      have HQ3 := hide (HQ.out.below hb3)
      clear ho3 hb3 HQ m3 HBIG hl3 hPP
      generalize bigL 3 (len : Int) = P at *
      go_wp2_with fail
      obtain ⟨w4, hw4⟩ : ∃ w4, w4 = w3.alloc (Obj.cells #[Value.slice (some { block := g3, off := 0 }) 3 3, Value.slice (some { block := g2, off := 0 }) 6 c2, Value.slice a len cap] 23) := ⟨_, rfl⟩
      rw [← hw4]
      have hb4 : Below w3.heap.size w3 w4 := by rw [hw4]; exact (Below.refl _ _).alloc (Nat.le_refl _) _
      have hp4 : w4.heap[w3.heap.size]? = some (Obj.cells #[Value.slice (some { block := g3, off := 0 }) 3 3, Value.slice (some { block := g2, off := 0 }) 6 c2, Value.slice a len cap] 23 (0, 0)) := by rw [hw4]; exact Array.getElem?_push_size
      have B4 := B3.out.trans (hb4.mono (by omega))
      have s4 := hb4.size
      refine (concat3 w3.heap.size g3 3 3 g2 6 c2 a len cap P Q Z w4 hp4 (HP.out.below hb4) (HQ3.out.below hb4) (HA.out w4 B4) HZ.out (by decide) (by decide) (by decide) (by omega)).mono ?_
      have HB4 := hide B4
      clear hp4 hw4 hb4 B4
      rintro e w5 ⟨v5, rfl, ho5, hb5⟩
      have O5 := hide ho5
      have HB5 := hide hb5
      clear ho5 hb5
      go_wp2
      go_ret2
      refine ⟨⟨_, _, rfl, Or.inl ⟨E0.out, rfl, ?_⟩⟩, HB4.out.trans (HB5.out.mono (by omega))⟩
      rw [HF.out]
      exact fr_mono O5.out (by omega)
  · have HE := hide (frmE_one (Z := Z) hno)
    have HB := hide (B01.out.trans (hb2.mono (by omega)))
    clear hno hb2
    go_wp2
    go_ret2
    exact ⟨⟨_, _, rfl, Or.inr ⟨by rw [HE.out]; decide, by rw [HE.out]; rfl, rfl⟩⟩, HB.out⟩
end Go.Proofs.YtdlaaollamgplagGreatDoor
