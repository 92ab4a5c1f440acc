/-
  MESSAGES AS LINES: the developers' forms: goesOn, ends, holds; Token, Plain. No claim by itself.
-/
import Derived.Test.YtibjbdcmhjbndaaDoorNdv2
import Derived.Test.YtibjbdcmhjbndaaDoorNtok
namespace Go.Proofs.YtibjbdcmhjbndaaDoor
open Go Go.RowKit Go.Shelf
set_option maxRecDepth 100000
attribute [local go_sem] run_store_func run_store_nilFunc
theorem ngoes_any (least : Int) (F : Value) (p : Int → Bool) (B : Nat) (w : World) (hF : MayF w B F p) (n : Nat) (c : Int) (h0 : 0 ≤ c) (h1 : c < 256) :
    Calls Tryd.prog 43 #[formV least F, .int .i64 n, .int .u8 c] w fun e w' => e = .returned (.bool (goF p n c)) ∧ Below w.heap.size w w' := by
  have hG : Vl (goF p n c = (decide (n < 400) && p c && (!decide (c = 32) || (decide (0 < n) && decide (n < 399))))) := rfl
  obtain ⟨g, lb, rfl, eg, H1⟩ := hF
  have H := H1 (w.alloc (.cells #[.int .i64 least, .func (.func g) #[] lb] 73)) c h0 h1 (Kp.of ((Below.refl _ w).alloc (Nat.le_refl _) _))
  have HB : Vl (∀ W, Below (w.heap.size + 1) (w.alloc (.cells #[.int .i64 least, .func (.func g) #[] lb] 73)) W → Below w.heap.size w W) := fun W hb => ((Below.refl _ w).alloc (Nat.le_refl _) _).trans (hb.mono (by omega))
  rw [World.size_alloc] at H
  have cF : (w.alloc (.cells #[.int .i64 least, .func (.func g) #[] lb] 73)).cell? ⟨w.heap.size, 1, none⟩ = some (.func (.func g) #[] lb) := (f2_cell (heap_alloc_new w _)).2.1
  clear H1
  rw [hG.out]
  clear hG
  generalize p c = b at *
  unfold formV
  by_cases hn : n < 400
  · have hn1 : ¬ (400 : Int) ≤ n := by omega
    cases b with
    | false =>
      go_enter Tryd.func43, Tryd.ntmps43
      go_wp2_with (go_at_fn g; refine H.mono ?_; rintro e w1 ⟨rfl, hb⟩)
      go_ret
      exact ⟨by simp, HB.out _ hb⟩
    | true =>
      by_cases hc : c = 32
      · subst hc
        by_cases hp : 0 < n
        · by_cases hq : n < 399
          · have e1 : (0 : Int) < n := by omega
            have e2 : (n : Int) < 399 := by omega
            go_enter Tryd.func43, Tryd.ntmps43
            go_wp2_with (go_at_fn g; refine H.mono ?_; rintro e w1 ⟨rfl, hb⟩)
            go_ret
            exact ⟨by simp [hn, hp, hq], HB.out _ hb⟩
          · have e1 : (0 : Int) < n := by omega
            have e2 : ¬ (n : Int) < 399 := by omega
            go_enter Tryd.func43, Tryd.ntmps43
            go_wp2_with (go_at_fn g; refine H.mono ?_; rintro e w1 ⟨rfl, hb⟩)
            go_ret
            exact ⟨by simp [hq] <;> omega, HB.out _ hb⟩
        · have e1 : ¬ (0 : Int) < n := by omega
          go_enter Tryd.func43, Tryd.ntmps43
          go_wp2_with (go_at_fn g; refine H.mono ?_; rintro e w1 ⟨rfl, hb⟩)
          go_ret
          exact ⟨by simp [hp], HB.out _ hb⟩
      · have hcb : (c != 32) = true := by simpa using hc
        have HC := vl hc
        clear hc
        go_enter Tryd.func43, Tryd.ntmps43
        go_wp2_with (go_at_fn g; refine H.mono ?_; rintro e w1 ⟨rfl, hb⟩)
        go_ret
        exact ⟨by simp [HC.out, hn], HB.out _ hb⟩
  · have hn1 : (400 : Int) ≤ n := by omega
    go_enter Tryd.func43, Tryd.ntmps43
    go_wp2
    go_ret
    exact ⟨by simp [hn], (Below.refl _ w).alloc (Nat.le_refl _) _⟩
theorem last_str (s : ByteArray) (h : 1 ≤ s.size) : ((s.extract (s.size - 1) s.size).toList = [32]) ↔ (unums s).getLastD 0 = 32 := by
  have hne : unums s ≠ [] := fun e => by
    have := unums_nil.1 e
    omega
  rw [last_in hne, unums_len, ← unums_at s (s.size - 1) (by omega) (by omega)]
  rw [ByteArray.toList_eq]
  have e : (s.extract (s.size - 1) s.size).data.toList = [s[s.size - 1]'(by omega)] := by
    apply List.ext_getElem
    · rw [Array.length_toList]
      show ByteArray.size _ = 1
      rw [ByteArray.size_extract]
      omega
    · intro i h1 h2
      obtain rfl : i = 0 := by simp at h2; omega
      simp [ByteArray.getElem_eq_getElem_data]
  rw [e]
  constructor
  · intro h
    have := List.cons.inj h
    rw [this.1]
    rfl
  · intro h
    congr 1
    apply UInt8.toNat_inj.1
    have h' : ((s[s.size - 1]'(by omega)).toNat : Int) = 32 := h
    have : (32 : UInt8).toNat = 32 := rfl
    omega
def suf (s : ByteArray) : Bool := decide (1 ≤ s.size) && decide ((unums s).getLastD 0 = 32)
theorem nihs_any (s : ByteArray) (w : World) (hs : s.size ≤ 140737488351232) : Calls Tryd.prog 71 #[.string s, .string ⟨#[32]⟩] w fun e w' => e = .returned (.bool (suf s)) ∧ w = w' := by
  by_cases h : 1 ≤ s.size
  · have h1 : (1 : Int) ≤ (s.size : Int) := by omega
    have hl := last_str s h
    by_cases hx : (unums s).getLastD 0 = 32
    · have hl2 := hl.2 hx
      go_enter Tryd.func71, Tryd.ntmps71
      go_wp2
      go_ret
      exact ⟨by unfold suf; rw [decide_eq_true h, decide_eq_true hx]; rfl, rfl⟩
    · have hl2 : ¬ (s.extract (s.size - 1) s.size).toList = [32] := fun e => hx (hl.1 e)
      go_enter Tryd.func71, Tryd.ntmps71
      go_wp2
      go_ret
      refine ⟨?_, rfl⟩
      unfold suf
      rw [decide_eq_false hx, Bool.and_false]
      show Ending.returned (Value.bool _) = Ending.returned (Value.bool _)
      congr 2
      first | rfl | simpa using hl2
  · have h1 : ¬ (1 : Int) ≤ (s.size : Int) := by omega
    go_enter Tryd.func71, Tryd.ntmps71
    go_wp2
    go_ret
    exact ⟨by unfold suf; simp [h], rfl⟩
theorem nhs_any (s : ByteArray) (w : World) (hs : s.size ≤ 140737488351232) : Calls Tryd.prog 62 #[.string s, .string ⟨#[32]⟩] w fun e w' => e = .returned (.bool (suf s)) ∧ w = w' := by
  have H := nihs_any s w hs
  generalize suf s = b at *
  go_enter Tryd.func62, Tryd.ntmps62
  go_wp2_with (go_at_call 71; refine H.mono ?_; rintro e w' ⟨rfl, rfl⟩)
  go_ret
  exact ⟨rfl, rfl⟩
theorem nends_any (least : Nat) (F : Value) (s : ByteArray) (w : World) (hs : s.size ≤ 140737488351232) :
    Calls Tryd.prog 44 #[formV least F, .string s] w fun e w' => e = .returned (.bool (endsL least (unums s))) ∧ Below w.heap.size w w' := by
  have H := vl (fun W => nhs_any s W hs)
  have hE : endsL least (unums s) = (decide (least ≤ s.size) && !suf s) := by
    unfold endsL suf
    rw [unums_len]
    by_cases h : 1 ≤ s.size
    · simp [h]
    · have h0 : s.size = 0 := by omega
      rw [unums_nil.2 h0, h0]
      simp
  rw [hE]
  clear hE
  generalize suf s = b at *
  unfold formV
  have hb := (Below.refl _ w).alloc (Nat.le_refl _) (.cells #[.int .i64 (least : Int), F] 73)
  have c0 : (w.alloc (.cells #[.int .i64 (least : Int), F] 73)).cell? ⟨w.heap.size, 0, none⟩ = some (.int .i64 (least : Int)) := (f2_cell (heap_alloc_new w _)).1
  have HB := vl hb
  clear hb
  by_cases hl : least ≤ s.size
  · have hl1 : (least : Int) ≤ (s.size : Int) := by omega
    cases b with
    | false =>
      go_enter Tryd.func44, Tryd.ntmps44
      go_wp2_with (go_at_call 62; refine (H.out _).mono ?_; rintro e w' ⟨rfl, rfl⟩)
      go_ret
      exact ⟨by simp [hl], HB.out⟩
    | true =>
      go_enter Tryd.func44, Tryd.ntmps44
      go_wp2_with (go_at_call 62; refine (H.out _).mono ?_; rintro e w' ⟨rfl, rfl⟩)
      go_ret
      exact ⟨by simp, HB.out⟩
  · have hl1 : ¬ (least : Int) ≤ (s.size : Int) := by omega
    go_enter Tryd.func44, Tryd.ntmps44
    go_wp2
    go_ret
    exact ⟨by simp, HB.out⟩
end Go.Proofs.YtibjbdcmhjbndaaDoor
