/-
  MESSAGES AS LINES: the developers' forms: without, goesOn, ends, holds. No claim by itself.
-/
import Derived.Test.YtibipnipeaeonaaGreatDoorNdv1X
import Derived.Test.YtibipnipeaeonaaGreatDoorNtokX
namespace Go.Proofs.YtibipnipeaeonaaGreatDoor
open Go Go.RowKit Go.Shelf
set_option maxRecDepth 100000
attribute [local go_sem] run_store_func run_store_nilFunc
/-- Two boxes: a form, and what is left out of it. -/
theorem two_boxes (w : World) (x y z : Value) (tx ty : TypeId) : ((w.alloc (.cells #[x, y] tx)).alloc (.cells #[z] ty)).cell? ⟨w.heap.size, 0, none⟩ = some x ∧ ((w.alloc (.cells #[x, y] tx)).alloc (.cells #[z] ty)).cell? ⟨w.heap.size, 1, none⟩ = some y ∧ ((w.alloc (.cells #[x, y] tx)).alloc (.cells #[z] ty)).cell? ⟨w.heap.size + 1, 0, none⟩ = some z := by
  have h1 : ((w.alloc (.cells #[x, y] tx)).alloc (.cells #[z] ty)).heap[w.heap.size]? = some (.cells #[x, y] tx (0, 0)) := by
    rw [Below.heap_alloc _ _ _ (by simp)]
    exact heap_alloc_new w _
  have h2 : ((w.alloc (.cells #[x, y] tx)).alloc (.cells #[z] ty)).heap[w.heap.size + 1]? = some (.cells #[z] ty (0, 0)) := by
    have := heap_alloc_new (w.alloc (.cells #[x, y] tx)) (.cells #[z] ty (0, 0))
    simpa using this
  simp only [World.cell?, h1, h2]
  exact ⟨rfl, rfl, rfl⟩
theorem mayf_congr {w : World} {B : Nat} {F : Value} {p q : Int → Bool} (h : MayF w B F p) (e : ∀ c, p c = q c) : MayF w B F q := by
  have : p = q := funext e
  rw [← this]
  exact h
/- a form's two cells -/
theorem f2_cell {w : World} {B : Nat} {x y : Value} {T : TypeId} (h : w.heap[B]? = some (.cells #[x, y] T (0, 0))) : w.cell? ⟨B, 0, none⟩ = some x ∧ w.cell? ⟨B, 1, none⟩ = some y ∧ w.frozen? ⟨B, 0, none⟩ = false ∧ w.frozen? ⟨B, 1, none⟩ = false := by simp [World.cell?, World.frozen?, h]
theorem f2_set {w : World} {B : Nat} {x y : Value} {T : TypeId} (h : w.heap[B]? = some (.cells #[x, y] T (0, 0))) (u v : Value) : ((w.setCell ⟨B, 0, none⟩ u).setCell ⟨B, 1, none⟩ v).heap[B]? = some (.cells #[u, v] T (0, 0)) := by
  simp [World.setCell, Array.getElem?_modify, h]
end Go.Proofs.YtibipnipeaeonaaGreatDoor
/-
  MESSAGES AS LINES: the developers' forms: goesOn, ends, holds; Token, Plain. No claim by itself.
-/
namespace Go.Proofs.YtibipnipeaeonaaGreatDoor
open Go Go.RowKit Go.Shelf
set_option maxRecDepth 100000
attribute [local go_sem] run_store_func run_store_nilFunc
theorem ngoes_any (least : Int) (F : Value) (p : Int → Bool) (B : Nat) (w : World) (hF : MayF w B F p) (n : Nat) (c : Int) (h0 : 0 ≤ c) (h1 : c < 256) :
    Calls Tryz.prog 98 #[formV least F, .int .i64 n, .int .u8 c] w fun e w' => e = .returned (.bool (goF p n c)) ∧ Below w.heap.size w w' := by
  have hG : Vl (goF p n c = (decide (n < 400) && p c && (!decide (c = 32) || (decide (0 < n) && decide (n < 399))))) := rfl
  obtain ⟨g, lb, rfl, eg, H1⟩ := hF
  have H := H1 (w.alloc (.cells #[.int .i64 least, .func (.func g) #[] lb] 155)) c h0 h1 (Kp.of ((Below.refl _ w).alloc (Nat.le_refl _) _))
  have HB : Vl (∀ W, Below (w.heap.size + 1) (w.alloc (.cells #[.int .i64 least, .func (.func g) #[] lb] 155)) W → Below w.heap.size w W) := fun W hb => ((Below.refl _ w).alloc (Nat.le_refl _) _).trans (hb.mono (by omega))
  rw [World.size_alloc] at H
  have cF : (w.alloc (.cells #[.int .i64 least, .func (.func g) #[] lb] 155)).cell? ⟨w.heap.size, 1, none⟩ = some (.func (.func g) #[] lb) := (f2_cell (heap_alloc_new w _)).2.1
  clear H1
  rw [hG.out]
  clear hG
  generalize p c = b at *
  unfold formV
  by_cases hn : n < 400
  · have hn1 : ¬ (400 : Int) ≤ n := by omega
    cases b with
    | false =>
      go_enter Tryz.func98, Tryz.ntmps98
      go_wp2_with (go_at_fn g; refine H.mono ?_; rintro e w1 ⟨rfl, hb⟩)
      go_ret
      exact ⟨by simp, HB.out _ hb⟩
    | true =>
      by_cases hc : c = 32
      · subst hc
        by_cases hp : 0 < n
        · by_cases hq : n < 399
          · have e1 : (0 : Int) < n := by omega
            have e2 : (n : Int) < 399 := by omega
            go_enter Tryz.func98, Tryz.ntmps98
            go_wp2_with (go_at_fn g; refine H.mono ?_; rintro e w1 ⟨rfl, hb⟩)
            go_ret
            exact ⟨by simp [hn, hp, hq], HB.out _ hb⟩
          · have e1 : (0 : Int) < n := by omega
            have e2 : ¬ (n : Int) < 399 := by omega
            go_enter Tryz.func98, Tryz.ntmps98
            go_wp2_with (go_at_fn g; refine H.mono ?_; rintro e w1 ⟨rfl, hb⟩)
            go_ret
            exact ⟨by simp [hq] <;> omega, HB.out _ hb⟩
        · have e1 : ¬ (0 : Int) < n := by omega
          go_enter Tryz.func98, Tryz.ntmps98
          go_wp2_with (go_at_fn g; refine H.mono ?_; rintro e w1 ⟨rfl, hb⟩)
          go_ret
          exact ⟨by simp [hp], HB.out _ hb⟩
      · have hcb : (c != 32) = true := by simpa using hc
        have HC := vl hc
        clear hc
        go_enter Tryz.func98, Tryz.ntmps98
        go_wp2_with (go_at_fn g; refine H.mono ?_; rintro e w1 ⟨rfl, hb⟩)
        go_ret
        exact ⟨by simp [HC.out, hn], HB.out _ hb⟩
  · have hn1 : (400 : Int) ≤ n := by omega
    go_enter Tryz.func98, Tryz.ntmps98
    go_wp2
    go_ret
    exact ⟨by simp [hn], (Below.refl _ w).alloc (Nat.le_refl _) _⟩
theorem last_str (s : ByteArray) (h : 1 ≤ s.size) : ((s.extract (s.size - 1) s.size).toList = [32]) ↔ (unums s).getLastD 0 = 32 := by
  have hne : unums s ≠ [] := fun e => by
    have := unums_nil.1 e
    omega
  rw [last_in hne, unums_len, ← unums_at s (s.size - 1) (by omega) (by omega)]
  rw [ByteArray.toList_eq]
  have e : (s.extract (s.size - 1) s.size).data.toList = [s[s.size - 1]'(by omega)] := by
    apply List.ext_getElem
    · rw [Array.length_toList]
      show ByteArray.size _ = 1
      rw [ByteArray.size_extract]
      omega
    · intro i h1 h2
      obtain rfl : i = 0 := by simp at h2; omega
      simp [ByteArray.getElem_eq_getElem_data]
  rw [e]
  constructor
  · intro h
    have := List.cons.inj h
    rw [this.1]
    rfl
  · intro h
    congr 1
    apply UInt8.toNat_inj.1
    have h' : ((s[s.size - 1]'(by omega)).toNat : Int) = 32 := h
    have : (32 : UInt8).toNat = 32 := rfl
    omega
def suf (s : ByteArray) : Bool := decide (1 ≤ s.size) && decide ((unums s).getLastD 0 = 32)
theorem nihs_any (s : ByteArray) (w : World) (hs : s.size ≤ 140737488351232) : Calls Tryz.prog 111 #[.string s, .string ⟨#[32]⟩] w fun e w' => e = .returned (.bool (suf s)) ∧ w = w' := by
  by_cases h : 1 ≤ s.size
  · have h1 : (1 : Int) ≤ (s.size : Int) := by omega
    have hl := last_str s h
    by_cases hx : (unums s).getLastD 0 = 32
    · have hl2 := hl.2 hx
      go_enter Tryz.func111, Tryz.ntmps111
      go_wp2
      go_ret
      exact ⟨by unfold suf; rw [decide_eq_true h, decide_eq_true hx]; rfl, rfl⟩
    · have hl2 : ¬ (s.extract (s.size - 1) s.size).toList = [32] := fun e => hx (hl.1 e)
      go_enter Tryz.func111, Tryz.ntmps111
      go_wp2
      go_ret
      refine ⟨?_, rfl⟩
      unfold suf
      rw [decide_eq_false hx, Bool.and_false]
      show Ending.returned (Value.bool _) = Ending.returned (Value.bool _)
      congr 2
      first | rfl | simpa using hl2
  · have h1 : ¬ (1 : Int) ≤ (s.size : Int) := by omega
    go_enter Tryz.func111, Tryz.ntmps111
    go_wp2
    go_ret
    exact ⟨by unfold suf; simp [h], rfl⟩
theorem nhs_any (s : ByteArray) (w : World) (hs : s.size ≤ 140737488351232) : Calls Tryz.prog 105 #[.string s, .string ⟨#[32]⟩] w fun e w' => e = .returned (.bool (suf s)) ∧ w = w' := by
  have H := nihs_any s w hs
  generalize suf s = b at *
  go_enter Tryz.func105, Tryz.ntmps105
  go_wp2_with (go_at_call 111; refine H.mono ?_; rintro e w' ⟨rfl, rfl⟩)
  go_ret
  exact ⟨rfl, rfl⟩
theorem nends_any (least : Nat) (F : Value) (s : ByteArray) (w : World) (hs : s.size ≤ 140737488351232) :
    Calls Tryz.prog 99 #[formV least F, .string s] w fun e w' => e = .returned (.bool (endsL least (unums s))) ∧ Below w.heap.size w w' := by
  have H := vl (fun W => nhs_any s W hs)
  have hE : endsL least (unums s) = (decide (least ≤ s.size) && !suf s) := by
    unfold endsL suf
    rw [unums_len]
    by_cases h : 1 ≤ s.size
    · simp [h]
    · have h0 : s.size = 0 := by omega
      rw [unums_nil.2 h0, h0]
      simp
  rw [hE]
  clear hE
  generalize suf s = b at *
  unfold formV
  have hb := (Below.refl _ w).alloc (Nat.le_refl _) (.cells #[.int .i64 (least : Int), F] 155)
  have c0 : (w.alloc (.cells #[.int .i64 (least : Int), F] 155)).cell? ⟨w.heap.size, 0, none⟩ = some (.int .i64 (least : Int)) := (f2_cell (heap_alloc_new w _)).1
  have HB := vl hb
  clear hb
  by_cases hl : least ≤ s.size
  · have hl1 : (least : Int) ≤ (s.size : Int) := by omega
    cases b with
    | false =>
      go_enter Tryz.func99, Tryz.ntmps99
      go_wp2_with (go_at_call 105; refine (H.out _).mono ?_; rintro e w' ⟨rfl, rfl⟩)
      go_ret
      exact ⟨by simp [hl], HB.out⟩
    | true =>
      go_enter Tryz.func99, Tryz.ntmps99
      go_wp2_with (go_at_call 105; refine (H.out _).mono ?_; rintro e w' ⟨rfl, rfl⟩)
      go_ret
      exact ⟨by simp, HB.out⟩
  · have hl1 : ¬ (least : Int) ≤ (s.size : Int) := by omega
    go_enter Tryz.func99, Tryz.ntmps99
    go_wp2
    go_ret
    exact ⟨by simp, HB.out⟩
end Go.Proofs.YtibipnipeaeonaaGreatDoor
/-
  MESSAGES AS LINES: the developers' forms: holds; Token, Plain. No claim by itself.
-/
namespace Go.Proofs.YtibipnipeaeonaaGreatDoor
open Go Go.RowKit Go.Shelf
set_option maxRecDepth 100000
attribute [local go_sem] run_store_func run_store_nilFunc
theorem goAll_no {may : Int → Bool} {s : List Int} {k : Nat} (h : k < s.length) (hn : goF may k (s.getD k 0) = false) : goAll may 0 s = false := by
  cases hx : goAll may 0 s
  · rfl
  · rw [goAll_iff] at hx
    have := hx k h
    rw [Nat.zero_add, hn] at this
    cases this
set_option maxHeartbeats 1000000 in
theorem nholds_any (least : Nat) (F : Value) (p : Int → Bool) (B : Nat) (s : ByteArray) (w : World) (hF : MayF w B F p) (hs : s.size ≤ 140737488351232) :
    Calls Tryz.prog 80 #[formV least F, .string s] w fun e w' => e = .returned (.bool (formL p least (unums s))) ∧ Below w.heap.size w w' := by
  have HN := vl (unums_at s)
  have HL := vl (unums_len s)
  have HY := vl (bytes_unums s)
  have HF := vl hF
  obtain ⟨g, lb, rfl, eg, H1⟩ := id hF
  clear hF H1 eg
  have HX : Vl (∀ W, Below (w.heap.size + 1) (w.alloc (.cells #[.int .i64 (least : Int), .func (.func g) #[] lb] 155)) W → MayF W B (.func (.func g) #[] lb) p ∧ Below w.heap.size w W ∧ W.cell? ⟨w.heap.size, 0, none⟩ = some (.int .i64 (least : Int)) ∧ W.cell? ⟨w.heap.size, 1, none⟩ = some (.func (.func g) #[] lb)) := fun W hb => by
    have hb1 : Below w.heap.size w W := ((Below.refl _ w).alloc (Nat.le_refl _) _).trans (hb.mono (by omega))
    have hk := (hb.block w.heap.size (by omega)).trans (heap_alloc_new w (.cells #[.int .i64 (least : Int), .func (.func g) #[] lb] 155 (0, 0)))
    exact ⟨HF.out.later (Kp.of hb1), hb1, (f2_cell hk).1, (f2_cell hk).2.1⟩
  unfold formV
  go_enter Tryz.func80, Tryz.ntmps80
  go_wp2_with fail
  go_loopw [8] (fun i wr => ∃ k : Nat, i = .int .i64 k ∧ k ≤ s.size ∧ Vl (∀ t, t < k → goF p t ((unums s).getD t 0) = true) ∧ Vl (Below (w.heap.size + 1) (w.alloc (.cells #[.int .i64 (least : Int), .func (.func g) #[] lb] 155)) wr)) (fun i _ => s.size - (intOf i).toNat)
  case atStart => exact ⟨0, rfl, by omega, fun t ht => by omega, Below.refl _ _⟩
  case round =>
    obtain ⟨k, rfl, hk, HK, HB⟩ := hrel
    obtain ⟨hM, hb1, c0, c1⟩ := HX.out wr HB.out
    by_cases hlt : k < s.size
    · have hlt' : (k : Int) < (s.size : Int) := by omega
      have hby := bytes_getD HY.out k
      have hix := HN.out k hlt
      obtain ⟨c, hc⟩ : ∃ c, (unums s).getD k 0 = c := ⟨_, rfl⟩
      rw [hc] at hix hby
      have HC := vl hc
      clear hc
      have HG := vl (ngoes_any least _ p B wr.drew (hM.later (Kp.of (Below.refl _ wr).drew)) k c hby.1 hby.2)
      obtain ⟨b, hb⟩ : ∃ b, goF p k c = b := ⟨_, rfl⟩
      rw [hb] at HG
      have go : Vl (b = true → ∀ t, t < k + 1 → goF p t ((unums s).getD t 0) = true) := fun hab t ht => by
        by_cases e : t = k
        · rw [e, HC.out, hb, hab]
        · exact HK.out t (by omega)
      have no : Vl (b = false → formL p least (unums s) = false) := fun hab => by
        unfold formL
        rw [goAll_no (k := k) (by rw [HL.out]; exact hlt) (by rw [HC.out, hb, hab])]
        rfl
      have hsz := hb1.size
      have hs1 : w.heap.size < wr.heap.size := by have := HB.out.size; simp at this; omega
      have HZ : Vl (∀ w1, Below wr.drew.heap.size wr.drew w1 → w1.cell? ⟨w.heap.size, 0, none⟩ = some (.int .i64 (least : Int)) ∧ w1.cell? ⟨w.heap.size, 1, none⟩ = some (.func (.func g) #[] lb)) := fun w1 hb => ⟨(hb.cell (p := ⟨w.heap.size, 0, none⟩) hs1).trans c0, (hb.cell (p := ⟨w.heap.size, 1, none⟩) hs1).trans c1⟩
      have HS1 : Vl (w.heap.size + 1 ≤ wr.heap.size) := hs1
      clear hb hM hb1 hsz hs1 hby
      unfold formV at HG
      go_wp2_with fail
      go_region_held3 (fun w' => w'.cell? ⟨w.heap.size, 0, none⟩ = some (.int .i64 (least : Int)) ∧ w'.cell? ⟨w.heap.size, 1, none⟩ = some (.func (.func g) #[] lb))
        (first | go_keep | (exact HZ.out _ hb))
        ((go_at_call 98; refine HG.out.mono ?_; rintro e w1 ⟨rfl, hb⟩))
      have HB2 : Vl (Below (w.heap.size + 1) (w.alloc (.cells #[.int .i64 (least : Int), .func (.func g) #[] lb] 155)) w1) := HB.out.trans (((Below.refl _ wr).drew.trans hb).mono HS1.out)
      clear hb HG HZ c0 c1
      cases b with
      | true =>
        have GO := vl (go.out rfl)
        clear go no
        go_wp2
        go_roundw
        case rel => exact ⟨k + 1, by go_num, by omega, GO.out, HB2.out⟩
        case measure => simp [intOf]; omega
      | false =>
        have NO := vl (no.out rfl)
        clear go no
        go_wp2
        go_ret
        refine ⟨?_, (HX.out _ HB2.out).2.1⟩
        rw [NO.out]
        rfl
    · have hlt' : ¬ (k : Int) < (s.size : Int) := by omega
      have HE := vl (nends_any least (.func (.func g) #[] lb) s wr hs)
      have HA : Vl (formL p least (unums s) = endsL least (unums s)) := by
        show _ = _
        unfold formL
        rw [goAll_iff.2 (fun i hi => by rw [Nat.zero_add]; exact HK.out i (by rw [HL.out] at hi; omega)), Bool.true_and]
      obtain ⟨b, hb⟩ : ∃ b, endsL least (unums s) = b := ⟨_, rfl⟩
      rw [hb] at HE
      have HA2 := vl (HA.out.trans hb)
      clear hb
      have HB1 := vl hb1
      unfold formV at HE
      clear hM hb1 HA
      go_wp2_with fail
      refine HE.out.mono ?_
      rintro e w1 ⟨rfl, hb⟩
      go_wp2
      go_ret
      refine ⟨?_, HB1.out.trans (hb.mono HB1.out.size)⟩
      rw [HA2.out]
      rfl
theorem ntoken_any (s : ByteArray) (w : World) (hs : s.size ≤ 140737488351232) : Calls Tryz.prog 65 #[.string s] w fun e w' => e = .returned (.bool (tokL (unums s))) ∧ Below w.heap.size w w' := by
  have H1 := vl (ntokf_any w)
  have H2 := vl (fun W => nholds_any 1 _ ok0 0 s W (mayf_tok W 0) hs)
  rw [form_tok] at H2
  generalize tokL (unums s) = b at *
  go_enter Tryz.func65, Tryz.ntmps65
  go_wp2_with fail
  refine H1.out.mono ?_
  rintro e w1 ⟨rfl, hb⟩
  go_wp2_with fail
  refine (H2.out _).mono ?_
  rintro e w2 ⟨rfl, hb2⟩
  go_wp2
  go_ret
  exact ⟨rfl, hb.trans (hb2.mono hb.size)⟩
end Go.Proofs.YtibipnipeaeonaaGreatDoor
