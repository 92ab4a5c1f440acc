/-
  MESSAGES AS LINES: the developers' reader: how far it was read; next, word, digit. No claim by itself.
-/
import Derived.Test.YtkaihfminlincafGreatDoorNdv5
namespace Go.Proofs.YtkaihfminlincafGreatDoor
open Go Go.RowKit Go.Shelf
set_option maxRecDepth 100000
attribute [local go_sem] run_store_func run_store_nilFunc
/-- How far it was read: what comes of it all is what is still to be read tells of the rest; or a fault was met. -/
def Dst {β : Type} (G : Int × β × List Int) (K : Pz β) (w0 wx : World) (lb : Nat) (a : Option Addr) (len cap : Nat) (Z : List Int) : Prop :=
  ∃ (q : Nat) (bad : Int), RS w0 wx lb a len cap Z q bad ∧ ((bad = 0 ∧ G = K (Z.drop q)) ∨ (bad ≠ 0 ∧ G.1 = bad))
section
variable {β : Type} {G : Int × β × List Int} {K : Pz β} {w0 wx w' : World} {lb : Nat} {a : Option Addr} {len cap : Nat} {Z : List Int}
theorem Dst.lt (h : Dst G K w0 wx lb a len cap Z) : lb < wx.heap.size := by
  obtain ⟨q, bad, h1, _⟩ := h
  exact h1.lt
theorem Dst.below (h : Dst G K w0 wx lb a len cap Z) : Below w0.heap.size w0 wx := by
  obtain ⟨q, bad, h1, _⟩ := h
  exact h1.below
theorem Dst.base (h : Dst G K w0 wx lb a len cap Z) : w0.heap.size ≤ lb := by
  obtain ⟨q, bad, h1, _⟩ := h
  exact h1.base
theorem Dst.on (h : Dst G K w0 wx lb a len cap Z) (hb : Below wx.heap.size wx w') : Dst G K w0 w' lb a len cap Z := by
  obtain ⟨q, bad, h1, h2⟩ := h
  exact ⟨q, bad, h1.on hb, h2⟩
end
theorem o1 {w : World} {B : Nat} {x : Value} {T : TypeId} (h : w.heap[B]? = some (.cells #[x] T (0, 0))) : w.cell? ⟨B, 0, none⟩ = some x ∧ w.frozen? ⟨B, 0, none⟩ = false := by simp [World.cell?, World.frozen?, h]
/-- The next byte, if it may be. -/
def nxtP (ok : Int → Bool) : Pz Int
  | [] => (8, 0, [])
  | c :: r => if ok c = true then (0, c, r) else (2, 0, [])
theorem drop_at {Z : List Int} {q : Nat} (h : q < Z.length) : Z.drop q = Z.getD q 0 :: Z.drop (q + 1) := by
  rw [List.drop_eq_getElem_cons h]
  simp [List.getD, List.getElem?_eq_getElem h]
theorem nnext_go (w0 : World) (lb : Nat) (a : Option Addr) (len cap : Nat) (Z : List Int) (q : Nat) (fg : Nat) (fb : Array Value) (ok : Int → Bool) (w : World) (h : RS w0 w lb a len cap Z q 0)
    (eg : ∀ args w, (callFunc fg args).run Tryz.prog w = .ok (.enter fg args) w)
    (hF : ∀ c W, 0 ≤ c → c < 256 → Below w.heap.size w W → Calls Tryz.prog fg (#[.int .u8 c] ++ fb) W fun e w' => e = .returned (.bool (ok c)) ∧ Below W.heap.size W w') :
    Calls Tryz.prog 41 #[rptr lb, .func (.func fg) #[] fb] w fun x w' => ∃ (c : Int) (q' : Nat) (bad : Int), x = .returned (.int .u8 c) ∧ 0 ≤ c ∧ c < 256 ∧ RS w0 w' lb a len cap Z q' bad ∧ Tr lb w w' ∧
      ((bad = 0 ∧ q' = q + 1 ∧ q < len ∧ c = Z.getD q 0 ∧ nxtP ok (Z.drop q) = (0, c, Z.drop q')) ∨ (bad ≠ 0 ∧ q' = q ∧ (nxtP ok (Z.drop q)).1 = bad)) := by
  have hz := h.zlen
  rcases Nat.lt_or_ge q len with hlt | hge
  · have hby := bytes_getD h.arg.bytes q
    refine (nnext_any w0 lb a len cap Z q fg fb (ok (Z.getD q 0)) w h hlt eg (fun W hb => hF _ W hby.1 hby.2 hb)).mono ?_
    rintro x w' ⟨⟨hb, rfl, hS⟩ | ⟨hb, rfl, hS⟩, hT⟩
    · refine ⟨_, q + 1, 0, rfl, hby.1, hby.2, hS, hT, Or.inl ⟨rfl, rfl, hlt, rfl, ?_⟩⟩
      rw [drop_at (by omega), nxtP, if_pos hb]
    · refine ⟨_, q, 2, rfl, by omega, by omega, hS, hT, Or.inr ⟨by omega, rfl, ?_⟩⟩
      rw [drop_at (by omega), nxtP, if_neg (by rw [hb]; simp)]
  · obtain rfl : q = len := by have := h.le; omega
    refine (nnext_end w0 lb a q cap Z _ w h).mono ?_
    rintro x w' ⟨rfl, hS, hT⟩
    refine ⟨_, q, 8, rfl, by omega, by omega, hS, hT, Or.inr ⟨by omega, rfl, ?_⟩⟩
    rw [List.drop_of_length_le (by omega)]
    rfl
section
variable {β : Type} [Inhabited β] {G : Int × β × List Int} {w0 wx : World} {lb : Nat} {a : Option Addr} {len cap : Nat} {Z : List Int}
theorem next_st {ok : Int → Bool} {f : Int → Pz β} (fg : Nat) (fb : Array Value) (h : Dst G (bindP (nxtP ok) f) w0 wx lb a len cap Z)
    (eg : ∀ args w, (callFunc fg args).run Tryz.prog w = .ok (.enter fg args) w)
    (hF : ∀ c W, 0 ≤ c → c < 256 → Below wx.heap.size wx W → Calls Tryz.prog fg (#[.int .u8 c] ++ fb) W fun e w' => e = .returned (.bool (ok c)) ∧ Below W.heap.size W w') :
    Calls Tryz.prog 41 #[rptr lb, .func (.func fg) #[] fb] wx fun x w' => ∃ c : Int, x = .returned (.int .u8 c) ∧ 0 ≤ c ∧ c < 256 ∧ Dst G (f c) w0 w' lb a len cap Z ∧ Tr lb wx w' := by
  obtain ⟨q, bad, h1, ⟨rfl, h2⟩ | ⟨h2, h3⟩⟩ := h
  · refine (nnext_go w0 lb a len cap Z q fg fb ok wx h1 eg hF).mono ?_
    rintro x w' ⟨c, q', bad, rfl, c0, c1, hS, hT, ⟨rfl, _, _, _, h4⟩ | ⟨h4, _, h5⟩⟩
    · exact ⟨c, rfl, c0, c1, ⟨q', 0, hS, Or.inl ⟨rfl, by rw [h2, bindP_ok h4]⟩⟩, hT⟩
    · exact ⟨c, rfl, c0, c1, ⟨q', bad, hS, Or.inr ⟨h4, by rw [h2, bindP_no (by rw [h5]; exact h4), h5]⟩⟩, hT⟩
  · refine (nnext_no lb a len cap q bad _ wx h1.mem h2).mono ?_
    rintro x w' ⟨rfl, rfl⟩
    exact ⟨0, rfl, by omega, by omega, ⟨q, bad, h1, Or.inr ⟨h2, h3⟩⟩, Tr.refl _ _⟩
end
theorem mts_cons {β : Type} [Inhabited β] (c : Int) (s : List Int) (f : Unit → Pz β) : bindP (mtsP (c :: s)) f = bindP (nxtP fun d => decide (d = c)) fun _ => bindP (mtsP s) f := by
  funext b
  match b with
  | [] => rfl
  | d :: r =>
    unfold bindP
    simp only [mtsP, nxtP]
    by_cases h : d = c
    · simp [h]
    · simp [h]
theorem nword1_any (sb ib : Nat) (s : ByteArray) (k : Nat) (c : Int) (w : World) (h1 : w.cell? ⟨sb, 0, none⟩ = some (.string s)) (h2 : w.cell? ⟨ib, 0, none⟩ = some (.int .i64 k)) (hk : k < s.size) (_hs : s.size ≤ 1000) :
    Calls Tryz.prog 52 #[.int .u8 c, .pointer (some ⟨sb, 0, none⟩), .pointer (some ⟨ib, 0, none⟩)] w fun e w' => e = .returned (.bool (decide (c = (unums s).getD k 0))) ∧ Below w.heap.size w w' := by
  have hix := unums_at s k hk
  have hk' : (k : Int) < (s.size : Int) := by omega
  have hk0 : (0 : Int) ≤ (k : Int) := by omega
  obtain ⟨d, hd⟩ : ∃ d, (unums s).getD k 0 = d := ⟨_, rfl⟩
  rw [hd] at hix ⊢
  clear hd
  go_enter Tryz.func52, Tryz.ntmps52
  go_wp2
  go_ret
  refine ⟨?_, Below.refl _ _⟩
  show Ending.returned (Value.bool _) = Ending.returned (Value.bool _)
  congr 2
set_option maxHeartbeats 1000000 in
theorem word_st {β : Type} [Inhabited β] {G : Int × β × List Int} {w0 wx : World} {lb : Nat} {a : Option Addr} {len cap : Nat} {Z : List Int} {f : Unit → Pz β} (s : ByteArray) (hs : s.size ≤ 1000) (h : Dst G (bindP (mtsP (unums s)) f) w0 wx lb a len cap Z) :
    Calls Tryz.prog 14 #[rptr lb, .string s] wx fun e w' => e = .returned (.tuple #[]) ∧ Dst G (f ()) w0 w' lb a len cap Z ∧ Tr lb wx w' := by
  have hb0 : Below wx.heap.size wx (wx.alloc (.cells #[.string s] 9)) := (Below.refl _ _).alloc (Nat.le_refl _) _
  have H0 := vl (h.on hb0)
  have hlt := h.lt
  have HB0 : Vl (Tr lb wx (wx.alloc (.cells #[.string s] 9))) := Tr.of hb0
  have HS0 : Vl ((wx.alloc (.cells #[.string s] 9)).heap[wx.heap.size]? = some (.cells #[.string s] 9 (0, 0))) := heap_alloc_new wx _
  have HL := vl (unums_len s)
  have c0 : (wx.alloc (.cells #[.string s] 9)).cell? ⟨wx.heap.size, 0, none⟩ = some (.string s) := (o1 HS0.out).1
  clear h hb0
  unfold rptr
  go_enter Tryz.func14, Tryz.ntmps14
  go_wp2_with fail
  go_loopw [7] (fun i wr => ∃ k : Nat, i = .int .i64 k ∧ k ≤ s.size ∧ Vl (Dst G (bindP (mtsP ((unums s).drop k)) f) w0 wr lb a len cap Z) ∧ Vl (Tr lb wx wr) ∧ Vl (wr.heap[wx.heap.size]? = some (.cells #[.string s] 9 (0, 0)))) (fun i _ => s.size - (intOf i).toNat)
  case atStart => exact ⟨0, rfl, by omega, H0.out, HB0.out, HS0.out⟩
  case round =>
    obtain ⟨k, rfl, hk, HD, HT, HS⟩ := hrel
    clear c0
    by_cases hk1 : k < s.size
    · have hk' : (k : Int) < (s.size : Int) := by omega
      have hsz := HT.out.size
      have hbi : Below wr.heap.size wr (wr.alloc (.cells #[.int .i64 k] 3)) := (Below.refl _ _).alloc (Nat.le_refl _) _
      obtain ⟨W1, hW1⟩ : ∃ W1, wr.alloc (.cells #[.int .i64 (k : Int)] 3) = W1 := ⟨_, rfl⟩
      rw [hW1] at hbi
      have hwl : wx.heap.size < wr.heap.size := (Array.getElem?_eq_some_iff.1 HS.out).1
      have hS1 : W1.heap[wx.heap.size]? = some (.cells #[.string s] 9 (0, 0)) := (hbi.block _ hwl).trans HS.out
      have hI1 : W1.heap[wr.heap.size]? = some (.cells #[.int .i64 (k : Int)] 3 (0, 0)) := by rw [← hW1]; exact heap_alloc_new wr _
      have hD1 := HD.out.on hbi
      rw [List.drop_eq_getElem_cons (by rw [HL.out]; exact hk1), mts_cons] at hD1
      have hge : (unums s)[k]'(by rw [HL.out]; exact hk1) = (unums s).getD k 0 := by simp [List.getD, List.getElem?_eq_getElem (show k < (unums s).length by rw [HL.out]; exact hk1)]
      rw [hge] at hD1
      have HN := vl (next_st (fg := 52) (fb := #[.pointer (some ⟨wx.heap.size, 0, none⟩), .pointer (some ⟨wr.heap.size, 0, none⟩)]) hD1 (enters_of Tryz.func52 (by kernel_rfl) rfl) (fun c W _ _ hb => by
        have e1 := (hb.block _ (Array.getElem?_eq_some_iff.1 hS1).1).trans hS1
        have e2 := (hb.block _ (Array.getElem?_eq_some_iff.1 hI1).1).trans hI1
        exact nword1_any _ _ s k c W (o1 e1).1 (o1 e2).1 hk1 hs))
      have HT1 : Vl (Tr lb wx W1) := HT.out.on hbi
      have HS1 := vl hS1
      have HW1 := vl hW1
      clear hD1 hS1 hI1 hbi hge hW1
      unfold rptr at HN
      go_wp2_with fail
      rw [HW1.out]
      clear HW1
      refine HN.out.mono ?_
      rintro e w2 ⟨c, rfl, _, _, hd2, ht2⟩
      have HD2 := vl hd2
      have HT2 : Vl (Tr lb wx w2) := HT1.out.trans ht2
      have HS2 : Vl (w2.heap[wx.heap.size]? = some (.cells #[.string s] 9 (0, 0))) := (ht2.block _ (Array.getElem?_eq_some_iff.1 HS1.out).1 (by omega)).trans HS1.out
      clear hd2 ht2 HN
      go_wp2
      go_roundw
      case rel => exact ⟨k + 1, by go_num, by omega, HD2.out, HT2.out, HS2.out⟩
      case measure => simp [intOf]; omega
    · have hk' : ¬ (k : Int) < (s.size : Int) := by omega
      have HE : Vl (Dst G (f ()) w0 wr lb a len cap Z) := by
        have := HD.out
        rw [List.drop_of_length_le (by rw [HL.out]; omega)] at this
        exact this
      go_wp2
      go_end0
      exact ⟨rfl, HE.out, HT.out⟩
end Go.Proofs.YtkaihfminlincafGreatDoor
