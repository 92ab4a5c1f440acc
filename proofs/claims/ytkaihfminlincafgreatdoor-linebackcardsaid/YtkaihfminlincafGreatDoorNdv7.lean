/-
  MESSAGES AS LINES: the developers' reader: text. No claim by itself.
-/
import Derived.Test.YtkaihfminlincafGreatDoorNdv6
import Derived.Deep.DeepCutAuto
import Derived.Deep.CutBlock
import Derived.Deep.LoopGhost
namespace Go.Proofs.YtkaihfminlincafGreatDoor
open Go Go.RowKit Go.Shelf
set_option maxRecDepth 100000
attribute [local go_sem] run_store_func run_store_nilFunc
/-- A text, of which acc was read. -/
def untK {β : Type} [Inhabited β] (stop : Int) (may : Int → Bool) (f : List Int → Pz β) (k : Nat) (acc : List Int) : Pz β := fun b => if (untG stop may k b).1 = 0 then f (acc ++ (untG stop may k b).2.1) (untG stop may k b).2.2 else ((untG stop may k b).1, default, [])
def txtK {β : Type} [Inhabited β] (least : Nat) (f : List Int → Pz β) (s : List Int) : Pz β := if endsL least s = true then bindP skipP fun _ => f s else failP 2
section
variable {β : Type} [Inhabited β] {stop : Int} {may : Int → Bool} {f : List Int → Pz β} {k : Nat} {acc : List Int}
theorem untK_nil : (untK stop may f k acc []).1 = 8 := rfl
theorem untK_stop {c : Int} {r : List Int} (h : c = stop) : untK stop may f k acc (c :: r) = f acc (c :: r) := by
  unfold untK untG
  rw [if_pos h]
  simp
theorem untK_no {c : Int} {r : List Int} (h : c ≠ stop) (hg : goF may k c = false) : (untK stop may f k acc (c :: r)).1 = 2 := by
  unfold untK untG
  rw [if_neg h, if_pos hg]
  simp
theorem untG_go {c : Int} {r : List Int} (h : c ≠ stop) (hg : goF may k c = true) : untG stop may k (c :: r) = if (untG stop may (k + 1) r).1 = 0 then (0, c :: (untG stop may (k + 1) r).2.1, (untG stop may (k + 1) r).2.2) else ((untG stop may (k + 1) r).1, [], []) := by
  rw [untG, if_neg h, if_neg (by rw [hg]; simp)]
theorem untK_go {c : Int} {r : List Int} (h : c ≠ stop) (hg : goF may k c = true) : untK stop may f k acc (c :: r) = untK stop may f (k + 1) (acc ++ [c]) r := by
  unfold untK
  rw [untG_go h hg]
  by_cases h0 : (untG stop may (k + 1) r).1 = 0
  · rw [if_pos h0, if_pos rfl, if_pos h0]
    simp
  · rw [if_neg h0]
    simp only [if_neg h0]
end
theorem txt_is {β : Type} [Inhabited β] {stop : Int} {may : Int → Bool} {least : Nat} {f : List Int → Pz β} : bindP (txtP stop may least) f = untK stop may (txtK least f) 0 [] := by
  funext b
  unfold txtP untK txtK
  match hu : untG stop may 0 b with
  | (e, t, r) =>
    by_cases he : e = 0
    · subst he
      simp only [if_true, List.nil_append]
      unfold bindP
      rw [hu]
      simp only [if_true]
      by_cases hd : endsL least t = true
      · rw [if_pos hd, if_pos hd]
        match r with
        | [] => simp [skipP]
        | c :: r => simp [skipP, retP]
      · rw [if_neg hd, if_neg hd]
        simp [failP]
    · unfold bindP
      simp [hu, he]
set_option maxHeartbeats 1000000 in
theorem ntext1_any (fbx rb ib lb : Nat) (least : Int) (F : Value) (p : Int → Bool) (B : Nat) (a : Option Addr) (len cap f0 k : Nat) (bad c : Int) (w : World) (hF : MayF w B F p)
    (h0 : w.heap[fbx]? = some (.cells #[.int .i64 least, F] 47 (0, 0))) (h1 : w.heap[rb]? = some (.cells #[rptr lb] 41 (0, 0))) (h2 : w.heap[ib]? = some (.cells #[.int .i64 f0] 3 (0, 0))) (hM : RM w lb a len cap ((f0 + k : Nat) : Int) bad) (hc0 : 0 ≤ c) (hc1 : c < 256) (hl : f0 + k ≤ 281474976710656) :
    Calls Tryz.prog 42 #[.int .u8 c, .pointer (some ⟨fbx, 0, none⟩), .pointer (some ⟨rb, 0, none⟩), .pointer (some ⟨ib, 0, none⟩)] w fun e w' => e = .returned (.bool (goF p k c)) ∧ Below w.heap.size w w' := by
  obtain ⟨b0, b1, _, _⟩ := f2_cell h0
  have r0 := (o1 h1).1
  have i0 := (o1 h2).1
  have m1 := hM.c1
  have HG := vl (ngoes_any least F p B w.drew (hF.later (Kp.of (Below.refl _ w).drew)) k c hc0 hc1)
  have l0 := (Array.getElem?_eq_some_iff.1 h0).1
  have l1 := (Array.getElem?_eq_some_iff.1 h1).1
  have l2 := (Array.getElem?_eq_some_iff.1 h2).1
  have l3 := hM.lt
  have HZ : Vl (∀ w1, Below w.drew.heap.size w.drew w1 → w1.cell? ⟨fbx, 0, none⟩ = some (.int .i64 least) ∧ w1.cell? ⟨fbx, 1, none⟩ = some F ∧ w1.cell? ⟨rb, 0, none⟩ = some (.pointer (some ⟨lb, 0, none⟩)) ∧ w1.cell? ⟨ib, 0, none⟩ = some (.int .i64 f0) ∧ w1.cell? ⟨lb, 1, none⟩ = some (.int .i64 ((f0 : Int) + k))) :=
    fun w1 hb => ⟨(hb.cell (p := ⟨fbx, 0, none⟩) l0).trans b0, (hb.cell (p := ⟨fbx, 1, none⟩) l0).trans b1, (hb.cell (p := ⟨rb, 0, none⟩) l1).trans r0, (hb.cell (p := ⟨ib, 0, none⟩) l2).trans i0, (hb.cell (p := ⟨lb, 1, none⟩) l3).trans (by rw [show w.drew.cell? ⟨lb, 1, none⟩ = w.cell? ⟨lb, 1, none⟩ from rfl, m1]; simp)⟩
  obtain ⟨g, fb, rfl, _, _⟩ := hF
  rw [show ((f0 + k : Nat) : Int) = (f0 : Int) + k by omega] at m1
  unfold rptr at r0
  unfold formV at HG
  have hw : Vl (IntKind.i64.wrap ((f0 : Int) + (k : Int) - (f0 : Int)) = (k : Int)) := by show _ = _; rw [IntKind.wrap_i64]; omega
  rw [← hw.out] at HG
  clear h0 h1 h2 hM l0 l1 l2 l3 hw
  generalize goF p k c = b at *
  go_enter Tryz.func42, Tryz.ntmps42
  go_wp2_with fail
  go_region_held3 (fun w1 => w1.cell? ⟨fbx, 0, none⟩ = some (.int .i64 least) ∧ w1.cell? ⟨fbx, 1, none⟩ = some (.func (.func g) #[] fb) ∧ w1.cell? ⟨rb, 0, none⟩ = some (.pointer (some ⟨lb, 0, none⟩)) ∧ w1.cell? ⟨ib, 0, none⟩ = some (.int .i64 f0) ∧ w1.cell? ⟨lb, 1, none⟩ = some (.int .i64 ((f0 : Int) + k)))
    (first | go_keep | (exact HZ.out _ hb))
    ((go_at_call 43; refine HG.out.mono ?_; rintro e w1 ⟨rfl, hb⟩))
  go_wp2
  go_ret
  exact ⟨rfl, (Below.refl _ w).drew.trans hb⟩
theorem ntext2_any (fbx sb : Nat) (least : Nat) (F : Value) (s : ByteArray) (c : Int) (w : World) (hs : s.size ≤ 140737488351232) (hF : ∃ g fb, F = .func (.func g) #[] fb)
    (h0 : w.heap[fbx]? = some (.cells #[.int .i64 least, F] 47 (0, 0))) (h1 : w.heap[sb]? = some (.cells #[.string s] 9 (0, 0))) :
    Calls Tryz.prog 44 #[.int .u8 c, .pointer (some ⟨fbx, 0, none⟩), .pointer (some ⟨sb, 0, none⟩)] w fun e w' => e = .returned (.bool (endsL least (unums s))) ∧ Below w.heap.size w w' := by
  obtain ⟨b0, b1, _, _⟩ := f2_cell h0
  have s0 := (o1 h1).1
  have HE := vl (nends_any least F s w hs)
  obtain ⟨g, fb, rfl⟩ := hF
  unfold formV at HE
  clear h0 h1
  generalize endsL least (unums s) = b at *
  go_enter Tryz.func44, Tryz.ntmps44
  go_wp2_with fail
  refine HE.out.mono ?_
  rintro e w1 ⟨rfl, hb⟩
  go_wp2
  go_ret
  exact ⟨rfl, hb⟩
/- a part of bytes that were handed in -/
def cutA (a : Option Addr) (cap i : Nat) : Option Addr := if cap = i then a else a.map (·.add i)
theorem elem_sl : Tryz.prog.elem 23 = 5 := by kernel_rfl
theorem und_sl : Tryz.prog.underlying 23 = some (.slice (Tryz.prog.elem 23)) := by rw [elem_sl]; exact Tryz.underlying23
theorem size_5 (w : World) : (sizeOf 5).run Tryz.prog w = .ok 1 w := by kernel_rfl
theorem run_cut (a : Option Addr) (len cap i j : Nat) (h : i ≤ j) (hj : j ≤ cap) (w : World) : (Instr.slice 23 (.slice a len cap) (some (.int .i64 (i : Int))) (some (.int .i64 (j : Int))) none).run Tryz.prog w = .ok (.slice (cutA a cap i) (j - i) (cap - i)) w := by
  rw [run_slice_lh w 23 a len cap und_sl .i64 .i64 (i : Int) (j : Int) (by omega) (by omega) (by omega), elem_sl, size_5]
  simp [Result.andThen, sliced, cutA]
theorem run_cut_l (a : Option Addr) (len cap i : Nat) (h : i ≤ len) (w : World) : (Instr.slice 23 (.slice a len cap) (some (.int .i64 (i : Int))) none none).run Tryz.prog w = .ok (.slice (cutA a cap i) (len - i) (cap - i)) w := by
  rw [run_slice_l w 23 a len cap und_sl .i64 (i : Int) (by omega) (by omega), elem_sl, size_5]
  simp [Result.andThen, sliced, cutA]
theorem Row.part {w : World} {g off len cap : Nat} {Z : List Int} (h : Row w g off len cap Z) (p n : Nat) (hs : p + n ≤ len) : Row w g (off + p) n (cap - p) ((Z.drop p).take n) := by
  have hl := h.hlen
  have hc := h.hcap
  have hm := h.hmax
  have e : ∀ t, t < n → ((Z.drop p).take n).getD t 0 = Z.getD (p + t) 0 := fun t ht => by simp [List.getD, ht]
  refine ⟨by simp; omega, by omega, by omega, fun t ht => ?_, fun t => ?_⟩
  · rw [e t ht, Nat.add_assoc]
    exact h.hcell (p + t) (by omega)
  · by_cases ht : t < n
    · rw [e t ht]
      exact h.hbyte _
    · have e : ((Z.drop p).take n).getD t 0 = 0 := by simp [List.getD, List.getElem?_take, ht]
      rw [e]; decide
theorem Arg.part {w : World} {a : Option Addr} {len cap : Nat} {Z : List Int} (h : Arg w a len cap Z) (p n : Nat) (hs : p + n ≤ len) : Arg w (cutA a cap p) n (cap - p) ((Z.drop p).take n) := by
  rcases h with ⟨rfl, rfl⟩ | ⟨g, off, rfl, hr⟩
  · obtain rfl : n = 0 := by omega
    exact Or.inl ⟨rfl, by simp⟩
  · have hc := hr.hcap
    unfold cutA
    by_cases hp : cap = p
    · obtain rfl : n = 0 := by omega
      exact Or.inl ⟨rfl, by simp⟩
    · rw [if_neg hp]
      refine Or.inr ⟨g, off + p, ?_, hr.part p n hs⟩
      have hplain : (⟨g, off, none⟩ : Addr).add p = ⟨g, off + p, none⟩ := by unfold Addr.add; split <;> simp_all
      simp [hplain]
theorem Arg.cap {w : World} {a : Option Addr} {len cap : Nat} {Z : List Int} (h : Arg w a len cap Z) : len ≤ cap := by
  rcases h with ⟨rfl, rfl⟩ | ⟨g, off, rfl, hr⟩
  · exact Nat.zero_le _
  · exact hr.hcap
theorem n_empty {w : World} (a : Addr) (cap : Nat) : (convert 23 9 (.slice (some a) 0 cap)).run Tryz.prog w = .ok (.string (strOfNums [])) w := by
  rw [run_convert_bytes_string w 23 9 5 _ 0 cap Tryz.underlying23 Tryz.underlying5 Tryz.underlying9, run_bytesToString w a 0 cap [] (by simp [loadCells, loadCellsFrom])]
  rfl
/-- string(b) of bytes that were handed in. -/
theorem nd_text {w : World} {a : Option Addr} {len cap : Nat} {Z : List Int} (h : Arg w a len cap Z) :
    (convert 23 9 (.slice a len cap)).run Tryz.prog w = .ok (.string (strOfNums Z)) w := by
  rcases h with ⟨rfl, rfl⟩ | ⟨g, off, rfl, hr⟩
  · match a with
    | none => exact run_convert_bytes_nil (P := Tryz.prog) w 23 5 Tryz.underlying23 Tryz.underlying5 0 cap 9 Tryz.underlying9
    | some a => exact n_empty a cap
  · exact run_convert_bytes_arg w 23 5 Tryz.underlying23 Tryz.underlying5 g off len cap Z hr.hlen hr.hcell 9 Tryz.underlying9
/-- What was read of a text so far. -/
def TxI {β : Type} [Inhabited β] (G : Int × β × List Int) (stop : Int) (may : Int → Bool) (least : Nat) (f : List Int → Pz β) (Z : List Int) (q0 q : Nat) (bad : Int) : Prop :=
  (bad = 0 ∧ G = untK stop may (txtK least f) (q - q0) ((Z.drop q0).take (q - q0)) (Z.drop q)) ∨ (bad ≠ 0 ∧ G.1 = bad)
/-- What the test of the loop says. -/
def SeeT (Z : List Int) (len q : Nat) (bad stop : Int) (bb : Bool) : Prop := (bb = true ∧ bad = 0 ∧ (q = len ∨ Z.getD q 0 ≠ stop)) ∨ (bb = false ∧ (bad ≠ 0 ∨ (q < len ∧ Z.getD q 0 = stop)))
theorem txtK_nxt {β : Type} [Inhabited β] {least : Nat} {f : List Int → Pz β} {s : List Int} {c : Int} {r : List Int} : txtK least f s (c :: r) = bindP (nxtP fun _ => endsL least s) (fun _ => f s) (c :: r) := by
  unfold txtK bindP nxtP
  by_cases h : endsL least s = true
  · simp [h, skipP]
  · simp [h, failP]
/-- The three boxes of text. -/
structure TxB (wx wr : World) (lb least q0 g : Nat) (fb : Array Value) : Prop where
  tr : Tr lb wx wr
  b0 : wr.heap[wx.heap.size]? = some (.cells #[rptr lb] 41 (0, 0))
  b1 : wr.heap[wx.heap.size + 1]? = some (.cells #[.int .i64 (least : Int), .func (.func g) #[] fb] 47 (0, 0))
  b2 : wr.heap[wx.heap.size + 1 + 1]? = some (.cells #[.int .i64 (q0 : Int)] 3 (0, 0))
theorem TxB.on {wx wr w' : World} {lb least q0 g : Nat} {fb : Array Value} (h : TxB wx wr lb least q0 g fb) (hb : Tr lb wr w') (hl : lb < wx.heap.size) : TxB wx w' lb least q0 g fb :=
  ⟨h.tr.trans hb, (hb.block _ (Array.getElem?_eq_some_iff.1 h.b0).1 (by omega)).trans h.b0, (hb.block _ (Array.getElem?_eq_some_iff.1 h.b1).1 (by omega)).trans h.b1, (hb.block _ (Array.getElem?_eq_some_iff.1 h.b2).1 (by omega)).trans h.b2⟩
set_option maxHeartbeats 2000000 in
theorem text_st {β : Type} [Inhabited β] {G : Int × β × List Int} {w0 wx : World} {lb : Nat} {a : Option Addr} {len cap : Nat} {Z : List Int} {f : List Int → Pz β} (stop : Int) (may : Int → Bool) (least : Nat) (F : Value) (B : Nat) (hF : MayF wx B F may) (hlb : lb < B) (h : Dst G (bindP (txtP stop may least) f) w0 wx lb a len cap Z) :
    Calls Tryz.prog 11 #[rptr lb, formV least F, .int .u8 stop] wx fun e w' => ∃ s : ByteArray, e = .returned (.string s) ∧ Dst G (f (unums s)) w0 w' lb a len cap Z ∧ Tr lb wx w' ∧ s.size ≤ 400 := by
  rw [txt_is] at h
  obtain ⟨q0, bad0, hR, hG⟩ := h
  have hlt := hR.lt
  have hmost := hR.most
  unfold ULim at hmost
  have hle0 := hR.le
  obtain ⟨g, fb, rfl, _, _⟩ := id hF
  obtain ⟨W3, hW3⟩ : ∃ W3, ((wx.alloc (.cells #[rptr lb] 41)).alloc (.cells #[.int .i64 (least : Int), .func (.func g) #[] fb] 47)).alloc (.cells #[.int .i64 (q0 : Int)] 3) = W3 := ⟨_, rfl⟩
  have hb3 : Below wx.heap.size wx W3 := by rw [← hW3]; exact (((Below.refl _ wx).alloc (Nat.le_refl _) _).alloc (by simp) _).alloc (by simp; omega) _
  have e1 : W3.heap[wx.heap.size]? = some (.cells #[rptr lb] 41 (0, 0)) := by rw [← hW3, Below.heap_alloc _ _ _ (by simp; omega), Below.heap_alloc _ _ _ (by simp)]; exact heap_alloc_new wx _
  have e2 : W3.heap[wx.heap.size + 1]? = some (.cells #[.int .i64 (least : Int), .func (.func g) #[] fb] 47 (0, 0)) := by
    rw [← hW3, Below.heap_alloc _ _ _ (by simp)]
    have := heap_alloc_new (wx.alloc (.cells #[rptr lb] 41)) (.cells #[.int .i64 (least : Int), .func (.func g) #[] fb] 47 (0, 0))
    simpa using this
  have e3 : W3.heap[wx.heap.size + 1 + 1]? = some (.cells #[.int .i64 (q0 : Int)] 3 (0, 0)) := by
    rw [← hW3]
    have := heap_alloc_new ((wx.alloc (.cells #[rptr lb] 41)).alloc (.cells #[.int .i64 (least : Int), .func (.func g) #[] fb] 47)) (.cells #[.int .i64 (q0 : Int)] 3 (0, 0))
    simpa using this
  have m1 : ((wx.alloc (.cells #[rptr lb] 41)).alloc (.cells #[.int .i64 (least : Int), .func (.func g) #[] fb] 47)).cell? ⟨lb, 1, none⟩ = some (.int .i64 q0) := ((((Below.refl _ wx).alloc (Nat.le_refl _) (.cells #[rptr lb] 41)).alloc (by simp) (.cells #[.int .i64 (least : Int), .func (.func g) #[] fb] 47)).cell (p := ⟨lb, 1, none⟩) hlt).trans hR.mem.c1
  have HR := vl (hR.on hb3)
  have HG := vl hG
  have HF := vl hF
  have HB3 : Vl (TxB wx W3 lb least q0 g fb) := ⟨Tr.of hb3, e1, e2, e3⟩
  have HZL := vl hR.zlen
  have HAR := vl hR.arg
  have HBY := vl hR.arg.bytes
  have hcap := hR.arg.cap
  have HLT := vl hlt
  clear hR hG hF hb3 e1 e2 e3
  unfold rptr formV
  unfold rptr at hW3 m1
  go_enter Tryz.func11, Tryz.ntmps11
  go_wp2_with fail
  try rw [hW3]
  clear hW3 m1
  have HI0 : Vl (TxI G stop may least f Z q0 q0 bad0) := by
    rcases HG.out with ⟨h1, h2⟩ | h1
    · exact Or.inl ⟨h1, by simpa using h2⟩
    · exact Or.inr h1
  go_loopg [] (len + 2) (fun gf wr => ∃ (q : Nat) (bad : Int), Vl (RS w0 wr lb a len cap Z q bad) ∧ q0 ≤ q ∧ q ≤ q0 + 400 ∧ Vl (TxB wx wr lb least q0 g fb) ∧ Vl (TxI G stop may least f Z q0 q bad) ∧ Vl (bad = 0 → len + 1 ≤ q + gf))
  case atStart => exact ⟨q0, bad0, HR.out, Nat.le_refl _, by omega, HB3.out, HI0.out, fun _ => by omega⟩
  case round =>
    obtain ⟨q, bad, HS, hq, hq4, HB, HI, HGK⟩ := hrel
    clear HR HG HB3 HI0
    have r0 := (o1 HB.out.b0).1
    unfold rptr at r0
    have c2 := HS.out.mem.c2
    have hle := HS.out.le
    go_upto_region 2 with fail
    go_cut [23] (fun b wc => ∃ bb : Bool, b = .bool bb ∧ Vl (Below wr.heap.size wr wc) ∧ Vl (SeeT Z len q bad stop bb))
    case first =>
      as_aux_lemma =>
        by_cases hbad : bad = 0
        · subst hbad
          rw [errW_0] at c2
          have HSE := vl (nsees_any lb a len cap Z q 0 stop wr HS.out.mem HS.out.now hle HS.out.most)
          unfold rptr at HSE
          obtain ⟨sb, hsb⟩ : ∃ sb, seesL Z q stop = sb := ⟨_, rfl⟩
          rw [hsb] at HSE
          have HSB := vl hsb
          clear hsb
          go_wp2_with fail
          refine HSE.out.mono ?_
          rintro e w1 ⟨rfl, hb1⟩
          cases sb with
          | true =>
            have hx := HSB.out
            unfold seesL at hx
            rw [Bool.and_eq_true, decide_eq_true_eq, decide_eq_true_eq, HZL.out] at hx
            have HX := vl hx
            clear hx
            go_wp2
            go_meet
            exact ⟨false, rfl, hb1, Or.inr ⟨rfl, Or.inr HX.out⟩⟩
          | false =>
            have hx : q = len ∨ Z.getD q 0 ≠ stop := by
              rcases Nat.lt_or_ge q len with h | h
              · right
                intro e
                have hs := HSB.out
                unfold seesL at hs
                rw [decide_eq_true e, decide_eq_true (by rw [HZL.out]; exact h)] at hs
                cases hs
              · left; omega
            have HX := vl hx
            clear hx
            go_wp2
            go_meet
            exact ⟨true, rfl, hb1, Or.inl ⟨rfl, rfl, HX.out⟩⟩
        · rw [errW_ne hbad] at c2
          have HX := vl hbad
          clear hbad
          go_wp2
          go_meet
          exact ⟨false, rfl, Below.refl _ _, Or.inr ⟨rfl, Or.inl HX.out⟩⟩
    case rest =>
    obtain ⟨bb, rfl, hbc, HC⟩ := hcut
    have HS1 := vl (HS.out.on hbc.out)
    have HB1 := vl (HB.out.on (Tr.of hbc.out) HLT.out)
    clear HS HB hbc c2 r0
    have r1 := (o1 HB1.out.b0).1
    unfold rptr at r1
    cases bb with
    | true =>
      obtain ⟨hbad, hns⟩ : bad = 0 ∧ (q = len ∨ Z.getD q 0 ≠ stop) := by
        rcases HC.out with ⟨_, h⟩ | ⟨h, _⟩
        · exact h
        · cases h
      subst hbad
      have hgk := HGK.out rfl
      have hn := nnext_go w0 lb a len cap Z q 42 #[.pointer (some ⟨wx.heap.size + 1, 0, none⟩), .pointer (some ⟨wx.heap.size, 0, none⟩), .pointer (some ⟨wx.heap.size + 1 + 1, 0, none⟩)] (goF may (q - q0)) wc HS1.out (enters_of Tryz.func42 (by kernel_rfl) rfl) (fun c W h0 h1 hb => by
        have hB := HB1.out.on (Tr.of hb) HLT.out
        have hm := (HS1.out.on hb).mem
        rw [show q = q0 + (q - q0) by omega] at hm
        exact ntext1_any (wx.heap.size + 1) wx.heap.size (wx.heap.size + 1 + 1) lb least (.func (.func g) #[] fb) may B a len cap q0 (q - q0) 0 c W (HF.out.later (hB.tr.kp hlb)) hB.b1 hB.b0 hB.b2 hm h0 h1 (by omega))
      have HN := vl hn
      have HNS := vl hns
      have HQ : Vl (q0 ≤ q ∧ q ≤ len) := ⟨hq, hle⟩
      unfold rptr at HN
      clear hn hns HC
      go_wp2_with fail
      refine HN.out.mono ?_
      rintro e w2 ⟨c, q', bad', rfl, _, _, hS2, hT2, hcase⟩
      have HS2 := vl hS2
      have HB2 := vl (HB1.out.on hT2 HLT.out)
      have HI2 : Vl (TxI G stop may least f Z q0 q' bad' ∧ q ≤ q' ∧ q' ≤ q0 + 400 ∧ (bad' = 0 → q' = q + 1)) := by
        have hG : G = untK stop may (txtK least f) (q - q0) ((Z.drop q0).take (q - q0)) (Z.drop q) := by
          rcases HI.out with ⟨_, h⟩ | ⟨h, _⟩
          · exact h
          · exact absurd rfl h
        rcases hcase with ⟨rfl, rfl, h3, h4, h5⟩ | ⟨h3, rfl, h4⟩
        · have hd := drop_at (Z := Z) (q := q) (by rw [HZL.out]; exact h3)
          have hst : Z.getD q 0 ≠ stop := HNS.out.resolve_left (by omega)
          have hgo : goF may (q - q0) (Z.getD q 0) = true := by
            rw [hd, nxtP] at h5
            split at h5
            · rename_i h6; exact h6
            · simp at h5
          have h400 := (goF_iff.1 hgo).1
          refine ⟨Or.inl ⟨rfl, ?_⟩, by omega, by omega, fun _ => rfl⟩
          rw [hG, hd, untK_go hst hgo]
          have e1 : q + 1 - q0 = q - q0 + 1 := by omega
          rw [e1]
          congr 1
          rw [List.take_add_one]
          congr 1
          rw [List.getElem?_drop, show q0 + (q - q0) = q by omega, List.getElem?_eq_getElem (by rw [HZL.out]; exact h3)]
          simp [List.getD, List.getElem?_eq_getElem (show q < Z.length by rw [HZL.out]; exact h3)]
        · refine ⟨Or.inr ⟨h3, ?_⟩, by omega, hq4, fun h => absurd h h3⟩
          rcases Nat.lt_or_ge q' len with h | h
          · have hd := drop_at (Z := Z) (q := q') (by rw [HZL.out]; exact h)
            have hst : Z.getD q' 0 ≠ stop := HNS.out.resolve_left (by omega)
            rw [hd, nxtP] at h4
            split at h4
            · simp at h4; omega
            · rename_i h6
              rw [hG, hd, untK_no hst (by simpa using h6), ← h4]
          · have hdn : Z.drop q' = [] := List.drop_of_length_le (by rw [HZL.out]; exact h)
            rw [hdn] at hG h4
            rw [hG, untK_nil, ← h4]
            rfl
      have hle' := hS2.le
      obtain ⟨g', rfl⟩ : ∃ g', gk = g' + 1 := ⟨gk - 1, by omega⟩
      clear hS2 hT2 hcase HN HS1 HB1 r1
      go_wp2
      go_roundg g'
      case measure => omega
      case rel =>
        obtain ⟨h1, h2, h4, h3⟩ := HI2.out
        exact ⟨q', bad', HS2.out, by omega, h4, HB2.out, h1, fun hb0 => by have := h3 hb0; omega⟩
    | false =>
      have hst : bad ≠ 0 ∨ (q < len ∧ Z.getD q 0 = stop) := by
        rcases HC.out with ⟨h, _⟩ | ⟨_, h⟩
        · cases h
        · exact h
      have HST := vl hst
      have k0 := HS1.out.mem.c0
      have k1 := HS1.out.mem.c1
      have i0 := (o1 HB1.out.b2).1
      have hct := run_cut a len cap q0 q hq (by omega)
      have hcv : ∀ W, Below wc.heap.size wc W → (convert 23 9 (.slice (cutA a cap q0) (q - q0) (cap - q0))).run Tryz.prog W = .ok (.string (strOfNums ((Z.drop q0).take (q - q0)))) W := fun W hb => nd_text (((HS1.out.on hb).now).part q0 (q - q0) (by omega))
      obtain ⟨S, hS⟩ : ∃ S, strOfNums ((Z.drop q0).take (q - q0)) = S := ⟨_, rfl⟩
      rw [hS] at hcv
      have HSU : Vl (unums S = (Z.drop q0).take (q - q0)) := by
        show unums S = _
        rw [← hS]
        exact unums_str (fun x hx => HBY.out x (List.mem_of_mem_drop (List.mem_of_mem_take hx)))
      generalize hca : cutA a cap q0 = ca at *
      have hl1 := (Array.getElem?_eq_some_iff.1 HB1.out.b0).1
      have hl2 := (Array.getElem?_eq_some_iff.1 HB1.out.b2).1
      have hl3 := HS1.out.lt
      have HKA : Vl (∀ W, Below wc.heap.size wc W → W.cell? ⟨wx.heap.size, 0, none⟩ = some (.pointer (some ⟨lb, 0, none⟩)) ∧ W.cell? ⟨lb, 0, none⟩ = some (.slice a len cap) ∧ W.cell? ⟨wx.heap.size + 1 + 1, 0, none⟩ = some (.int .i64 (q0 : Int)) ∧ W.cell? ⟨lb, 1, none⟩ = some (.int .i64 (q : Int)) ∧ (convert 23 9 (.slice ca (q - q0) (cap - q0))).run Tryz.prog W = .ok (.string S) W) :=
        fun W hb => ⟨(hb.cell (p := ⟨wx.heap.size, 0, none⟩) hl1).trans r1, (hb.cell (p := ⟨lb, 0, none⟩) hl3).trans k0, (hb.cell (p := ⟨wx.heap.size + 1 + 1, 0, none⟩) hl2).trans i0, (hb.cell (p := ⟨lb, 1, none⟩) hl3).trans k1, hcv W hb⟩
      clear hca hst HC hS hl1 hl2 hl3 hcv
      go_wp2_with fail
      go_region_held3 (fun W => W.cell? ⟨wx.heap.size, 0, none⟩ = some (.pointer (some ⟨lb, 0, none⟩)) ∧ W.cell? ⟨lb, 0, none⟩ = some (.slice a len cap) ∧ W.cell? ⟨wx.heap.size + 1 + 1, 0, none⟩ = some (.int .i64 (q0 : Int)) ∧ W.cell? ⟨lb, 1, none⟩ = some (.int .i64 (q : Int)) ∧ (convert 23 9 (.slice ca (q - q0) (cap - q0))).run Tryz.prog W = .ok (.string S) W)
        (first | (exact HKA.out _ (Below.refl _ wc).drew) | (exact HKA.out _ ((Below.refl _ wc).drew.alloc (Nat.le_refl _) _)))
        (fail)
      have hb5 : Below wc.heap.size wc (wc.alloc (.cells #[.string S] 9)).drew := ((Below.refl _ wc).alloc (Nat.le_refl _) _).drew
      have hs5 : (wc.alloc (.cells #[.string S] 9)).drew.heap[wc.heap.size]? = some (.cells #[.string S] 9 (0, 0)) := heap_alloc_new wc _
      obtain ⟨W5, hW5⟩ : ∃ W5, (wc.alloc (.cells #[.string S] 9)).drew = W5 := ⟨_, rfl⟩
      rw [hW5] at hb5 hs5 ⊢
      have HB5 := vl (HB1.out.on (Tr.of hb5) HLT.out)
      have hD5 : Dst G (bindP (nxtP fun _ => endsL least (unums S)) fun _ => f (unums S)) w0 W5 lb a len cap Z := by
        refine ⟨q, bad, HS1.out.on hb5, ?_⟩
        rcases HI.out with ⟨h1, h2⟩ | h1
        · refine Or.inl ⟨h1, ?_⟩
          obtain ⟨h3, h4⟩ := HST.out.resolve_left (fun h => h h1)
          rw [h2, ← HSU.out, drop_at (q := q) (by rw [HZL.out]; exact h3), untK_stop h4, txtK_nxt]
        · exact Or.inr h1
      have hs4 : S.size ≤ 400 := by
        rw [← unums_len, HSU.out, List.length_take]
        omega
      have hsz : S.size ≤ 140737488351232 := by omega
      have HS4 := vl hs4
      have HN := vl (next_st (fg := 44) (fb := #[.pointer (some ⟨wx.heap.size + 1, 0, none⟩), .pointer (some ⟨wc.heap.size, 0, none⟩)]) hD5 (enters_of Tryz.func44 (by kernel_rfl) rfl) (fun c W _ _ hb => by
        have hB := HB5.out.on (Tr.of hb) HLT.out
        exact ntext2_any (wx.heap.size + 1) wc.heap.size least (.func (.func g) #[] fb) S c W hsz ⟨g, fb, rfl⟩ hB.b1 ((hb.block _ (Array.getElem?_eq_some_iff.1 hs5).1).trans hs5)))
      have r5 := (o1 HB5.out.b0).1
      unfold rptr at r5 HN
      have HS5 := vl hs5
      clear hW5 hb5 hD5 k0 k1 i0 r1 HKA hs5
      go_wp2_with fail
      refine HN.out.mono ?_
      rintro e w6 ⟨c, rfl, _, _, hd6, ht6⟩
      have hs6 : w6.cell? ⟨wc.heap.size, 0, none⟩ = some (.string S) := (o1 ((ht6.block _ (Array.getElem?_eq_some_iff.1 HS5.out).1 (by have := HB1.out.tr.size; omega)).trans HS5.out)).1
      have HT6 : Vl (Tr lb wx w6) := HB5.out.tr.trans ht6
      have HD6 := vl hd6
      clear hd6 ht6 HN r5
      go_wp2
      go_ret
      exact ⟨S, rfl, HD6.out, HT6.out, HS4.out⟩
end Go.Proofs.YtkaihfminlincafGreatDoor
