/-
  CONNECTIONS TO PLACES: the Go function Idle of package pool; a round over a map of connections. No claim by itself.
-/
import Derived.Test.YtibjbdcmhjbndaaDoorLo3
import Derived.Lib.Bytealg
namespace Go.Proofs.YtibjbdcmhjbndaaDoor
open Go.RowKit Go.Maps
set_option maxRecDepth 100000
theorem bq (s t : ByteArray) : (s.toList == t.toList) = decide (s = t) := by
  rw [Bool.eq_iff_iff, beq_iff_eq, decide_eq_true_iff, ByteArray.toList_eq, ByteArray.toList_eq]
  constructor
  · intro h
    obtain ⟨⟨a⟩⟩ := s
    obtain ⟨⟨b⟩⟩ := t
    simp at h
    rw [h]
  · intro h; rw [h]
def strike (left : Lit → Bool) (id : Int) : Lit → Bool := fun z => left z && !z.sameKey (pkK id)
theorem strike_at (left : Lit → Bool) (id i : Int) : strike left id (pkK i) = (left (pkK i) && !decide (i = id)) := by
  unfold strike
  rw [same_pk]
section
variable {P : Program} (w : World) {ops : Array Oper} {rest : List Oper} {o : Oper} {a : Act} {Q : Exit → Act → World → Prop}
theorem wpList_next_lk (hg : o.guard = none) (it : Operand) (hop : o.op = Op.next it false) (K : Keyed P 3) (hk : P.underlying 3 = some (.int .i64))
    (b r n : Nat) (D : Dat) (left : Lit → Bool) (cnt : Nat) (hit : a.eval it = .pointer (some ⟨r, 0, none⟩)) (h : w.ranges P 3 lkElem b r n D left cnt)
    (hDone : (∀ kl, left kl = false) → wpList P ops Q rest (a.put o.dst (.tuple #[.bool false])) w)
    (hMore : ∀ (id : Int) (s : ByteArray) (t q : Int) (w' : World) (cnt' : Nat), Ix64 id → left (pkK id) = true → (∀ zd, D.atKey (pkK id) zd = lkD (s, t, q)) → w'.ranges P 3 lkElem b r n D (strike left id) cnt' → cnt' < cnt →
      w.grownBy w' (some r) → (Instr.entry (.pointer (some ⟨r, 0, none⟩))).run P w' = .ok (.tuple #[.int .i64 id, .agg #[.string s, .int .i64 t, .int .i64 q]]) w' → wpList P ops Q rest (a.put o.dst (.tuple #[.bool true, .int .i64 id, .agg #[.string s, .int .i64 t, .int .i64 q]])) w') :
    wpList P ops Q (o :: rest) a w :=
  wpList_next_ranges w hg it hop 3 K lkElem (Value.int .i64) (fun c : LV => lkV c) (fun key kl hkey => by obtain ⟨x, rfl, _⟩ := Maps.keyOf_int_inv hk hkey; exact ⟨x, rfl⟩) (fun v y hv => by obtain ⟨c, rfl, _⟩ := lkElem_inv hv; exact ⟨c, rfl⟩)
    b r n D left cnt hit h (fun _ hl => hDone hl) (fun x c kl y w' cnt' hkey hl hv hat hrg hlt hgr _ hen => by
      obtain ⟨x', ex, rfl, hwf⟩ := Maps.keyOf_int_inv hk hkey
      cases ex
      rw [lkElem_mk] at hv
      refine hMore x c.1 c.2.1 c.2.2 w' cnt' ?_ hl (fun zd => (hat zd).trans (by rw [← Option.some.inj hv])) hrg hlt hgr hen
      simp [Lit.wf, IntKind.min, IntKind.max, IntKind.bits, IntKind.signed] at hwf
      unfold Ix64
      omega)
end
theorem below_grown {B : Nat} {a w w' : World} {row : Option Nat} (h : Below B a w) (g : w.grownBy w' row) (hB : B ≤ w.heap.size) (hr : ∀ k, row = some k → B ≤ k) : Below B a w' :=
  ⟨g.os.trans h.os, g.tape.trans h.tape, g.output.trans h.output, Nat.le_trans h.size g.size, fun i hi => (g.block i (Nat.lt_of_lt_of_le hi hB) (fun e => by have := hr i e.symm; omega)).trans (h.block i hi)⟩
/-- An entry of the Idle ones that comes out is one of them. -/
theorem idle_entry {D : Dat} {L : LL} {n : Nat} (h : MF D (fI L) n) {id : Int} {v : LV} (ha : ∀ zd, D.atKey (pkK id) zd = lkD v) : ∃ o ∈ L, o.id = id ∧ o.busy = false ∧ v = iV o := by
  have h1 := ha (.agg [])
  rw [h.at_] at h1
  cases e : fI L id with
  | none => rw [e] at h1; simp [lkD] at h1
  | some u =>
    rw [e] at h1
    have h2 := lkD_inj h1
    subst h2
    unfold fI at e
    split at e
    · rename_i o ho
      split at e
      · cases e
      · rename_i hb
        cases e
        exact ⟨o, (lk_some ho).1, (lk_some ho).2, by simpa using hb, rfl⟩
    · cases e
/-- How many of those that have come are as p says. -/
def cntV (L : LL) (p : Lk → Bool) (left : Lit → Bool) : Nat := (L.filter (fun x => p x && !left (pkK x.id))).length
theorem cntV_step {L : LL} (hn : (L.map Lk.id).Nodup) {p : Lk → Bool} {left : Lit → Bool} {o : Lk} (ho : o ∈ L) (hl : left (pkK o.id) = true) : cntV L p (strike left o.id) = cntV L p left + (if p o then 1 else 0) := by
  unfold cntV
  induction L with
  | nil => cases ho
  | cons x r ih =>
    rw [List.map_cons, List.nodup_cons] at hn
    rcases List.mem_cons.1 ho with rfl | h
    · have hr : r.filter (fun y => p y && !strike left o.id (pkK y.id)) = r.filter (fun y => p y && !left (pkK y.id)) := by
        apply List.filter_congr
        intro y hy
        have : y.id ≠ o.id := fun e => hn.1 (by rw [← e]; exact List.mem_map_of_mem (f := Lk.id) hy)
        rw [strike_at]
        simp [this]
      rw [List.filter_cons, List.filter_cons, hr, strike_at, hl]
      cases p o <;> simp
    · have hne : x.id ≠ o.id := fun e => hn.1 (by rw [e]; exact List.mem_map_of_mem (f := Lk.id) h)
      have h1 := ih hn.2 h
      rw [List.filter_cons, List.filter_cons, strike_at]
      simp only [hne, decide_false, Bool.not_false, Bool.and_true]
      cases p x && !left (pkK x.id) <;> simp <;> omega
theorem cntV_start {L : LL} {D : Dat} {n : Nat} (h : MF D (fI L) n) (hn : (L.map Lk.id).Nodup) (to : ByteArray) : cntV L (isTo to) (Maps.has D) = 0 := by
  unfold cntV
  rw [List.length_eq_zero_iff, List.filter_eq_nil_iff]
  intro x hx
  cases e : isTo to x with
  | false => simp
  | true => rw [h.some_ (fI_some (lk_mem hn hx) (isTo_iff.1 e).1)]; simp
theorem cntV_end {L : LL} {to : ByteArray} {left : Lit → Bool} (h : ∀ kl, left kl = false) : cntV L (isTo to) left = idleTo L to := by
  unfold cntV idleTo
  congr 1
  apply List.filter_congr
  intro x _
  rw [h]
  simp
theorem cntV_le (L : LL) (p : Lk → Bool) (left : Lit → Bool) : cntV L p left ≤ L.length := List.length_filter_le _ _
set_option maxHeartbeats 1000000 in
theorem oidle_any {w : World} {pb bb ib : Nat} {DB DI : Dat} {S : Po} (h : PoM w pb bb ib DB DI S) (hI : PoI S) (to : ByteArray) :
    Calls Tryd.prog 15 #[pptr pb, .string to] w fun e w' => e = .returned (.int .i64 (idleTo S.L to : Nat)) ∧ Below w.heap.size w w' := by
  obtain ⟨-, -, -, -, -, c5, -⟩ := h.cells
  have HM := vl h
  have HI := vl hI
  have hll : S.L.length ≤ 8 := by have := hI.len; have := hI.many.2; omega
  have HLL := vl hll
  clear h hI hll
  unfold pptr
  go_enter Tryd.func15, Tryd.ntmps15
  go_wp2_with (first | (at_range; refine wpList_range_own _ rfl _ 54 rfl 3 65 klaw Tryd.underlying54 _ ib (nI S.L) DI rfl HM.out.ownI ?_; intro w0 hrg0 hg0 hs0; have HRG := vl hrg0; have HG0 := vl hg0; clear hrg0 hg0 hs0) | go_in)
  go_frame
  go_loopw [5, 7] (fun s5 _ wr => ∃ (k : Nat) (left : Lit → Bool) (cnt : Nat), s5 = .int .i64 k ∧ Vl (wr.ranges Tryd.prog 3 lkElem ib w.heap.size (nI S.L) DI left cnt) ∧ Vl (Below w.heap.size w wr) ∧ Vl (k = cntV S.L (isTo to) left))
    (fun _ _ wr => wr.rangeLeft ib w.heap.size)
  case atStart => exact ⟨0, _, _, rfl, HRG, vl (below_grown (Below.refl _ _) HG0.out (Nat.le_refl _) (fun k hk => by cases hk)), vl (cntV_start HM.out.relI HI.out.nodup to).symm⟩
  case round =>
    obtain ⟨k, left, cnt, rfl, HRW, HB, HK⟩ := hrel
    have hk8 : k ≤ 8 := by have := HK.out; have := cntV_le S.L (isTo to) left; have := HLL.out; omega
    clear c5
    go_wp2_with (first
      | (at_next; refine wpList_next_lk _ rfl _ rfl klaw Tryd.underlying3 ib w.heap.size (nI S.L) DI left cnt rfl HRW.out ?_ ?_)
      | go_in)
    · intro hl
      have HL := vl hl
      clear hl
      go_wp2
      go_ret
      exact ⟨by rw [HK.out, cntV_end HL.out]; rfl, HB.out⟩
    · intro id s t q w1 cnt1 hid hlf hat hrg1 hlt hg1 hen
      obtain ⟨o, hoL, hoid, hob, hov⟩ := idle_entry HM.out.relI hat
      obtain ⟨rfl, rfl, rfl⟩ : s = o.to ∧ t = o.turn ∧ q = o.at_ := by
        unfold iV at hov
        injection hov with a b
        injection b with b c
        exact ⟨a, b, c⟩
      subst hoid
      have HR1 := vl hrg1
      have HLT := vl hlt
      have HB1 := vl (below_grown HB.out hg1 HB.out.size (fun k hk => by cases hk; exact Nat.le_refl _))
      have HC := vl (cntV_step (p := isTo to) HI.out.nodup hoL hlf)
      clear hat hrg1 hlt hg1 HB hlf hov hid
      by_cases he : o.to = to
      · have he2 : (o.to.toList == to.toList) = true := by rw [bq]; exact decide_eq_true he
        have he3 : o.to.toList = to.toList := by simpa using he2
        have HK2 : Vl (k + 1 = cntV S.L (isTo to) (strike left o.id)) := vl (by rw [HC.out, ← HK.out, isTo_iff.2 ⟨hob, he⟩]; rfl)
        generalize o.to = s at *
        clear he he3 HC hoL hob
        go_wp2
        go_roundw
        case rel => exact ⟨k + 1, _, _, by go_num, vl (HR1.out.alloc _), vl (HB1.out.alloc HB1.out.size _), HK2⟩
        case measure => rw [(HR1.out.alloc _).left_eq, HRW.out.left_eq]; exact HLT.out
      · have he2 : (o.to.toList == to.toList) = false := by rw [bq]; exact decide_eq_false he
        have he3 : ¬ o.to.toList = to.toList := by simpa using he2
        have hno : isTo to o = false := by
          cases e : isTo to o with
          | false => rfl
          | true => exact absurd (isTo_iff.1 e).2 he
        have HK2 : Vl (k = cntV S.L (isTo to) (strike left o.id)) := vl (by rw [HC.out, ← HK.out, hno]; rfl)
        generalize o.to = s at *
        clear he HC hoL hob hno
        go_wp2
        go_roundw
        case rel => exact ⟨k, _, _, rfl, vl (HR1.out.alloc _), vl (HB1.out.alloc HB1.out.size _), HK2⟩
        case measure => rw [(HR1.out.alloc _).left_eq, HRW.out.left_eq]; exact HLT.out
end Go.Proofs.YtibjbdcmhjbndaaDoor
