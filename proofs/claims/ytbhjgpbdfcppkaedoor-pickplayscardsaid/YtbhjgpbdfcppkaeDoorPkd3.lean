/-
  WHOSE TURN IT IS: the Go functions Next and least of package pick. No claim by itself.
-/
import Derived.Test.YtbhjgpbdfcppkaeDoorPkd2
namespace Go.Proofs.YtbhjgpbdfcppkaeDoor
open Go.RowKit Go.Maps
set_option maxRecDepth 100000
theorem same_pk (a b : Int) : (pkK a).sameKey (pkK b) = decide (a = b) := by
  by_cases e : a = b
  · subst e
    rw [WideAt.sameKey_self (a := pkK a) trivial]
    simp
  · rw [sameKey_ne (pkK_ne e)]
    simp [e]
/-- What is known when those that are not left have been looked at. -/
def NextAt (L : PL) (left : Lit → Bool) (nx : Int) (fd : Bool) : Prop :=
  (fd = false ∧ nx = 0 ∧ ∀ x ∈ L, left (pkK x.id) = false → x.wants = false) ∨
  (fd = true ∧ ∃ y ∈ L, y.id = nx ∧ y.wants = true ∧ ∀ x ∈ L, left (pkK x.id) = false → x.wants = true → pkb x y = false)
def strike (left : Lit → Bool) (id : Int) : Lit → Bool := fun z => left z && !z.sameKey (pkK id)
theorem strike_at (left : Lit → Bool) (id i : Int) (h : strike left id (pkK i) = false) : left (pkK i) = false ∨ i = id := by
  unfold strike at h
  rw [same_pk] at h
  simp at h
  by_cases e : i = id
  · exact Or.inr e
  · exact Or.inl (by cases hl : left (pkK i) with
      | false => rfl
      | true => exact absurd (h hl) e)
theorem NextAt.start {D : Dat} {L : PL} (h : PkR D L) (hn : (L.map PkO.id).Nodup) : NextAt L (Maps.has D) 0 false := by
  refine Or.inl ⟨rfl, rfl, fun x hx hl => ?_⟩
  rw [h.some_ (find_mem hn hx)] at hl
  cases hl
theorem NextAt.no {L : PL} {left : Lit → Bool} {nx : Int} {fd : Bool} (h : NextAt L left nx fd) (hn : (L.map PkO.id).Nodup) {o : PkO} (ho : o ∈ L) (hw : o.wants = false) : NextAt L (strike left o.id) nx fd := by
  rcases h with ⟨e1, e2, k⟩ | ⟨e1, y, hy, e2, e3, k⟩
  · refine Or.inl ⟨e1, e2, fun x hx hl => ?_⟩
    rcases strike_at left o.id x.id hl with m | m
    · exact k x hx m
    · rw [mem_eq hn hx ho m]; exact hw
  · refine Or.inr ⟨e1, y, hy, e2, e3, fun x hx hl hxw => ?_⟩
    rcases strike_at left o.id x.id hl with m | m
    · exact k x hx m hxw
    · rw [mem_eq hn hx ho m, hw] at hxw; cases hxw
theorem NextAt.first {L : PL} {left : Lit → Bool} {nx : Int} (h : NextAt L left nx false) (hn : (L.map PkO.id).Nodup) {o : PkO} (ho : o ∈ L) (hw : o.wants = true) : NextAt L (strike left o.id) o.id true := by
  rcases h with ⟨_, _, k⟩ | ⟨e1, _⟩
  · refine Or.inr ⟨rfl, o, ho, rfl, hw, fun x hx hl hxw => ?_⟩
    rcases strike_at left o.id x.id hl with m | m
    · have := k x hx m; rw [hxw] at this; cases this
    · rw [mem_eq hn hx ho m]; simp [pkb]
  · cases e1
theorem NextAt.more {L : PL} {left : Lit → Bool} {y o : PkO} (hy : y ∈ L) (hyw : y.wants = true) (k : ∀ x ∈ L, left (pkK x.id) = false → x.wants = true → pkb x y = false) (hn : (L.map PkO.id).Nodup) (ho : o ∈ L) (hw : o.wants = true) :
    ∀ b, pkb o y = b → NextAt L (strike left o.id) (if b then o.id else y.id) true := by
  intro b hb
  cases b with
  | false =>
    refine Or.inr ⟨rfl, y, hy, by simp, hyw, fun x hx hl hxw => ?_⟩
    rcases strike_at left o.id x.id hl with m | m
    · exact k x hx m hxw
    · rw [mem_eq hn hx ho m]; exact hb
  | true =>
    refine Or.inr ⟨rfl, o, ho, by simp, hw, fun x hx hl hxw => ?_⟩
    rcases strike_at left o.id x.id hl with m | m
    · have := k x hx m hxw
      simp [pkb] at this hb ⊢
      omega
    · rw [mem_eq hn hx ho m]; simp [pkb]
theorem NextAt.done {L : PL} {left : Lit → Bool} {nx : Int} {fd : Bool} (h : NextAt L left nx fd) (hn : (L.map PkO.id).Nodup) (hl : ∀ z, left z = false) : nextF L = (nx, fd) := by
  unfold nextF
  rcases h with ⟨rfl, rfl, k⟩ | ⟨rfl, y, hy, rfl, hyw, k⟩
  · rw [least_none.2 (fun x hx => k x hx (hl _))]
  · rw [least_of hn hy hyw (fun x hx hxw => k x hx (hl _) hxw)]
section
variable {P : Program} (w : World) {ops : Array Oper} {rest : List Oper} {o : Oper} {a : Act} {Q : Exit → Act → World → Prop}
theorem wpList_next_one (hg : o.guard = none) (it : Operand) (hop : o.op = Op.next it false) (K : Keyed P 3) (hk : P.underlying 3 = some (.int .i64))
    (b r n : Nat) (D : Dat) (left : Lit → Bool) (cnt : Nat) (hit : a.eval it = .pointer (some ⟨r, 0, none⟩)) (h : w.ranges P 3 oneElem b r n D left cnt)
    (hDone : (∀ kl, left kl = false) → wpList P ops Q rest (a.put o.dst (.tuple #[.bool false])) w)
    (hMore : ∀ (q : PkO) (w' : World) (cnt' : Nat), (∀ zd, D.atKey (pkK q.id) zd = oneD q.wt q.sc q.wants) → w'.ranges P 3 oneElem b r n D (strike left q.id) cnt' → cnt' < cnt →
      w.grownBy w' (some r) → (Instr.entry (.pointer (some ⟨r, 0, none⟩))).run P w' = .ok (.tuple #[.int .i64 q.id, .agg #[.int .i64 q.wt, .int .i64 q.sc, .bool q.wants]]) w' → wpList P ops Q rest (a.put o.dst (.tuple #[.bool true, .int .i64 q.id, .agg #[.int .i64 q.wt, .int .i64 q.sc, .bool q.wants]])) w') :
    wpList P ops Q (o :: rest) a w :=
  wpList_next_ranges w hg it hop 3 K oneElem (Value.int .i64) (fun c : Int × Int × Bool => oneV c.1 c.2.1 c.2.2) (fun key kl hkey => by obtain ⟨x, rfl, _⟩ := Maps.keyOf_int_inv hk hkey; exact ⟨x, rfl⟩) (fun v y hv => by obtain ⟨c, d, e, rfl, _⟩ := oneElem_inv hv; exact ⟨⟨c, d, e⟩, rfl⟩)
    b r n D left cnt hit h (fun _ hl => hDone hl) (fun x c kl y w' cnt' hkey _ hv hat hrg hlt hgr _ hen => by
      obtain ⟨x', ex, rfl, _⟩ := Maps.keyOf_int_inv hk hkey
      cases ex
      rw [oneElem_mk] at hv
      exact hMore ⟨x, c.1, c.2.1, c.2.2⟩ w' cnt' (fun zd => (hat zd).trans (by rw [← Option.some.inj hv])) hrg hlt hgr hen)
end
theorem pk_below_grown {B : Nat} {a w w' : World} {row : Option Nat} (h : Below B a w) (g : w.grownBy w' row) (hB : B ≤ w.heap.size) (hr : ∀ k, row = some k → B ≤ k) : Below B a w' :=
  ⟨g.os.trans h.os, g.tape.trans h.tape, g.output.trans h.output, Nat.le_trans h.size g.size, fun i hi => (g.block i (Nat.lt_of_lt_of_le hi hB) (fun e => by have := hr i e.symm; omega)).trans (h.block i hi)⟩
theorem ranges_own {P : Program} {w : World} {b r n : Nat} {D : Dat} {left : Lit → Bool} {cnt : Nat} (h : w.ranges P 3 oneElem b r n D left cnt) : w.ownsMap P 3 oneElem b n D := h.owns
set_option maxHeartbeats 1000000 in
theorem pnext_m {w : World} {pb mb : Nat} {D : Dat} {L : PL} (h : PkM w pb mb D L) (hI : PkI L) :
    Calls Tryd.prog 14 #[kptr pb] w fun e w' => e = .returned (.tuple #[.int .i64 (nextF L).1, .bool (nextF L).2]) ∧ Below w.heap.size w w' := by
  have c0 := h.c0
  have HM := vl h
  have HI := vl hI
  clear h hI
  unfold kptr
  go_enter Tryd.func14, Tryd.ntmps14
  go_wp2_with (first | (at_range; refine wpList_range_own _ rfl _ 46 rfl 3 52 klaw Tryd.underlying46 _ mb L.length D rfl HM.out.own ?_; intro w0 hrg0 hg0 hs0; have HRG := vl hrg0; have HG0 := vl hg0; clear hrg0 hg0 hs0) | go_in)
  go_frame
  go_loopw [4, 5, 13] (fun s4 s5 _ wr => ∃ (nx : Int) (fd : Bool) (left : Lit → Bool) (cnt : Nat), s4 = .int .i64 nx ∧ s5 = .bool fd ∧ wr.ranges Tryd.prog 3 oneElem mb w.heap.size L.length D left cnt ∧ Below w.heap.size w wr ∧ NextAt L left nx fd)
    (fun _ _ _ wr => wr.rangeLeft mb w.heap.size)
  case atStart => exact ⟨0, false, _, _, rfl, rfl, HRG.out, pk_below_grown (Below.refl _ _) HG0.out (Nat.le_refl _) (fun k hk => by cases hk), NextAt.start HM.out.rel HI.out.nodup⟩
  case round =>
    obtain ⟨nx, fd, left, cnt, rfl, rfl, hrg, hb, hn⟩ := hrel
    have HRW := vl hrg
    have HB := vl hb
    have HN := vl hn
    clear hrg hb hn c0
    go_wp2_with (first
      | (at_next; refine wpList_next_one _ rfl _ rfl klaw Tryd.underlying3 mb w.heap.size L.length D left cnt rfl HRW.out ?_ ?_)
      | go_in)
    · intro hl
      have HL := vl hl
      clear hl
      go_wp2
      go_ret2
      rw [HN.out.done HI.out.nodup HL.out]
      exact ⟨rfl, HB.out⟩
    · intro q w1 cnt1 hat hrg1 hlt hg1 hen
      have HR1 := vl hrg1
      have HLT := vl hlt
      have HB1 := vl (pk_below_grown HB.out hg1 HB.out.size (fun k hk => by cases hk; exact Nat.le_refl _))
      have HO : Vl (q ∈ L) := by
        obtain ⟨o, ho, e1, e2, e3, e4⟩ := HM.out.rel.entry hat
        have : o = q := by
          obtain ⟨a, b, c, d⟩ := o
          obtain ⟨a', b', c', d'⟩ := q
          simp_all
        rw [← this]
        exact ho
      clear hat hrg1 hlt hg1 HB
      obtain ⟨xi, wt, sc, wn⟩ := q
      dsimp only at hen HR1 ⊢
      cases wn with
      | false =>
        go_wp2
        go_roundw
        case rel => exact ⟨nx, fd, _, _, rfl, rfl, HR1.out.alloc _, HB1.out.alloc HB1.out.size _, HN.out.no HI.out.nodup HO.out rfl⟩
        case measure => rw [(HR1.out.alloc _).left_eq, HRW.out.left_eq]; exact HLT.out
      | true =>
        cases fd with
        | false =>
          go_wp2
          go_roundw
          case rel => exact ⟨xi, true, _, _, rfl, rfl, HR1.out.alloc _, HB1.out.alloc HB1.out.size _, HN.out.first HI.out.nodup HO.out rfl⟩
          case measure => rw [(HR1.out.alloc _).left_eq, HRW.out.left_eq]; exact HLT.out
        | true =>
          obtain ⟨y, hy, hyi, hyw, hk⟩ : ∃ y ∈ L, y.id = nx ∧ y.wants = true ∧ ∀ x ∈ L, left (pkK x.id) = false → x.wants = true → pkb x y = false := by
            rcases HN.out with ⟨e, _⟩ | ⟨_, k⟩
            · cases e
            · exact k
          subst hyi
          obtain ⟨b, hb⟩ : ∃ b, pkb ⟨xi, wt, sc, true⟩ y = b := ⟨_, rfl⟩
          have HK := vl (NextAt.more hy hyw hk HI.out.nodup HO.out rfl b hb)
          have HA : Vl (∀ W, Below w.heap.size w W → Calls Tryd.prog 19 #[.pointer (some ⟨pb, 0, none⟩), .int .i64 xi, .int .i64 y.id] W fun e w' => e = .returned (.bool b) ∧ Below W.heap.size W w') := fun W hW => by
            have := ahead_any (HM.out.below (Nat.le_refl _) hW) HI.out HO.out hy
            rw [hb] at this
            exact this
          clear hy hyw hk hb HN
          go_wp2_with fail
          obtain ⟨W1, hW1⟩ : ∃ W1, W1 = w1.alloc (.cells #[.int .i64 wt, .int .i64 sc, .bool true] 52) := ⟨_, rfl⟩
          have HR2 : Vl (W1.ranges Tryd.prog 3 oneElem mb w.heap.size L.length D (strike left xi) cnt1) := by rw [hW1]; exact HR1.out.alloc _
          have HB2 : Vl (Below w.heap.size w W1) := by rw [hW1]; exact HB1.out.alloc HB1.out.size _
          rw [← hW1]
          clear hW1 HR1 HB1 hen
          refine (HA.out W1 HB2.out).mono ?_
          rintro r w2 ⟨rfl, hb2⟩
          have HR3 : Vl (w2.ranges Tryd.prog 3 oneElem mb w.heap.size L.length D (strike left xi) cnt1) := HR2.out.kept (row := none) ⟨hb2.os, hb2.tape, hb2.output, hb2.size, fun i hi _ => hb2.block i hi⟩ (by simp) (by simp)
          have HB3 : Vl (Below w.heap.size w w2) := HB2.out.trans (hb2.mono HB2.out.size)
          clear hb2 HR2 HB2 HA
          cases b with
          | false =>
            go_wp2
            go_roundw
            case rel => exact ⟨y.id, true, _, _, rfl, rfl, HR3.out, HB3.out, HK.out⟩
            case measure => rw [HR3.out.left_eq, HRW.out.left_eq]; exact HLT.out
          | true =>
            go_wp2
            go_roundw
            case rel => exact ⟨xi, true, _, _, rfl, rfl, HR3.out, HB3.out, HK.out⟩
            case measure => rw [HR3.out.left_eq, HRW.out.left_eq]; exact HLT.out
theorem pnext_any : PNextSaid PkP := by
  rintro pb L S w ⟨mb, D, h, rfl⟩ hI
  exact pnext_m h hI
/-- The least score of all that want. -/
theorem pleast_any {w : World} {pb mb : Nat} {D : Dat} {L : PL} (h : PkM w pb mb D L) (hI : PkI L) :
    Calls Tryd.prog 17 #[kptr pb] w fun e w' => e = .returned (.int .i64 (leastSc L)) ∧ Below w.heap.size w w' := by
  have HN := vl (pnext_m h hI)
  obtain ⟨i, b, e1, o, hl⟩ : ∃ i b, nextF L = (i, b) ∧ ∃ o : PkO, ∀ W, PkM W pb mb D L → (Instr.lookup 46 (.map (some mb)) (.int .i64 i) false).run Tryd.prog W = .ok (.agg #[.int .i64 o.wt, .int .i64 (leastSc L), .bool o.wants]) W := by
    unfold nextF leastSc
    cases e : leastF L with
    | none =>
      refine ⟨0, false, rfl, ⟨0, 0, 0, false⟩, fun W hW => hW.look0 (by unfold I64; omega) ?_⟩
      rw [find_none]
      intro o ho
      have := hI.each o ho
      omega
    | some y =>
      have hy := (least_some e).1
      have := hI.each y hy
      exact ⟨y.id, true, rfl, y, fun W hW => hW.look (by unfold I64; omega) (find_mem hI.nodup hy)⟩
  rw [e1] at HN
  have HL := vl hl
  have HM := vl h
  have hfd := fld_one
  generalize leastSc L = ls at *
  clear h hI hl e1
  unfold kptr at HN ⊢
  go_enter Tryd.func17, Tryd.ntmps17
  go_wp2_with fail
  refine HN.out.mono ?_
  rintro r w' ⟨rfl, hb⟩
  have c0 := (HM.out.below (Nat.le_refl _) hb).c0
  have hl := HL.out w' (HM.out.below (Nat.le_refl _) hb)
  have HB := vl hb
  clear hb HL HM HN
  go_wp2
  go_ret
  exact ⟨rfl, HB.out⟩
end Go.Proofs.YtbhjgpbdfcppkaeDoor
