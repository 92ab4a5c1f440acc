/-
  WHERETO: the developers' parseLine. No claim by itself.
-/
import Derived.Test.YtmjdfbbhlbecdaaDoorWh10
import Derived.BigRegion
import Derived.Laws.Tables
import Derived.Handy
import Derived.Deep.DeepCutAuto
namespace Go.Proofs.YtmjdfbbhlbecdaaDoor
open Go Go.RowKit
set_option maxRecDepth 100000
def PlE (A : List Rb) (s : ByteArray) (e : Ending) : Prop := ∃ (r : Rb) (er : Int), e = .returned (.tuple #[.agg #[.string r.1, .string r.2.1, .string r.2.2], errW er]) ∧ lineP (rtsOf A) (unums s) = (er, rtO r) ∧ Sz3 r
theorem ple_no {A : List Rb} {s : ByteArray} {er : Int} (h : lineP (rtsOf A) (unums s) = (er, rt0)) : PlE A s (.returned (.tuple #[.agg #[.string ⟨#[]⟩, .string ⟨#[]⟩, .string ⟨#[]⟩], errW er])) :=
  ⟨(⟨#[]⟩, ⟨#[]⟩, ⟨#[]⟩), er, rfl, h, by decide, by decide, by decide⟩
/-- A route's three cells. -/
def RtB (w : World) (x : Nat) (a b c : ByteArray) : Prop := w.heap[x]? = some (.cells #[.string a, .string b, .string c] 33 (0, 0))
section
variable {w w' : World} {x : Nat} {a b c : ByteArray}
theorem RtB.lt (k : RtB w x a b c) : x < w.heap.size := (Array.getElem?_eq_some_iff.1 k).1
theorem RtB.cells (k : RtB w x a b c) : w.cell? ⟨x, 0, none⟩ = some (.string a) ∧ w.cell? ⟨x, 1, none⟩ = some (.string b) ∧ w.cell? ⟨x, 2, none⟩ = some (.string c) := by
  unfold RtB at k
  simp only [World.cell?, k]
  exact ⟨rfl, rfl, rfl⟩
theorem RtB.on (k : RtB w x a b c) (hb : Below w.heap.size w w') : RtB w' x a b c := (hb.block x k.lt).trans k
end
theorem run_rtstore {w : World} {x : Nat} {a b c a' b' c' : ByteArray} (k : RtB w x a b c) :
    (Instr.storeAt 33 (.pointer (some ⟨x, 0, none⟩)) (.agg #[.string a', .string b', .string c'])).run Tryd.prog w = .ok () (w.setRow x #[.string a', .string b', .string c']) := by
  have hk : w.heap[x]? = some (.cells #[.string a, .string b, .string c] 33 (0, 0)) := k
  have hst := run_storeCells_from (P := Tryd.prog) x 33 [.string a', .string b', .string c'] 0 _ w hk rfl (by intro v hv; simp at hv; rcases hv with rfl | rfl | rfl <;> rfl)
  have hsz : (sizeOf 33).run Tryd.prog w = .ok 3 w := by kernel_rfl
  have hcs : (Value.agg #[.string a', .string b', .string c']).cells = #[.string a', .string b', .string c'] := rfl
  simp only [Instr.storeAt, Instr.sureAddr, Sem.run_bind, Sem.run_pure, Result.andThen, storeVar, hsz, hcs]
  simpa using hst
theorem rt_row {w : World} {x : Nat} {a b c a' b' c' : ByteArray} (k : RtB w x a b c) : RtB (w.setRow x #[.string a', .string b', .string c']) x a' b' c' := setRow_heap w x _ _ _ _ k
theorem row_grown (w : World) (x : Nat) (cs : Array Value) : w.grownBy (w.setRow x cs) (some x) := ⟨rfl, rfl, rfl, by simp [World.setRow], fun k _ hk => setRow_other w x k _ (fun e => hk (by rw [e]))⟩
theorem wbelow_grown {B : Nat} {w0 w w' : World} {r : Option Nat} (h : Below B w0 w) (hg : w.grownBy w' r) (hB : B ≤ w.heap.size) (hr : ∀ k, r = some k → B ≤ k) : Below B w0 w' :=
  ⟨hg.os.trans h.os, hg.tape.trans h.tape, hg.output.trans h.output, Nat.le_trans h.size hg.size, fun k hk => (hg.block k (by omega) (fun e => by have := hr k e.symm; omega)).trans (h.block k hk)⟩
section
variable (w : World) {ops : Array Oper} {rest : List Oper} {o : Oper} {a : Act} {Q : Exit → Act → World → Prop}
theorem wpList_rtstore (hgd : o.guard = none) (s x : Operand) (ho : o.op = .store 33 s x) (n : Nat) (p q r p' q' r' : ByteArray) (hs : a.eval s = .pointer (some ⟨n, 0, none⟩)) (hx : a.eval x = .agg #[.string p', .string q', .string r']) (hB : RtB w n p q r)
    (h0 : ∀ w', RtB w' n p' q' r' → w.grownBy w' (some n) → wpList Tryd.prog ops Q rest (a.put o.dst undef) w') : wpList Tryd.prog ops Q (o :: rest) a w := by
  refine wpList_plain hgd fun K hK => ?_
  have hr := run_rtstore (a' := p') (b' := q') (c' := r') hB
  unfold Oper.wp execOp
  simp only [ho, Sem.run_bind, Sem.run_pure, Result.andThen_ok, hs, hx, hr]
  exact hK _ _ (h0 _ (rt_row hB) (row_grown w n _))
end
set_option maxHeartbeats 4000000 in
theorem wpl_any (a : Option Addr) (len cap : Nat) (A : List Rb) (s : ByteArray) (w : World) (hA : RtArg w a len cap A) (hl : len ≤ 4294967296) (hs : SzL A) (hz : s.size ≤ 140737488351232) :
    Calls Tryd.prog 30 #[.slice a len cap, .string s] w fun e w' => PlE A s e ∧ Below w.heap.size w w' := by
  obtain ⟨W0, hW0⟩ : ∃ W0, W0 = w.alloc (.cells #[.string ⟨#[]⟩, .string ⟨#[]⟩, .string ⟨#[]⟩] 33) := ⟨_, rfl⟩
  have HB0 : Vl (Below w.heap.size w W0) := by rw [hW0]; exact (Below.refl _ w).alloc (Nat.le_refl _) _
  have HZ0 : Vl (W0.heap[w.heap.size]? = some (.cells #[.string ⟨#[]⟩, .string ⟨#[]⟩, .string ⟨#[]⟩] 33 (0, 0))) := by rw [hW0]; exact heap_alloc_new w _
  have HC := vl (scuts_any s W0 hz)
  have htz : (trimNl s).size ≤ 140737488351232 := by
    unfold trimNl
    split
    · rw [ByteArray.size_extract]; omega
    · exact hz
  have HS := vl (splitn_any (trimNl s) W0 htz)
  have HUT := vl (un_trimNl s)
  have HLP : Vl (lineP (rtsOf A) (unums s) = if endNl (unums s) = true then wordsP (rtsOf A) (cutN 32 3 (unums (trimNl s))) else (2, rt0)) := by
    show _ = _
    rw [wordsP_cutN, HUT.out]
    rfl
  have HLN := vl hA.len
  generalize trimNl s = t at *
  obtain ⟨en, hen⟩ : ∃ en, endNl (unums s) = en := ⟨_, rfl⟩
  rw [hen] at HC HLP
  clear hen
  go_enter Tryd.func30, Tryd.ntmps30
  go_wp2_with fail
  rw [← hW0]
  refine HC.out.mono ?_
  rintro e w' ⟨rfl, rfl⟩
  clear hW0 HC
  go_wp2_with fail
  refine HS.out.mono ?_
  rintro e w1 ⟨l, N, hcut, hlN, hN4, rfl, hw1⟩
  have HCUT := vl hcut
  have HB1 : Vl (Below w.heap.size w w1) := by rw [hw1]; exact HB0.out.alloc HB0.out.size _
  have HZ1 : Vl (RtB w1 w.heap.size ⟨#[]⟩ ⟨#[]⟩ ⟨#[]⟩) := by
    show _ = _
    rw [hw1]
    exact (((Below.refl _ W0).alloc (Nat.le_refl _) _).block w.heap.size (Array.getElem?_eq_some_iff.1 HZ0.out).1).trans HZ0.out
  have HCW : Vl (w1.heap[W0.heap.size]? = some (.cells (Lib.cellsOf l N) 9 (0, 0))) := by rw [hw1]; exact heap_alloc_new W0 _
  clear hcut hw1 HS
  cases en with
  | false =>
    have HQ := vl (ple_no (A := A) (s := s) HLP.out)
    rw [errW_pos (show (2 : Int) ≠ 0 by decide)] at HQ
    go_wp2_with (refine wpList_rtstore _ rfl _ _ rfl w.heap.size _ _ _ ⟨#[]⟩ ⟨#[]⟩ ⟨#[]⟩ rfl rfl HZ1.out ?_)
    intro w8 hR hg8
    have HB8 : Vl (Below w.heap.size w w8) := vl (wbelow_grown HB1.out hg8 HB1.out.size (fun k hk => by cases hk; exact Nat.le_refl _))
    obtain ⟨z0, z1, z2⟩ := hR.cells
    clear hR hg8
    go_wp2_with fail
    refine bodyPost_ret (v := .tuple #[.agg #[.string ⟨#[]⟩, .string ⟨#[]⟩, .string ⟨#[]⟩], .iface 48 (.int .i64 2)]) (by simp [results, Tryd.results30, go_sem, z0, z1, z2]; try rfl) rfl ?_
    exact ⟨HQ.out, HB8.out⟩
  | true =>
    have HLP2 : Vl (lineP (rtsOf A) (unums s) = wordsP (rtsOf A) (unsOf l)) := by
      show _ = _
      rw [HCUT.out]
      exact HLP.out
    have HCUT0 := HCUT
    clear HLP HCUT
    by_cases h3 : l.length = 3
    · obtain ⟨x, y, z, rfl⟩ : ∃ x y z, l = [x, y, z] := by
        match l, h3 with
        | [x, y, z], _ => exact ⟨x, y, z, rfl⟩
      have h3' : (([x, y, z] : List ByteArray).length : Int) = 3 := rfl
      have HSZ0 : Vl (x.size ≤ 140737488351232 ∧ y.size ≤ 140737488351232 ∧ z.size ≤ 140737488351232) := by
        have hc : cutN 32 3 (unums t) = [unums x, unums y, unums z] := HCUT0.out.symm
        have hj := join_cut1 ((cutN_len 32 3 (unums t) (by rw [hc]; simp)).symm.trans hc)
        have hlen := congrArg List.length hj
        rw [unums_len] at hlen
        simp only [List.length_append, List.length_cons, unums_len] at hlen
        exact ⟨by omega, by omega, by omega⟩
      have HLP3 : Vl (lineP (rtsOf A) (unums s) = if 20 ≤ len then (4, rt0) else if unums x = [] then (2, rt0) else if oneE (rtsOf A) (if unums x = [42] then [] else unums x, unums y, unums z) = 0 then (0, (if unums x = [42] then [] else unums x, unums y, unums z)) else (oneE (rtsOf A) (if unums x = [42] then [] else unums x, unums y, unums z), rt0)) := by
        have := HLP2.out
        rw [show unsOf [x, y, z] = [unums x, unums y, unums z] from rfl, wordsP_three, rts_len, HLN.out] at this
        exact this
      have k0 : w1.cell? ⟨W0.heap.size, 0, none⟩ = some (.string x) := by simp only [World.cell?, HCW.out]; simp [Lib.cellsOf]
      have k1 : w1.cell? ⟨W0.heap.size, 1, none⟩ = some (.string y) := by simp only [World.cell?, HCW.out]; simp [Lib.cellsOf]
      have k2 : w1.cell? ⟨W0.heap.size, 2, none⟩ = some (.string z) := by simp only [World.cell?, HCW.out]; simp [Lib.cellsOf]
      clear HLP2 h3
      by_cases h20 : 20 ≤ len
      · have h20' : (20 : Int) ≤ (len : Int) := by omega
        rw [if_pos h20] at HLP3
        have HQ := vl (ple_no (A := A) (s := s) HLP3.out)
        rw [errW_pos (show (4 : Int) ≠ 0 by decide)] at HQ
        go_wp2_with (refine wpList_rtstore _ rfl _ _ rfl w.heap.size _ _ _ ⟨#[]⟩ ⟨#[]⟩ ⟨#[]⟩ rfl rfl HZ1.out ?_)
        intro w8 hR hg8
        have HB8 : Vl (Below w.heap.size w w8) := vl (wbelow_grown HB1.out hg8 HB1.out.size (fun k hk => by cases hk; exact Nat.le_refl _))
        obtain ⟨z0, z1, z2⟩ := hR.cells
        clear hR hg8
        go_wp2_with fail
        refine bodyPost_ret (v := .tuple #[.agg #[.string ⟨#[]⟩, .string ⟨#[]⟩, .string ⟨#[]⟩], .iface 48 (.int .i64 4)]) (by simp [results, Tryd.results30, go_sem, z0, z1, z2]; try rfl) rfl ?_
        exact ⟨HQ.out, HB8.out⟩
      · have h20' : (len : Int) < 20 := by omega
        have h20d : decide ((20 : Int) ≤ (len : Int)) = false := decide_eq_false (by omega)
        rw [if_neg h20] at HLP3
        rw [show ([x, y, z] : List ByteArray).length = 3 from rfl]
        have hN3 : 3 ≤ N := hlN
        go_upto_region 7 with fail
        go_cut [8] (fun p wz => p = .pointer (some ⟨w1.heap.size, 0, none⟩) ∧ Vl (RtB wz w1.heap.size x y z) ∧ Vl (Below w1.heap.size w1 wz))
        case first =>
          as_aux_lemma =>
            go_region_held3 (fun w' => w'.cell? ⟨W0.heap.size, 0, none⟩ = some (.string x) ∧ w'.cell? ⟨W0.heap.size, 1, none⟩ = some (.string y) ∧ w'.cell? ⟨W0.heap.size, 2, none⟩ = some (.string z))
              (first | go_keep)
              (fail)
            go_wp2
            go_meet
            exact ⟨rfl, heap_alloc_new w1 _, ((Below.refl _ w1).alloc (Nat.le_refl _) _).drew⟩
        case rest =>
          obtain ⟨rfl, HR4, HBX⟩ := hcut
          obtain ⟨w4, hw4⟩ : ∃ q, q = wc := ⟨_, rfl⟩
          subst hw4
          have HB4 := vl (HB1.out.trans (HBX.out.mono HB1.out.size))
          have HZ4 := vl (HZ1.out.on HBX.out)
          obtain ⟨r0, r1, r2⟩ := HR4.out.cells
          have HSZ : Vl (x.size ≤ 140737488351232 ∧ y.size ≤ 140737488351232 ∧ z.size ≤ 140737488351232) := HSZ0
          clear k0 k1 k2
          by_cases qe : x.toList = []
          · have hx0 : unums x = [] := un_lit.1 qe
            rw [if_pos hx0] at HLP3
            have HQ := vl (ple_no (A := A) (s := s) HLP3.out)
            rw [errW_pos (show (2 : Int) ≠ 0 by decide)] at HQ
            clear hx0
            go_wp2_with (refine wpList_rtstore _ rfl _ _ rfl w.heap.size _ _ _ ⟨#[]⟩ ⟨#[]⟩ ⟨#[]⟩ rfl rfl HZ4.out ?_)
            intro w8 hR hg8
            have HB8 : Vl (Below w.heap.size w w8) := vl (wbelow_grown HB4.out hg8 HB4.out.size (fun k hk => by cases hk; exact Nat.le_refl _))
            obtain ⟨z0, z1, z2⟩ := hR.cells
            clear hR hg8
            go_wp2_with fail
            refine bodyPost_ret (v := .tuple #[.agg #[.string ⟨#[]⟩, .string ⟨#[]⟩, .string ⟨#[]⟩], .iface 48 (.int .i64 2)]) (by simp [results, Tryd.results30, go_sem, z0, z1, z2]; try rfl) rfl ?_
            exact ⟨HQ.out, HB8.out⟩
          · have hx0 : ¬ unums x = [] := fun e => qe (un_lit.2 e)
            have qe' : (x.toList == []) = false := by simpa using qe
            rw [if_neg hx0] at HLP3
            clear hx0
            by_cases qs : x.toList = [42]
            · have hs42 : unums x = [42] := un_lit.1 qs
              have qs' : (x.toList == [42]) = true := by simpa using qs
              rw [if_pos hs42] at HLP3
              clear hs42
              have HCB := vl (fun W (hb : Below w.heap.size w W) => wcb_any a len cap A (⟨#[]⟩, y, z) W (hA.below hb) hl hs ⟨show (0 : Nat) ≤ 140737488351232 from Nat.zero_le _, HSZ.out.2⟩)
              rw [show rtO ((⟨#[]⟩ : ByteArray), y, z) = ([], unums y, unums z) from rfl] at HCB
              obtain ⟨E, hE⟩ : ∃ E, oneE (rtsOf A) ([], unums y, unums z) = E := ⟨_, rfl⟩
              rw [hE] at HCB HLP3
              have HOKQ : Vl (E = 0 → PlE A s (.returned (.tuple #[.agg #[.string ⟨#[]⟩, .string y, .string z], errW 0]))) := fun h => ⟨(⟨#[]⟩, y, z), 0, rfl, by rw [HLP3.out, if_pos h]; rfl, show (0 : Nat) ≤ 140737488351232 from Nat.zero_le _, HSZ.out.2⟩
              have HNOQ : Vl (E ≠ 0 → PlE A s (.returned (.tuple #[.agg #[.string ⟨#[]⟩, .string ⟨#[]⟩, .string ⟨#[]⟩], errW E]))) := fun h => ple_no (by rw [HLP3.out, if_neg h])
              clear hE hA hs
              have f0 : w4.frozen? ⟨w1.heap.size, 0, none⟩ = false := by
                have k := HR4.out
                unfold RtB at k
                unfold World.frozen?
                rw [k]
                simp
              obtain ⟨W5, hW5⟩ : ∃ W5, W5 = w4.setCell ⟨w1.heap.size, 0, none⟩ (.string ⟨#[]⟩) := ⟨_, rfl⟩
              have HRR : Vl (RtB W5 w1.heap.size ⟨#[]⟩ y z) := by
                show _ = _
                have k := HR4.out
                unfold RtB at k
                rw [hW5]
                simp [World.setCell, Array.getElem?_modify, k]
              have HBX5 : Vl (Below w1.heap.size w1 W5) := by rw [hW5]; exact HBX.out.setCell (p := ⟨w1.heap.size, 0, none⟩) (Nat.le_refl _) _
              have HB5' := vl (HB1.out.trans (HBX5.out.mono HB1.out.size))
              have HZ5' := vl (HZ1.out.on HBX5.out)
              have HC5 := vl (HCB.out W5 HB5'.out)
              obtain ⟨q0, q1, q2⟩ := HRR.out.cells
              go_upto_region 13 with fail
              rw [← hW5]
              clear hW5 r0 r1 r2
              go_wp2_with fail
              refine HC5.out.mono ?_
              rintro e w5 ⟨rfl, hb5⟩
              have HB5 := vl (HB5'.out.trans (hb5.mono HB5'.out.size))
              have HZ5 := vl (HZ5'.out.on hb5)
              have HR5 := vl (HRR.out.on hb5)
              clear hb5
              by_cases e0 : E = 0
              · subst e0
                have HQ := vl (HOKQ.out rfl)
                rw [errW_zero] at HQ ⊢
                obtain ⟨y0, y1, y2⟩ := HR5.out.cells
                go_wp2_with (refine wpList_rtstore _ rfl _ _ rfl w.heap.size _ _ _ ⟨#[]⟩ y z rfl rfl HZ5.out ?_)
                intro w8 hR hg8
                have HB8 : Vl (Below w.heap.size w w8) := vl (wbelow_grown HB5.out hg8 HB5.out.size (fun k hk => by cases hk; exact Nat.le_refl _))
                obtain ⟨z0, z1, z2⟩ := hR.cells
                clear hR hg8
                go_wp2_with fail
                refine bodyPost_ret (v := .tuple #[.agg #[.string ⟨#[]⟩, .string y, .string z], .nilIface]) (by simp [results, Tryd.results30, go_sem, z0, z1, z2]; try rfl) rfl ?_
                exact ⟨HQ.out, HB8.out⟩
              · have HQ := vl (HNOQ.out e0)
                rw [errW_pos e0] at HQ ⊢
                go_wp2_with (refine wpList_rtstore _ rfl _ _ rfl w.heap.size _ _ _ ⟨#[]⟩ ⟨#[]⟩ ⟨#[]⟩ rfl rfl HZ5.out ?_)
                intro w8 hR hg8
                have HB8 : Vl (Below w.heap.size w w8) := vl (wbelow_grown HB5.out hg8 HB5.out.size (fun k hk => by cases hk; exact Nat.le_refl _))
                obtain ⟨z0, z1, z2⟩ := hR.cells
                clear hR hg8
                go_wp2_with fail
                refine bodyPost_ret (v := .tuple #[.agg #[.string ⟨#[]⟩, .string ⟨#[]⟩, .string ⟨#[]⟩], .iface 48 (.int .i64 E)]) (by simp [results, Tryd.results30, go_sem, z0, z1, z2]; try rfl) rfl ?_
                exact ⟨HQ.out, HB8.out⟩
            · have hs42 : ¬ unums x = [42] := fun e => qs (un_lit.2 e)
              have qs' : (x.toList == [42]) = false := by simpa using qs
              rw [if_neg hs42] at HLP3
              clear hs42
              have HCB := vl (wcb_any a len cap A (x, y, z) w4 (hA.below HB4.out) hl hs ⟨HSZ.out.1, HSZ.out.2⟩)
              rw [show rtO (x, y, z) = (unums x, unums y, unums z) from rfl] at HCB
              obtain ⟨E, hE⟩ : ∃ E, oneE (rtsOf A) (unums x, unums y, unums z) = E := ⟨_, rfl⟩
              rw [hE] at HCB HLP3
              have HOKQ : Vl (E = 0 → PlE A s (.returned (.tuple #[.agg #[.string x, .string y, .string z], errW 0]))) := fun h => ⟨(x, y, z), 0, rfl, by rw [HLP3.out, if_pos h]; rfl, HSZ.out.1, HSZ.out.2⟩
              have HNOQ : Vl (E ≠ 0 → PlE A s (.returned (.tuple #[.agg #[.string ⟨#[]⟩, .string ⟨#[]⟩, .string ⟨#[]⟩], errW E]))) := fun h => ple_no (by rw [HLP3.out, if_neg h])
              have HRR := HR4
              clear hE hA hs
              go_wp2_with fail
              refine HCB.out.mono ?_
              rintro e w5 ⟨rfl, hb5⟩
              have HB5 := vl (HB4.out.trans (hb5.mono HB4.out.size))
              have HZ5 := vl (HZ4.out.on hb5)
              have HR5 := vl (HRR.out.on hb5)
              clear hb5
              by_cases e0 : E = 0
              · subst e0
                have HQ := vl (HOKQ.out rfl)
                rw [errW_zero] at HQ ⊢
                obtain ⟨y0, y1, y2⟩ := HR5.out.cells
                go_wp2_with (refine wpList_rtstore _ rfl _ _ rfl w.heap.size _ _ _ x y z rfl rfl HZ5.out ?_)
                intro w8 hR hg8
                have HB8 : Vl (Below w.heap.size w w8) := vl (wbelow_grown HB5.out hg8 HB5.out.size (fun k hk => by cases hk; exact Nat.le_refl _))
                obtain ⟨z0, z1, z2⟩ := hR.cells
                clear hR hg8
                go_wp2_with fail
                refine bodyPost_ret (v := .tuple #[.agg #[.string x, .string y, .string z], .nilIface]) (by simp [results, Tryd.results30, go_sem, z0, z1, z2]; try rfl) rfl ?_
                exact ⟨HQ.out, HB8.out⟩
              · have HQ := vl (HNOQ.out e0)
                rw [errW_pos e0] at HQ ⊢
                go_wp2_with (refine wpList_rtstore _ rfl _ _ rfl w.heap.size _ _ _ ⟨#[]⟩ ⟨#[]⟩ ⟨#[]⟩ rfl rfl HZ5.out ?_)
                intro w8 hR hg8
                have HB8 : Vl (Below w.heap.size w w8) := vl (wbelow_grown HB5.out hg8 HB5.out.size (fun k hk => by cases hk; exact Nat.le_refl _))
                obtain ⟨z0, z1, z2⟩ := hR.cells
                clear hR hg8
                go_wp2_with fail
                refine bodyPost_ret (v := .tuple #[.agg #[.string ⟨#[]⟩, .string ⟨#[]⟩, .string ⟨#[]⟩], .iface 48 (.int .i64 E)]) (by simp [results, Tryd.results30, go_sem, z0, z1, z2]; try rfl) rfl ?_
                exact ⟨HQ.out, HB8.out⟩
    · have h3i : ¬ ((l.length : Nat) : Int) = 3 := by omega
      have h3n : (((l.length : Nat) : Int) != 3) = true := by simpa using h3i
      have HQ := vl (ple_no (A := A) (s := s) (HLP2.out.trans (wordsP_not (by unfold unsOf; simpa using h3))))
      rw [errW_pos (show (2 : Int) ≠ 0 by decide)] at HQ
      go_wp2_with (refine wpList_rtstore _ rfl _ _ rfl w.heap.size _ _ _ ⟨#[]⟩ ⟨#[]⟩ ⟨#[]⟩ rfl rfl HZ1.out ?_)
      intro w8 hR hg8
      have HB8 : Vl (Below w.heap.size w w8) := vl (wbelow_grown HB1.out hg8 HB1.out.size (fun k hk => by cases hk; exact Nat.le_refl _))
      obtain ⟨z0, z1, z2⟩ := hR.cells
      clear hR hg8
      go_wp2_with fail
      refine bodyPost_ret (v := .tuple #[.agg #[.string ⟨#[]⟩, .string ⟨#[]⟩, .string ⟨#[]⟩], .iface 48 (.int .i64 2)]) (by simp [results, Tryd.results30, go_sem, z0, z1, z2]; try rfl) rfl ?_
      exact ⟨HQ.out, HB8.out⟩
end Go.Proofs.YtmjdfbbhlbecdaaDoor
