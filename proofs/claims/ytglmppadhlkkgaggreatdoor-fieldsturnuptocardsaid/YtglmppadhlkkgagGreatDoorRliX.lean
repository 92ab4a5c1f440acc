/-
  FROM THE ONE TO THE OTHER: the document's FieldsList. No claim by itself.
-/
import Derived.Deep.AppendLies
import Derived.Deep.RegionLaw
import Derived.Maps.AppendAt
import Derived.Test.YtglmppadhlkkgagGreatDoorRclX
import Derived.Test.YtglmppadhlkkgagGreatDoorYli2X
namespace Go.Proofs.YtglmppadhlkkgagGreatDoor
open Go Go.RowKit
set_option maxRecDepth 100000
theorem fone_news {w : World} {B : Nat} {n u : ByteArray} (hh : w.heap[B]? = some (.cells #[.string n, .string u] 51 (0, 0))) : ∀ j y, [Value.string n, .string u][j]? = some y → w.cell? ((⟨B, 0, none⟩ : Addr).add j) = some y := by
  intro j y hj
  rw [n_add]
  simp only [World.cell?, hh, Nat.zero_add]
  match j with
  | 0 => exact hj
  | 1 => exact hj
  | j + 2 => simp at hj
theorem fone_one {n u : ByteArray} : ∀ y ∈ [Value.string n, .string u], y.oneCell' = true := by
  intro y hy
  simp at hy
  rcases hy with rfl | rfl <;> rfl
/-- Append of one field, and where the row lies then. -/
theorem wpList_fappA {ops : Array Oper} {rest : List Oper} {o : Oper} {a : Act} {Q : Exit → Act → World → Prop} (w : World) (hgd : o.guard = none) (s x : Operand)
    (ho : o.op = .call { callee := .builtin .append, args := #[s, x], argTypes := #[22, 22] }) (base : Nat) (v : Value) (FL : List (ByteArray × ByteArray)) (n u : ByteArray) (hs : a.eval s = v) (hown : FOwn w base v FL)
    (B : Nat) (hx : a.eval x = .slice (some ⟨B, 0, none⟩) 1 1) (hB : w.heap[B]? = some (.cells #[.string n, .string u] 51 (0, 0))) (hlen : FL.length < 4398046511104) (hbase : base ≤ w.heap.size)
    (h : ∀ v' w', FOwn w' base v' (FL ++ [(n, u)]) → w.grownBy w' v.ownBlock → (v'.ownBlock = v.ownBlock ∨ v'.ownBlock = some w.heap.size) → wpList Tryz.prog ops Q rest (a.put o.dst v') w') : wpList Tryz.prog ops Q (o :: rest) a w := by
  obtain ⟨i0, hi, hz0, hz1, hz2⟩ := info_parts n_infoF
  refine wpList_append_own_at _ hgd s x 22 ho base 51 i0 (.agg #[.string ⟨#[]⟩, .string ⟨#[]⟩]) 2 32 Tryz.underlying22 hi hz0 hz1 hz2 rfl (by decide) v FL.length _ hs hown ⟨B, 0, none⟩ 1 1 [.string n, .string u] hx rfl (fone_news hB) fone_one (by unfold maxLen; omega) (by omega) hbase ?_
  intro v' w' h1 h2 _ h4
  refine h v' w' ?_ h2 h4
  have hfc : fcells FL ++ [Value.string n, .string u] = fcells (FL ++ [(n, u)]) := by rw [fcells_append]; rfl
  rw [hfc] at h1
  show World.ownsRow _ _ _ _ _ _ _
  rw [show (FL ++ [(n, u)]).length = FL.length + 1 by simp]
  exact h1
theorem step_fappA {ops : Array Oper} {o : Oper} {a : Act} {K : Act → World → Prop} {Q : Exit → Act → World → Prop} {E : Prop} (w : World) (hgd : o.guard = none) (s x : Operand)
    (ho : o.op = .call { callee := .builtin .append, args := #[s, x], argTypes := #[22, 22] }) (base : Nat) (v : Value) (FL : List (ByteArray × ByteArray)) (n u : ByteArray) (hs : a.eval s = v) (hown : FOwn w base v FL)
    (B : Nat) (hx : a.eval x = .slice (some ⟨B, 0, none⟩) 1 1) (hB : w.heap[B]? = some (.cells #[.string n, .string u] 51 (0, 0))) (hlen : FL.length < 4398046511104) (hbase : base ≤ w.heap.size)
    (h : ∀ v' w', FOwn w' base v' (FL ++ [(n, u)]) → w.grownBy w' v.ownBlock → K (a.put o.dst v') w') : if Region.wanted o (yielded ops a.tmps) = true then Oper.wp Tryz.prog o a w K Q else E := by
  obtain ⟨i0, hi, hz0, hz1, hz2⟩ := info_parts n_infoF
  refine step_append_lies _ hgd s x 22 ho base 51 i0 (.agg #[.string ⟨#[]⟩, .string ⟨#[]⟩]) 2 32 Tryz.underlying22 hi hz0 hz1 hz2 rfl (by decide) v FL.length _ hs hown ⟨B, 0, none⟩ 1 1 [.string n, .string u] hx rfl (fone_news hB) fone_one (by decide) (by unfold maxLen; omega) (by omega) hbase _ rfl ?_
  intro g cap w' h1 h2 _ _
  refine h _ w' ?_ h2
  have hfc : fcells FL ++ [Value.string n, .string u] = fcells (FL ++ [(n, u)]) := by rw [fcells_append]; rfl
  rw [hfc] at h1
  show World.ownsRow _ _ _ _ _ _ _
  rw [show (FL ++ [(n, u)]).length = FL.length + 1 by simp]
  exact h1
/-- What FieldsList answers. -/
def RListE (q : RqM) (w : World) (e : Ending) (w' : World) : Prop := ∃ v FL, e = .returned (.tuple #[v, .int .i64 (listW q.rq).1]) ∧ FOwn w' w.heap.size v FL ∧ fdsOf FL = (listW q.rq).2 ∧ Below w.heap.size w w'
theorem cutAt_end {a b : Int} {s : List Int} {done : List (List Int)} {p k : Nat} (h : CutAt a b s done p k) (hk : s.length ≤ k + 1) : cut2 a b s = done ++ [s.drop p] :=
  CutAt.last ⟨h.all, h.le, by omega, fun j h1 _ h3 => h.no j h1 (by omega) h3⟩
theorem list_snoc (L : List (ByteArray × ByteArray)) (m : Nat) (h : m < L.length) : (fdsOf (L.take (m + 1))).flatMap pcsL = (fdsOf (L.take m)).flatMap pcsL ++ pcsL (unums (L.getD m fnone).1, unums (L.getD m fnone).2) := by
  have e : L.take (m + 1) = L.take m ++ [L.getD m fnone] := by
    rw [List.take_add_one]
    simp [List.getD, List.getElem?_eq_getElem h]
  rw [e]
  generalize L.getD m fnone = p
  unfold fdsOf
  rw [List.map_append, List.flatMap_append]
  simp
theorem rL_cookie {n : ByteArray} : n.toList = [99, 111, 111, 107, 105, 101] ↔ unums n = cookieN := toL_lit
/-- The list as it grows, beside a copy of the field. -/
structure LGrow (WR wq : World) (F : Nat) (n v : ByteArray) (lv : Value) (OL : List (ByteArray × ByteArray)) : Prop where
  own : FOwn wq WR.heap.size lv OL
  old : Below WR.heap.size WR wq
  f0 : wq.cell? ⟨F, 0, none⟩ = some (.string n)
  f1 : wq.cell? ⟨F, 1, none⟩ = some (.string v)
  ne : ∀ k, lv.ownBlock = some k → k ≠ F
  lt : F < wq.heap.size
theorem LGrow.app {WR wq w' : World} {F : Nat} {n v : ByteArray} {lv lv' : Value} {OL : List (ByteArray × ByteArray)} {x u : ByteArray} (h : LGrow WR wq F n v lv OL) 
    (ho : FOwn w' WR.heap.size lv' (OL ++ [(x, u)])) (hg : (wq.alloc (.cells #[.string x, .string u] 51)).grownBy w' lv.ownBlock) (hat : lv'.ownBlock = lv.ownBlock ∨ lv'.ownBlock = some (wq.alloc (.cells #[.string x, .string u] 51)).heap.size) : LGrow WR w' F n v lv' (OL ++ [(x, u)]) := by
  have hb : (wq.alloc (.cells #[.string x, .string u] 51)).heap[F]? = wq.heap[F]? := ((Below.refl wq.heap.size wq).alloc (Nat.le_refl _) _).block F h.lt
  have hb2 : w'.heap[F]? = wq.heap[F]? := (hg.block F (by rw [World.size_alloc]; exact Nat.lt_succ_of_lt h.lt) (fun e => h.ne F e.symm rfl)).trans hb
  refine ⟨ho, u_below_grown (h.old.alloc h.old.size _) hg (by rw [World.size_alloc]; exact Nat.le_succ_of_le h.old.size) (fun k hk => (h.own.lt k hk).1), (World.cell?_of_block (a := ⟨F, 0, none⟩) hb2).trans h.f0, (World.cell?_of_block (a := ⟨F, 1, none⟩) hb2).trans h.f1, ?_, ?_⟩
  · intro k hk
    rcases hat with e | e
    · rw [e] at hk; exact h.ne k hk
    · rw [e, World.size_alloc] at hk
      have := h.lt
      injection hk with hk
      omega
  · have := hg.size
    rw [World.size_alloc] at this
    have := h.lt
    omega
set_option maxHeartbeats 40000000 in
theorem rlist_any (q : RqM) (w : World) (h : RqIn w q) : Calls Tryz.prog 8 #[q.val] w (RListE q w) := by
  have HI := vl h
  have HAR : Vl (q.rq.fields = fdsOf q.FL) := rfl
  obtain ⟨W0, hW0⟩ : ∃ W0, W0 = w.alloc (.cells #[.string q.m, .string q.p, .string q.h, .slice q.fa q.fn q.fc, .slice q.ba q.bn q.bc] 25) := ⟨_, rfl⟩
  have HB0 : Vl (Below w.heap.size w W0) := vl (by rw [hW0]; exact (Below.refl _ w).alloc (Nat.le_refl _) _)
  have HS0 : Vl (W0.heap.size = w.heap.size + 1) := vl (by rw [hW0]; simp)
  have HK := vl (rask_any q W0 (HI.out.below HB0.out))
  have hcells : Vl (∀ W, Below W0.heap.size W0 W → W.cell? ⟨w.heap.size, 0, none⟩ = some (.string q.m) ∧ W.cell? ⟨w.heap.size, 1, none⟩ = some (.string q.p) ∧ W.cell? ⟨w.heap.size, 2, none⟩ = some (.string q.h) ∧ W.cell? ⟨w.heap.size, 3, none⟩ = some (.slice q.fa q.fn q.fc) ∧ W.cell? ⟨w.heap.size, 4, none⟩ = some (.slice q.ba q.bn q.bc)) := fun W hb => by
    rw [HS0.out] at hb
    have hk0 : W0.heap[w.heap.size]? = some (.cells #[.string q.m, .string q.p, .string q.h, .slice q.fa q.fn q.fc, .slice q.ba q.bn q.bc] 25 (0, 0)) := by rw [hW0]; exact heap_alloc_new w _
    have hk := (hb.block w.heap.size (by omega)).trans hk0
    exact ⟨by simp only [World.cell?, hk]; rfl, by simp only [World.cell?, hk]; rfl, by simp only [World.cell?, hk]; rfl, by simp only [World.cell?, hk]; rfl, by simp only [World.cell?, hk]; rfl⟩
  have HLW : Vl (listW q.rq = if askE q.rq = 0 then (0, listL q.rq) else (askE q.rq, [])) := rfl
  have HFA : Vl (∀ wx, Below w.heap.size w wx → FArg wx q.fa q.fn q.fc q.FL) := fun wx hb => HI.out.fields.below hb
  have HFL : Vl (q.FL.length = q.fn) := HI.out.fields.len
  unfold RqM.val at HK ⊢
  clear h HI
  generalize q.fa = fa at *
  by_cases he : askE q.rq = 0
  case neg =>
    have HF : Vl (∀ w', Below w.heap.size w w' → RListE q w (.returned (.tuple #[.slice none 0 0, .int .i64 (askE q.rq)])) w') := fun w' hb => by
      unfold RListE
      rw [HLW.out, if_neg he]
      exact ⟨_, [], rfl, fown_nil _ _, rfl, hb⟩
    obtain ⟨x, hx⟩ : ∃ x, askE q.rq = x := ⟨_, rfl⟩
    rw [hx] at HK HF he
    clear hx HLW HAR hcells
    subst hW0
    go_enter Tryz.func8, Tryz.ntmps8
    go_wp2_with fail
    refine HK.out.mono ?_
    rintro e w1 ⟨rfl, hb1⟩
    have HB1 := vl (HB0.out.trans (hb1.mono HB0.out.size))
    clear hb1
    go_wp2
    go_ret2
    exact HF.out _ HB1.out
  rw [he] at HK
  obtain ⟨hf40, _⟩ := ask_ok he
  have HFS := vl (flds_small (ask_flds he))
  have hfn : q.fn ≤ 40 := by
    have := HFL.out
    rw [HAR.out, fds_len] at hf40
    omega
  have HFin : Vl (∀ w' v FL, FOwn w' w.heap.size v FL → fdsOf FL = listL q.rq → Below w.heap.size w w' → RListE q w (.returned (.tuple #[v, .int .i64 0])) w') := fun w' v FL h1 h2 h3 => by
    unfold RListE
    rw [HLW.out, if_pos he]
    exact ⟨_, FL, rfl, h1, h2, h3⟩
  have HLL : Vl (listL q.rq = [(methodP, unums q.m), (pathP, unums q.p), (hostP, unums q.h)] ++ (fdsOf q.FL).flatMap pcsL) := rfl
  clear hf40 HLW he
  have c0a := (hcells.out W0 (Below.refl _ _))
  rw [hW0] at c0a
  obtain ⟨a0, a1, a2, a3, a4⟩ := c0a
  go_enter Tryz.func8, Tryz.ntmps8
  go_wp2_with fail
  rw [← hW0]
  clear a0 a1 a2 a3 a4
  refine HK.out.mono ?_
  rintro e w1 ⟨rfl, hb1⟩
  obtain ⟨c0, c1, c2, c3, c4⟩ := hcells.out w1 hb1
  have HB1 := vl hb1
  have hs1 : w.heap.size < w1.heap.size := by have := hb1.size; rw [HS0.out] at this; omega
  clear hb1 HK hW0
  obtain ⟨WR, hWR⟩ : ∃ WR, WR = ((w1.alloc (.cells #[.string ⟨#[58, 109, 101, 116, 104, 111, 100]⟩, .string q.m] 51)).alloc (.cells #[.string ⟨#[58, 112, 97, 116, 104]⟩, .string q.p] 51)).alloc (.cells #[.string ⟨#[58, 104, 111, 115, 116]⟩, .string q.h] 51) := ⟨_, rfl⟩
  have HBR : Vl (Below W0.heap.size W0 WR) := vl (by
    rw [hWR]
    have h1 := HB1.out.size
    exact ((HB1.out.alloc h1 _).alloc (by simp; omega) _).alloc (by simp; omega) _)
  have HSR : Vl (WR.heap.size = w1.heap.size + 3) := vl (by rw [hWR]; simp)
  obtain ⟨WZ, hWZ⟩ : ∃ WZ, WZ = WR.alloc (.cells #[.string ⟨#[58, 109, 101, 116, 104, 111, 100]⟩, .string q.m, .string ⟨#[58, 112, 97, 116, 104]⟩, .string q.p, .string ⟨#[58, 104, 111, 115, 116]⟩, .string q.h] 51) := ⟨_, rfl⟩
  have HO0 : Vl (FOwn WZ WR.heap.size (.slice (some ⟨WR.heap.size, 0, none⟩) 3 3) [(⟨#[58, 109, 101, 116, 104, 111, 100]⟩, q.m), (⟨#[58, 112, 97, 116, 104]⟩, q.p), (⟨#[58, 104, 111, 115, 116]⟩, q.h)]) := vl (by rw [hWZ]; exact three_own WR _ _ _ _ _ _)
  have HBZ : Vl (Below WR.heap.size WR WZ) := vl (by rw [hWZ]; exact (Below.refl _ _).alloc (Nat.le_refl _) _)
  have HWl : Vl (∀ wx, Below WR.heap.size WR wx → Below W0.heap.size W0 wx) := fun wx hb => HBR.out.trans (hb.mono HBR.out.size)
  have HWw : Vl (∀ wx, Below WR.heap.size WR wx → Below w.heap.size w wx) := fun wx hb => HB0.out.trans ((HWl.out wx hb).mono HB0.out.size)
  have HLn := HFL
  go_wp2_with fail
  clear c0 c1 c2 c3 c4 hs1
  rw [← hWR, ← hWZ]
  rw [show w1.heap.size + 3 = WR.heap.size from HSR.out.symm]
  clear hWR hWZ
  go_loopw [8, 9, 10, 11, 12] (fun lv i _ _ _ wr => ∃ (j : Nat) (OL : List (ByteArray × ByteArray)), i = .int .i64 j ∧ j ≤ q.fn ∧ OL.length ≤ 3 + 401 * j ∧ Vl (FOwn wr WR.heap.size lv OL) ∧ Vl (fdsOf OL = [(methodP, unums q.m), (pathP, unums q.p), (hostP, unums q.h)] ++ (fdsOf (q.FL.take j)).flatMap pcsL) ∧ Vl (Below WR.heap.size WR wr)) (fun _ i _ _ _ _ => q.fn - (intOf i).toNat)
  case atStart => exact ⟨0, _, rfl, Nat.zero_le _, by simp, HO0, vl rfl, HBZ⟩
  case round =>
    obtain ⟨j, OL, rfl, hj, hOL, HO, HE, HB⟩ := hrel
    clear HO0 HBZ
    obtain ⟨_, _, _, c3, _⟩ := hcells.out wr (HWl.out wr HB.out)
    by_cases h1 : j < q.fn
    case neg =>
      have p1 : ¬ ((j : Int) < (q.fn : Int)) := by omega
      have hje : j = q.fn := by omega
      have HFE : Vl (fdsOf OL = listL q.rq) := vl (by
        have := HE.out
        rw [hje, ← HLn.out, List.take_length] at this
        rw [this, HLL.out])
      have HZ := vl (HFin.out wr _ OL (rfown_low HO.out (HWw.out WR (Below.refl _ _)).size) HFE.out (HWw.out wr HB.out))
      clear hje
      go_wp2
      go_ret2
      exact HZ.out
    have p1 : (j : Int) < (q.fn : Int) := by omega
    obtain ⟨g, off, rfl, hrow⟩ : ∃ g off, fa = some ⟨g, off, none⟩ ∧ FRow wr g off q.fn q.fc q.FL := by
      rcases (HFA.out wr (HWw.out wr HB.out)) with ⟨h0, _⟩ | ⟨g, off, ha, hr⟩
      · omega
      · exact ⟨g, off, ha, hr⟩
    have cn := hrow.hname j h1
    have cv := hrow.hvalue j h1
    have hcap := hrow.hcap
    have hmax := hrow.hmax
    have hss := HFS.out j
    have HSN := vl (list_snoc q.FL j (by rw [HLn.out]; exact h1))
    obtain ⟨n, hn⟩ : ∃ n, n = (q.FL.getD j fnone).1 := ⟨_, rfl⟩
    obtain ⟨v, hv⟩ : ∃ v, v = (q.FL.getD j fnone).2 := ⟨_, rfl⟩
    rw [← hn] at cn hss HSN
    rw [← hv] at cv hss HSN
    clear hn hv hrow
    obtain ⟨hs1, hs2⟩ := hss
    obtain ⟨wB, hwB⟩ : ∃ wB, wB = wr := ⟨_, rfl⟩
    subst hwB
    obtain ⟨WF, hWF⟩ : ∃ WF, WF = wB.alloc (.cells #[.string n, .string v] 51) := ⟨_, rfl⟩
    have HG0 : Vl (LGrow WR WF wB.heap.size n v u8 OL) := vl (by
      have hk : WF.heap[wB.heap.size]? = some (.cells #[.string n, .string v] 51 (0, 0)) := by rw [hWF]; exact heap_alloc_new wB _
      have hb := (Below.refl wB.heap.size wB).alloc (Nat.le_refl _) (.cells #[.string n, .string v] 51)
      rw [← hWF] at hb
      refine ⟨rfown_below HO.out hb, HB.out.trans (hb.mono HB.out.size), by simp only [World.cell?, hk]; rfl, by simp only [World.cell?, hk]; rfl, fun k hk2 e => ?_, by rw [hWF]; simp⟩
      have := (HO.out.lt k hk2).2
      omega)
    by_cases hc : n.toList = [99, 111, 111, 107, 105, 101]
    · have HCE := vl (rL_cookie.1 hc)
      have HA := vl (unums_at v)
      have HUL := vl (unums_len v)
      go_wp2_with fail
      rw [← hWF]
      clear hWF cn cv c3
      go_loopw [8, 11, 12] (fun lv pv kv wq => ∃ (p k : Nat) (done : List (List Int)) (O2 : List (ByteArray × ByteArray)), pv = .int .i64 p ∧ kv = .int .i64 k ∧ k ≤ v.size ∧ O2.length ≤ k ∧ p ≤ k + 1 ∧ Vl (CutAt 59 32 (unums v) done p k) ∧ Vl (LGrow WR wq wB.heap.size n v lv (OL ++ O2)) ∧ Vl (fdsOf O2 = done.map fun x => (cookieN, x))) (fun _ _ kv _ => v.size - (intOf kv).toNat)
      case atStart => exact ⟨0, 0, [], [], rfl, rfl, Nat.zero_le _, Nat.zero_le _, Nat.zero_le _, CutAt.begin _ _ _, vl (by rw [List.append_nil]; exact HG0.out), vl rfl⟩
      case round =>
        obtain ⟨p, k, done, O2, rfl, rfl, hk, hO2, hpk, HI2, HG, HE2⟩ := hrel
        clear HG0
        obtain ⟨wq, hwq⟩ : ∃ wq, wq = wr := ⟨_, rfl⟩
        subst hwq
        by_cases a1 : k + 1 < v.size
        case neg =>
          have a2 : ¬ ((k : Int) + 1 < (v.size : Int)) := by omega
          have hpl : p ≤ v.size := by have := HI2.out.le; rw [HUL.out] at this; exact this
          have f0 := HG.out.f0
          have f1 := HG.out.f1
          have HLn2 : Vl ((OL ++ O2).length < 4398046511104) := vl (by rw [List.length_append]; omega)
          have HSB : Vl (WR.heap.size ≤ wq.heap.size) := vl HG.out.old.size
          obtain ⟨X, hX⟩ : ∃ X, X = v.extract p v.size := ⟨_, rfl⟩
          have HXE : Vl (unums X = (unums v).drop p) := vl (by rw [hX, unums_ext, List.take_of_length_le (by rw [List.length_drop, unums_len]; exact Nat.le_refl _)])
          have hX2 : v.extract p v.size = X := hX.symm
          have HOW := vl HG.out.own
          have g0 := HG.out.f0
          have g1 := HG.out.f1
          have hlt := HG.out.lt
          have HWD : Vl (FOwn (wq.drew.alloc (.cells #[.string n, .string X] 51)) WR.heap.size u8 (OL ++ O2)) := vl (rfown_below HG.out.own (((Below.refl _ _).drew).alloc (Nat.le_refl _) _))
          have HWH : Vl ((wq.drew.alloc (.cells #[.string n, .string X] 51)).heap[wq.heap.size]? = some (.cells #[.string n, .string X] 51 (0, 0))) := vl (heap_alloc_new wq.drew _)
          have HWS : Vl (WR.heap.size ≤ (wq.drew.alloc (.cells #[.string n, .string X] 51)).heap.size) := vl (by rw [World.size_alloc]; exact Nat.le_succ_of_le HSB.out)
          have HOLD := vl (HG.out.old.drew.alloc (show WR.heap.size ≤ wq.drew.heap.size from HSB.out) (.cells #[.string n, .string X] 51))
          clear hX
          go_wp2_with fail
          go_region_law (refine step_fappA _ rfl (.tmp 85) (.tmp 93) rfl WR.heap.size u8 (OL ++ O2) n X (by simp [Act.eval]) HWD.out wq.heap.size (by simp [Act.eval]) HWH.out HLn2.out HWS.out ?_; intro lv3 w5 ho5 hg5)
          all_goals
            have HO5 := vl ho5
            have HB5 := vl (u_below_grown HOLD.out hg5 HWS.out (fun k hk => (HOW.out.lt k hk).1))
            clear ho5 hg5
            go_simp
            go_wp2
            go_roundw
            case rel => exact ⟨j + 1, (OL ++ O2) ++ [(n, X)], by go_num, by omega, by simp; omega, HO5, vl (by
                rw [HSN.out, fds_app, fds_app, HE.out, HE2.out]
                unfold pcsL
                rw [if_pos HCE.out, cutAt_end HI2.out (by rw [HUL.out]; omega), List.map_append]
                show _ ++ _ ++ [(unums n, unums X)] = _
                rw [HXE.out, HCE.out]
                simp [List.append_assoc]), HB5⟩
            case measure => first | (simp [intOf]; done) | (simp [intOf]; omega)
        have a2 : (k : Int) + 1 < (v.size : Int) := by omega
        have ix1 := HA.out k (by omega)
        have ix2 := HA.out (k + 1) a1
        have f0 := HG.out.f0
        have f1 := HG.out.f1
        by_cases b1 : k < p
        · have b2 : ¬ ((p : Int) ≤ (k : Int)) := by omega
          have HI4 : Vl (CutAt 59 32 (unums v) done p (k + 1)) := vl (HI2.out.next (by rw [HUL.out]; omega) (fun h => by omega))
          go_wp2
          go_roundw
          case rel => exact ⟨p, k + 1, done, O2, rfl, by go_num, by omega, by omega, by omega, HI4, HG, HE2⟩
          case measure => first | (simp [intOf]; done) | (simp [intOf]; omega)
        have b2 : (p : Int) ≤ (k : Int) := by omega
        by_cases g1 : (unums v).getD k 0 = 59
        case neg =>
          have HI4 : Vl (CutAt 59 32 (unums v) done p (k + 1)) := vl (HI2.out.next (by rw [HUL.out]; omega) (fun _ _ h => g1 h.1))
          generalize (unums v).getD k 0 = c1 at *
          have g3 : (c1 == 59) = false := by simpa using g1
          go_wp2
          go_roundw
          case rel => exact ⟨p, k + 1, done, O2, rfl, by go_num, by omega, by omega, by omega, HI4, HG, HE2⟩
          case measure => first | (simp [intOf]; done) | (simp [intOf]; omega)
        by_cases g2 : (unums v).getD (k + 1) 0 = 32
        case neg =>
          have HI4 : Vl (CutAt 59 32 (unums v) done p (k + 1)) := vl (HI2.out.next (by rw [HUL.out]; omega) (fun _ _ h => g2 h.2))
          rw [g1] at ix1
          generalize (unums v).getD (k + 1) 0 = c2 at *
          have g3 : (c2 == 32) = false := by simpa using g2
          clear g1
          go_wp2
          go_roundw
          case rel => exact ⟨p, k + 1, done, O2, rfl, by go_num, by omega, by omega, by omega, HI4, HG, HE2⟩
          case measure => first | (simp [intOf]; done) | (simp [intOf]; omega)
        have HI4 := vl (HI2.out.cut (by omega) (by rw [HUL.out]; omega) ⟨g1, g2⟩)
        rw [g1] at ix1
        rw [g2] at ix2
        clear g1 g2
        have hpk2 : p ≤ k := by omega
        obtain ⟨X, hX⟩ : ∃ X, X = v.extract p k := ⟨_, rfl⟩
        have HXE : Vl (unums X = ((unums v).drop p).take (k - p)) := vl (by rw [hX, unums_ext])
        have LL : Vl ((OL ++ O2).length < 4398046511104) := vl (by rw [List.length_append]; omega)
        have SZ : Vl (WR.heap.size ≤ wq.heap.size) := vl HG.out.old.size
        subst hX
        have HOA := vl (rfown_below HG.out.own ((Below.refl _ _).alloc (Nat.le_refl _) (.cells #[.string ⟨#[99, 111, 111, 107, 105, 101]⟩, .string (v.extract p k)] 51)))
        have HHB : Vl ((wq.alloc (.cells #[.string ⟨#[99, 111, 111, 107, 105, 101]⟩, .string (v.extract p k)] 51)).heap[wq.heap.size]? = some (.cells #[.string ⟨#[99, 111, 111, 107, 105, 101]⟩, .string (v.extract p k)] 51 (0, 0))) := vl (heap_alloc_new wq _)
        go_wp2_with (at_builtin; refine wpList_fappA _ rfl _ _ rfl WR.heap.size u8 (OL ++ O2) ⟨#[99, 111, 111, 107, 105, 101]⟩ (v.extract p k) rfl HOA.out wq.heap.size rfl HHB.out LL.out (by rw [World.size_alloc]; exact Nat.le_succ_of_le SZ.out) ?_)
        intro lv5 w5 ho5 hg5 hat5
        have HG5 := vl (HG.out.app (by first | exact ho5 | (rw [List.append_assoc]; exact ho5)) hg5 (by simpa using hat5))
        have HG6 : Vl (LGrow WR w5 wB.heap.size n v lv5 (OL ++ (O2 ++ [(⟨#[99, 111, 111, 107, 105, 101]⟩, v.extract p k)]))) := vl (by rw [← List.append_assoc]; exact HG5.out)
        have HE6 : Vl (fdsOf (O2 ++ [(⟨#[99, 111, 111, 107, 105, 101]⟩, v.extract p k)]) = (done ++ [((unums v).drop p).take (k - p)]).map fun x => (cookieN, x)) := vl (by
          rw [fds_app, HE2.out, List.map_append, ← HXE.out]
          rfl)
        clear ho5 hg5 hat5 HG5 HG
        go_wp2
        go_roundw
        case rel => exact ⟨k + 2, k + 1, _, _, by go_num, by go_num, by omega, by simp; omega, by omega, HI4, HG6, HE6⟩
        case measure => first | (simp [intOf]; done) | (simp [intOf]; omega)
    · have hc' : (n.toList == [99, 111, 111, 107, 105, 101]) = false := by simpa using hc
      have HCN : Vl (unums n ≠ cookieN) := vl (fun e => hc (rL_cookie.2 e))
      go_wp2_with fail
      rw [← hWF]
      clear hWF cn cv c3
      go_loopw [8, 11, 12] (fun lv pv kv wq => lv = u8 ∧ pv = .int .i64 0 ∧ kv = .int .i64 0 ∧ wq = WF) (fun _ _ _ _ => 0)
      case atStart => exact ⟨rfl, rfl, rfl, rfl⟩
      case round =>
        obtain ⟨rfl, rfl, rfl, rfl⟩ := hrel
        obtain ⟨wq, hwq⟩ : ∃ wq, wq = wr := ⟨_, rfl⟩
        subst hwq
        have HG := HG0
        have f0 := HG.out.f0
        have f1 := HG.out.f1
        have HLn2 : Vl (OL.length < 4398046511104) := vl (by omega)
        have HSB : Vl (WR.heap.size ≤ wq.heap.size) := vl HG.out.old.size
        obtain ⟨X, hX⟩ : ∃ X, X = v.extract 0 v.size := ⟨_, rfl⟩
        have HXE : Vl (unums X = (unums v).drop 0) := vl (by rw [hX, unums_ext, List.take_of_length_le (by rw [List.length_drop, unums_len]; exact Nat.le_refl _)])
        have hX2 : v.extract 0 v.size = X := hX.symm
        have HOW := vl HG.out.own
        have g0 := HG.out.f0
        have g1 := HG.out.f1
        have hlt := HG.out.lt
        have HWD : Vl (FOwn (wq.drew.alloc (.cells #[.string n, .string X] 51)) WR.heap.size u8 OL) := vl (rfown_below HG.out.own (((Below.refl _ _).drew).alloc (Nat.le_refl _) _))
        have HWH : Vl ((wq.drew.alloc (.cells #[.string n, .string X] 51)).heap[wq.heap.size]? = some (.cells #[.string n, .string X] 51 (0, 0))) := vl (heap_alloc_new wq.drew _)
        have HWS : Vl (WR.heap.size ≤ (wq.drew.alloc (.cells #[.string n, .string X] 51)).heap.size) := vl (by rw [World.size_alloc]; exact Nat.le_succ_of_le HSB.out)
        have HOLD := vl (HG.out.old.drew.alloc (show WR.heap.size ≤ wq.drew.heap.size from HSB.out) (.cells #[.string n, .string X] 51))
        clear hX
        go_wp2_with fail
        go_region_law (refine step_fappA _ rfl (.tmp 85) (.tmp 93) rfl WR.heap.size u8 OL n X (by simp [Act.eval]) HWD.out wq.heap.size (by simp [Act.eval]) HWH.out HLn2.out HWS.out ?_; intro lv3 w5 ho5 hg5)
        all_goals
          have HO5 := vl ho5
          have HB5 := vl (u_below_grown HOLD.out hg5 HWS.out (fun k hk => (HOW.out.lt k hk).1))
          clear ho5 hg5
          go_simp
          go_wp2
          go_roundw
          case rel => exact ⟨j + 1, OL ++ [(n, X)], by go_num, by omega, by simp; omega, HO5, vl (by
              rw [HSN.out, fds_app, HE.out]
              unfold pcsL
              rw [if_neg HCN.out]
              show _ ++ [(unums n, unums X)] = _
              rw [HXE.out]
              simp), HB5⟩
          case measure => first | (simp [intOf]; done) | (simp [intOf]; omega)
end Go.Proofs.YtglmppadhlkkgagGreatDoor
