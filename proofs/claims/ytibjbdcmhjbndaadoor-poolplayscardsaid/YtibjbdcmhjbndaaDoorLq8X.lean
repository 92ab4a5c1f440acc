/-
  CONNECTIONS TO PLACES, as the document's answer keeps them: Take, walked. No claim by itself.
-/
import Derived.Deep.RegionLaw
import Derived.Test.YtibjbdcmhjbndaaDoorMR
namespace Go.Proofs.YtibjbdcmhjbndaaDoor
open Go Go.RowKit
set_option maxRecDepth 100000
theorem OmP.lasted {w : World} {rb : Nat} {v : Value} {S : Po} (h : OmP w rb v S) (t : Int) : OmP (w.setCell ⟨rb, 1, none⟩ (.int .i64 t)) rb v ⟨S.many, t, S.now, S.turn, S.L⟩ ∧ Tn (HersO rb v) w (w.setCell ⟨rb, 1, none⟩ (.int .i64 t)) := by
  have hT : Tn (fun k => k = rb) w (w.setCell ⟨rb, 1, none⟩ (.int .i64 t)) := tn_set rfl
  exact ⟨⟨heap_setCell_same w rb 1 _ _ _ h.blk, rowo_kept h.row (fun k hk => hT.block k (h.row.lt k hk).2 (by have := (h.row.lt k hk).1; omega))⟩, tn_set (Or.inl rfl)⟩
theorem step_okS {ops : Array Oper} {o : Oper} {a : Act} {K : Act → World → Prop} {Q : Exit → Act → World → Prop} {E : Prop} (w : World) (hgd : o.guard = none) (s x : Operand)
    (ho : o.op = .call { callee := .builtin .append, args := #[s, x], argTypes := #[30, 30] }) (base : Nat) (v : Value) (L : LL) (y : Lk) (hs : a.eval s = v) (hown : w.ownsRow base 48 5 v L.length (okCells L))
    (B : Nat) (hx : a.eval x = .slice (some ⟨B, 0, none⟩) 1 1) (hB : w.heap[B]? = some (.cells #[.int .i64 y.id, .string y.to, .bool y.busy, .int .i64 y.at_, .int .i64 y.turn] 48 (0, 0))) (hlen : L.length ≤ 1000) (hbase : base ≤ w.heap.size)
    (h : ∀ g c w', w'.ownsRow base 48 5 (.slice (some ⟨g, 0, none⟩) (L.length + 1) c) (L ++ [y]).length (okCells (L ++ [y])) → w.grownBy w' v.ownBlock → (v.ownBlock = some g ∨ g = w.heap.size) → K (a.put o.dst (.slice (some ⟨g, 0, none⟩) (L.length + 1) c)) w') : if Region.wanted o (yielded ops a.tmps) = true then Oper.wp Tryd.prog o a w K Q else E := by
  obtain ⟨i0, hi, hz0, hz1, hz2⟩ := info_parts infoLk
  refine step_append_lies _ hgd s x 30 ho base 48 i0 (.agg #[.int .i64 0, .string ⟨#[]⟩, .bool false, .int .i64 0, .int .i64 0]) 5 48 Tryd.underlying30 hi hz0 hz1 hz2 rfl (by decide) v L.length _ hs hown ⟨B, 0, none⟩ 1 1 (okC y) hx rfl (World.news_of_block hB) (by simp [okC, Value.oneCell']) (by decide) (by unfold maxLen; omega) (by omega) hbase _ rfl ?_
  intro g cap w' h1 h2 h3 _
  refine h g cap w' ?_ h2 h3
  have hfc : okCells L ++ okC y = okCells (L ++ [y]) := by rw [okCells_append]; simp [okCells]
  rw [hfc] at h1
  rw [show (L ++ [y]).length = L.length + 1 by simp]
  exact h1
theorem lTn_trans' {rb : Nat} {v v1 : Value} {w w1 w2 : World} (ht : Tn (HersO rb v) w w1) (h2 : Tn (HersO rb v1) w1 w2) (hv : ∀ k, HersO rb v1 k → HersO rb v k ∨ w.heap.size ≤ k) : Tn (HersO rb v) w w2 :=
  ⟨h2.os.trans ht.os, h2.tape.trans ht.tape, h2.output.trans ht.output, Nat.le_trans ht.size h2.size, fun k hk hn => (h2.block k (Nat.lt_of_lt_of_le hk ht.size) (fun e => by
    rcases hv k e with e | e
    · exact hn e
    · omega)).trans (ht.block k hk hn)⟩
set_option maxHeartbeats 8000000 in
theorem rotake_any {w : World} {rb : Nat} {v : Value} {S : Po} (h : OmP w rb v S) (hI : PoI S) (tt : ByteArray) (hto : tt.size ≤ 140737488351232) (hl1 : S.last ≤ 1000000000000) :
    Calls Tryd.prog 7 #[.pointer (some ⟨rb, 0, none⟩), .string tt] w fun e w' => e = .returned (.tuple #[.int .i64 (takeT S tt).1, .bool (takeT S tt).2.1, .int .i64 (takeT S tt).2.2.1]) ∧ OmOut rb v w w' (takeT S tt).2.2.2 := by
  have hLL : S.L.length ≤ 8 := by have := hI.len; have := hI.many; omega
  have hmm := hI.many
  have hl0 := hI.last
  have HP := vl h
  have HI := vl hI
  have HTK := vl (rtoken_any tt w hto)
  obtain ⟨a, c, rfl, hc1, hc2, _⟩ := oown_shape rfl h.row
  unfold maxLen at hc2
  clear h hI
  cases htk : tokL (unums tt) with
  | false =>
    have HT : Vl (takeT S tt = (0, false, 2, S)) := vl (take_no htk)
    rw [htk] at HTK
    clear htk
    go_enter Tryd.func7, Tryd.ntmps7
    go_wp2_with fail
    refine HTK.out.mono ?_
    rintro _ _ ⟨rfl, rfl⟩
    go_wp2
    go_ret3
    rw [HT.out]
    exact ⟨rfl, OmOut.same HP.out (Tn.refl _ _)⟩
  | true =>
  rw [htk] at HTK
  have HTT := vl htk
  clear htk
  go_enter Tryd.func7, Tryd.ntmps7
  go_wp2_with fail
  refine HTK.out.mono ?_
  rintro _ _ ⟨rfl, rfl⟩
  clear HTK
  go_wp2_with fail
  go_loopw [8, 9, 10] (fun bv ov iv wr => ∃ (i : Nat) (b o : Int), iv = .int .i64 i ∧ bv = .int .i64 b ∧ ov = .int .i64 o ∧ i ≤ S.L.length ∧ Vl (BestAt S.L tt i b) ∧ Vl (OldAt S.L i o) ∧ Vl (Below w.heap.size w wr)) (fun _ _ iv _ => S.L.length - (intOf iv).toNat)
  case atStart => exact ⟨0, -1, -1, rfl, rfl, rfl, Nat.zero_le _, vl (Or.inl ⟨rfl, fun q hq => by omega⟩), vl (Or.inl ⟨rfl, fun q hq => by omega⟩), vl (Below.refl _ _)⟩
  case round =>
    obtain ⟨i, b, o, rfl, rfl, rfl, hi, HBE, HOL, HBW⟩ := hrel
    have HPr := HP.out.below HBW.out
    have HPR := vl HPr
    obtain ⟨d0, d1, d2, d3, d4⟩ := HPr.cells
    obtain ⟨a', c', he, _, _, hcell⟩ := oown_shape rfl HPr.row
    obtain ⟨rfl, rfl⟩ : a = a' ∧ c = c' := by simpa using he
    have HCL := vl hcell
    have hrbr := HPr.lt0
    have f1 := HPr.fr 1
    have f4 := HPr.fr 4
    clear he hcell HPr
    by_cases hlt : i < S.L.length
    case neg =>
      have p1 : ¬ ((i : Int) < (S.L.length : Int)) := by omega
      obtain rfl : i = S.L.length := by omega
      have HBA := vl (HBE.out.all HI.out)
      have HOA := vl (HOL.out.all HI.out)
      clear HBE HOL p1 hi hlt
      rcases HBA.out with ⟨rfl, hbn⟩ | ⟨j, rfl, hj, hbj⟩
      · by_cases hfull : S.many ≤ (S.L.length : Int)
        · rcases HOA.out with ⟨rfl, hon⟩ | ⟨m, rfl, hm, hom⟩
          · have HT : Vl (takeT S tt = (0, false, 4, S)) := vl (by
              unfold takeT takeF
              rw [if_pos HTT.out, hbn]
              simp only
              rw [if_pos hfull, hon])
            clear hbn hon HBA HOA
            go_wp2_with fail
            go_quiet (fail)
            go_wp2
            go_ret3
            rw [HT.out]
            exact ⟨rfl, OmOut.same (HPR.out.below (ldrewN_below (Below.refl _ _) _)) (Tn.of_below (ldrewN_below HBW.out _))⟩
          · have HT : Vl (takeT S tt = (S.last + 1, true, 0, ⟨S.many, S.last + 1, S.now, S.turn, dropK S.L (lnth S.L m).id ++ [newK (S.last + 1) tt]⟩)) := vl (by
              unfold takeT takeF
              rw [if_pos HTT.out, hbn]
              simp only
              rw [if_pos hfull, hom])
            have m0 : (0 : Int) ≤ (m : Int) := by omega
            have m1 : (m : Int) < (S.L.length : Int) := by omega
            have HDR := vl (rodrop_any (HPR.out.below (Below.refl _ _)) (by omega) m hm)
            have HMD : Vl (S.L.take m ++ S.L.drop (m + 1) = dropK S.L (lnth S.L m).id) := vl (l_drop HI.out.nodup hm).symm
            have HDQ : Vl (∀ n, Calls Tryd.prog 18 #[.pointer (some ⟨rb, 0, none⟩), .int .i64 m] (wr.drewN n) fun e w' => e = .returned (.tuple #[]) ∧ OmOut rb (.slice a S.L.length c) (wr.drewN n) w' (withL S (S.L.take m ++ S.L.drop (m + 1)))) := vl (fun n => rodrop_any (HPR.out.below (ldrewN_below (Below.refl _ _) n)) (by omega) m hm)
            have HBN := vl (fun n => ldrewN_below HBW.out n)
            have hdl : (dropK S.L (lnth S.L m).id).length ≤ 1000 := Nat.le_trans (List.length_filter_le _ _) (by omega)
            clear hbn hom HBA HOA HDR
            go_wp2_with fail
            go_quiet (fail)
            go_wp2_with fail
            refine (HDQ.out nq).mono ?_
            rintro _ WX ⟨rfl, v1, hp1, ht1, hv1⟩
            rw [HMD.out] at hp1
            generalize dropK S.L (lnth S.L m).id = L1 at *
            obtain ⟨ax, cx, rfl, _, _, _⟩ := oown_shape (n := L1.length) rfl hp1.row
            have HPX : Vl (OmP WX rb (.slice ax L1.length cx) ⟨S.many, S.last, S.now, S.turn, L1⟩) := vl hp1
            have HTX : Vl (Tn (HersO rb (.slice a S.L.length c)) w WX) := vl (lTn_trans (Tn.of_below (HBN.out nq)) ht1)
            have HVX : Vl (∀ k, HersO rb (.slice ax L1.length cx) k → HersO rb (.slice a S.L.length c) k ∨ w.heap.size ≤ k) := vl (fun k hk => (hv1 k hk).imp id (Nat.le_trans (HBN.out nq).size))
            have hll : L1.length ≤ 1000 := hdl
            clear hp1 ht1 hv1
            obtain ⟨W2, hW2⟩ : ∃ x, WX.setCell ⟨rb, 1, none⟩ (.int .i64 (S.last + 1)) = x := ⟨_, rfl⟩
            have HP2 : Vl (OmP W2 rb (.slice ax L1.length cx) ⟨S.many, S.last + 1, S.now, S.turn, L1⟩ ∧ Tn (HersO rb (.slice ax L1.length cx)) WX W2) := vl (by rw [← hW2]; exact HPX.out.lasted (S.last + 1))
            have HW2 := vl hW2
            have hrb2 : rb < W2.heap.size := HP2.out.1.lt0
            obtain ⟨WA, hWA⟩ : ∃ x, W2.drew.alloc (.cells #[.int .i64 (S.last + 1), .string tt, .bool true, .int .i64 0, .int .i64 0] 48) = x := ⟨_, rfl⟩
            have HWA := vl hWA
            have hbA : Below W2.heap.size W2 WA := by rw [← hWA]; exact ((Below.refl _ _).drew).alloc (Nat.le_refl _) _
            have hHA : WA.heap[W2.heap.size]? = some (.cells #[.int .i64 (S.last + 1), .string tt, .bool true, .int .i64 0, .int .i64 0] 48 (0, 0)) := by rw [← hWA]; exact heap_alloc_new W2.drew _
            have HPA := vl (HP2.out.1.below hbA)
            have HSA : Vl (WA.heap.size = W2.heap.size + 1) := vl (by rw [← hWA]; simp)
            have HBA := vl hbA
            have HWD : Vl ((W2.drew.alloc (.cells #[.int .i64 (S.last + 1), .string tt, .bool true, .int .i64 0, .int .i64 0] 48)).ownsRow (rb + 1) 48 5 (.slice ax L1.length cx) L1.length (okCells L1)) := vl (by rw [hWA]; exact HPA.out.row)
            have HWH : Vl ((W2.drew.alloc (.cells #[.int .i64 (S.last + 1), .string tt, .bool true, .int .i64 0, .int .i64 0] 48)).heap[W2.heap.size]? = some (.cells #[.int .i64 (newK (S.last + 1) tt).id, .string (newK (S.last + 1) tt).to, .bool (newK (S.last + 1) tt).busy, .int .i64 (newK (S.last + 1) tt).at_, .int .i64 (newK (S.last + 1) tt).turn] 48 (0, 0))) := vl (by rw [hWA]; exact hHA)
            have HWS : Vl (rb + 1 ≤ (W2.drew.alloc (.cells #[.int .i64 (S.last + 1), .string tt, .bool true, .int .i64 0, .int .i64 0] 48)).heap.size) := vl (by rw [hWA]; have := hbA.size; omega)
            have HK5 : Vl (∀ w5, (W2.drew.alloc (.cells #[.int .i64 (S.last + 1), .string tt, .bool true, .int .i64 0, .int .i64 0] 48)).grownBy w5 (Value.slice ax L1.length cx).ownBlock → w5.cell? ⟨rb, 1, none⟩ = some (.int .i64 (S.last + 1)) ∧ w5.cell? ⟨rb, 4, none⟩ = some (.slice ax L1.length cx) ∧ (∀ i, w5.frozen? ⟨rb, i, none⟩ = false) ∧ rb < w5.heap.size ∧ WA.grownBy w5 (Value.slice ax L1.length cx).ownBlock) := vl (fun w5 hg => by
              rw [hWA] at hg
              have e : w5.heap[rb]? = WA.heap[rb]? := hg.block rb HPA.out.lt0 (fun e => by have := (HPA.out.row.lt rb e.symm).1; omega)
              exact ⟨(World.cell?_of_block (a := ⟨rb, 1, none⟩) e).trans HPA.out.cells.2.1, (World.cell?_of_block (a := ⟨rb, 4, none⟩) e).trans HPA.out.cells.2.2.2.2, fun i => (World.frozen?_of_block (a := ⟨rb, i, none⟩) e).trans (HPA.out.fr i), Nat.lt_of_lt_of_le HPA.out.lt0 hg.size, hg⟩)
            have x1 : W2.cell? ⟨rb, 1, none⟩ = some (.int .i64 (S.last + 1)) := HP2.out.1.cells.2.1
            have x4 : W2.cell? ⟨rb, 4, none⟩ = some (.slice ax L1.length cx) := HP2.out.1.cells.2.2.2.2
            have xf : ∀ i, WX.frozen? ⟨rb, i, none⟩ = false := HPX.out.fr
            have xf1 := xf 1
            have wx1 : WX.cell? ⟨rb, 1, none⟩ = some (.int .i64 S.last) := HPX.out.cells.2.1
            have HLL := vl hll
            clear hW2 hWA hbA hHA xf d0 d1 d2 d3 d4 f1 f4
            go_wp2_with fail
            rw [HW2.out]
            go_region_law (refine step_okS _ rfl (.tmp 115) (.tmp 122) rfl (rb + 1) (.slice ax L1.length cx) L1 (newK (S.last + 1) tt) (by simp [Act.eval]) HWD.out W2.heap.size (by simp [Act.eval]) HWH.out HLL.out HWS.out ?_; intro g5 c5 w5 ho5 hg5 hl5; have k1 := (HK5.out w5 hg5).1; have k4 := (HK5.out w5 hg5).2.1; have z4 := (HK5.out w5 hg5).2.2.1 4)
            all_goals
              have OUT := vl (HPA.out.grown (HK5.out w5 hg5).2.2.2.2 ho5 (hl5.elim (fun e => Or.inl e.symm) (fun e => Or.inr (fun k hk => by have hk' : some g5 = some k := hk; cases hk'; have := HSA.out; (try simp at e); omega))))
              have hrb5 := (HK5.out w5 hg5).2.2.2.1
              clear ho5 hg5 hl5
              go_simp
              go_wp2
              go_ret3
              rw [HT.out]
              exact ⟨rfl, OmOut.after (lTn_trans' HTX.out HP2.out.2 HVX.out) HVX.out (OmOut.from HBA.out OUT.out)⟩
        · have HT : Vl (takeT S tt = (S.last + 1, true, 0, ⟨S.many, S.last + 1, S.now, S.turn, S.L ++ [newK (S.last + 1) tt]⟩)) := vl (by
            unfold takeT takeF
            rw [if_pos HTT.out, hbn]
            simp only
            rw [if_neg hfull])
          have HQX := vl (fun n => HPR.out.below (ldrewN_below (Below.refl wr.heap.size wr) n))
          have HBN := vl (fun n => ldrewN_below HBW.out n)
          clear hbn HBA HOA
          go_wp2_with fail
          go_quiet (fail)
          obtain ⟨WX, hWX⟩ : ∃ x, wr.drewN nq = x := ⟨_, rfl⟩
          have HPX : Vl (OmP WX rb (.slice a S.L.length c) S) := vl (by rw [← hWX]; exact HQX.out nq)
          have HTX : Vl (Tn (HersO rb (.slice a S.L.length c)) w WX) := vl (by rw [← hWX]; exact Tn.of_below (HBN.out nq))
          have HVX : Vl (∀ k, HersO rb (.slice a S.L.length c) k → HersO rb (.slice a S.L.length c) k ∨ w.heap.size ≤ k) := vl (fun k hk => Or.inl hk)
          have hll : S.L.length ≤ 1000 := by omega
          rw [hWX]
          clear hWX HBN HQX HPR HCL
          obtain ⟨W2, hW2⟩ : ∃ x, WX.setCell ⟨rb, 1, none⟩ (.int .i64 (S.last + 1)) = x := ⟨_, rfl⟩
          have HP2 : Vl (OmP W2 rb (.slice a S.L.length c) ⟨S.many, S.last + 1, S.now, S.turn, S.L⟩ ∧ Tn (HersO rb (.slice a S.L.length c)) WX W2) := vl (by rw [← hW2]; exact HPX.out.lasted (S.last + 1))
          have HW2 := vl hW2
          have hrb2 : rb < W2.heap.size := HP2.out.1.lt0
          obtain ⟨WA, hWA⟩ : ∃ x, W2.drew.alloc (.cells #[.int .i64 (S.last + 1), .string tt, .bool true, .int .i64 0, .int .i64 0] 48) = x := ⟨_, rfl⟩
          have HWA := vl hWA
          have hbA : Below W2.heap.size W2 WA := by rw [← hWA]; exact ((Below.refl _ _).drew).alloc (Nat.le_refl _) _
          have hHA : WA.heap[W2.heap.size]? = some (.cells #[.int .i64 (S.last + 1), .string tt, .bool true, .int .i64 0, .int .i64 0] 48 (0, 0)) := by rw [← hWA]; exact heap_alloc_new W2.drew _
          have HPA := vl (HP2.out.1.below hbA)
          have HSA : Vl (WA.heap.size = W2.heap.size + 1) := vl (by rw [← hWA]; simp)
          have HBA := vl hbA
          have HWD : Vl ((W2.drew.alloc (.cells #[.int .i64 (S.last + 1), .string tt, .bool true, .int .i64 0, .int .i64 0] 48)).ownsRow (rb + 1) 48 5 (.slice a S.L.length c) S.L.length (okCells S.L)) := vl (by rw [hWA]; exact HPA.out.row)
          have HWH : Vl ((W2.drew.alloc (.cells #[.int .i64 (S.last + 1), .string tt, .bool true, .int .i64 0, .int .i64 0] 48)).heap[W2.heap.size]? = some (.cells #[.int .i64 (newK (S.last + 1) tt).id, .string (newK (S.last + 1) tt).to, .bool (newK (S.last + 1) tt).busy, .int .i64 (newK (S.last + 1) tt).at_, .int .i64 (newK (S.last + 1) tt).turn] 48 (0, 0))) := vl (by rw [hWA]; exact hHA)
          have HWS : Vl (rb + 1 ≤ (W2.drew.alloc (.cells #[.int .i64 (S.last + 1), .string tt, .bool true, .int .i64 0, .int .i64 0] 48)).heap.size) := vl (by rw [hWA]; have := hbA.size; omega)
          have HK5 : Vl (∀ w5, (W2.drew.alloc (.cells #[.int .i64 (S.last + 1), .string tt, .bool true, .int .i64 0, .int .i64 0] 48)).grownBy w5 (Value.slice a S.L.length c).ownBlock → w5.cell? ⟨rb, 1, none⟩ = some (.int .i64 (S.last + 1)) ∧ w5.cell? ⟨rb, 4, none⟩ = some (.slice a S.L.length c) ∧ (∀ i, w5.frozen? ⟨rb, i, none⟩ = false) ∧ rb < w5.heap.size ∧ WA.grownBy w5 (Value.slice a S.L.length c).ownBlock) := vl (fun w5 hg => by
            rw [hWA] at hg
            have e : w5.heap[rb]? = WA.heap[rb]? := hg.block rb HPA.out.lt0 (fun e => by have := (HPA.out.row.lt rb e.symm).1; omega)
            exact ⟨(World.cell?_of_block (a := ⟨rb, 1, none⟩) e).trans HPA.out.cells.2.1, (World.cell?_of_block (a := ⟨rb, 4, none⟩) e).trans HPA.out.cells.2.2.2.2, fun i => (World.frozen?_of_block (a := ⟨rb, i, none⟩) e).trans (HPA.out.fr i), Nat.lt_of_lt_of_le HPA.out.lt0 hg.size, hg⟩)
          have x1 : W2.cell? ⟨rb, 1, none⟩ = some (.int .i64 (S.last + 1)) := HP2.out.1.cells.2.1
          have x4 : W2.cell? ⟨rb, 4, none⟩ = some (.slice a S.L.length c) := HP2.out.1.cells.2.2.2.2
          have xf : ∀ i, WX.frozen? ⟨rb, i, none⟩ = false := HPX.out.fr
          have xf1 := xf 1
          have wx1 : WX.cell? ⟨rb, 1, none⟩ = some (.int .i64 S.last) := HPX.out.cells.2.1
          have HLL := vl hll
          clear hW2 hWA hbA hHA xf d0 d1 d2 d3 d4 f1 f4
          go_wp2_with fail
          rw [HW2.out]
          go_region_law (refine step_okS _ rfl (.tmp 115) (.tmp 122) rfl (rb + 1) (.slice a S.L.length c) S.L (newK (S.last + 1) tt) (by simp [Act.eval]) HWD.out W2.heap.size (by simp [Act.eval]) HWH.out HLL.out HWS.out ?_; intro g5 c5 w5 ho5 hg5 hl5; have k1 := (HK5.out w5 hg5).1; have k4 := (HK5.out w5 hg5).2.1; have z4 := (HK5.out w5 hg5).2.2.1 4)
          all_goals
            have OUT := vl (HPA.out.grown (HK5.out w5 hg5).2.2.2.2 ho5 (hl5.elim (fun e => Or.inl e.symm) (fun e => Or.inr (fun k hk => by have hk' : some g5 = some k := hk; cases hk'; have := HSA.out; (try simp at e); omega))))
            have hrb5 := (HK5.out w5 hg5).2.2.2.1
            clear ho5 hg5 hl5
            go_simp
            go_wp2
            go_ret3
            rw [HT.out]
            exact ⟨rfl, OmOut.after (lTn_trans' HTX.out HP2.out.2 HVX.out) HVX.out (OmOut.from HBA.out OUT.out)⟩
      · have HT : Vl (takeT S tt = ((lnth S.L j).id, false, 0, ⟨S.many, S.last, S.now, S.turn, mapK S.L (lnth S.L j).id setB⟩)) := vl (take_again HTT.out hbj)
        have j0 : (0 : Int) ≤ (j : Int) := by omega
        have j1 : (j : Int) < (S.L.length : Int) := by omega
        obtain ⟨g, rfl, hgb, hgl, ⟨y0, y1, y2, y3, y4⟩, yf⟩ := HCL.out j hj
        have A1 := HPR.out.put rfl rfl j 2 hj (by omega) (.bool true) (setB (lnth S.L j)) rfl
        have HM := l_map HI.out.nodup hj setB
        have OUT : Vl (OmOut rb (.slice (some ⟨g, 0, none⟩) S.L.length c) w (wr.setCell ⟨g, j * 5 + 2, none⟩ (.bool true)) ⟨S.many, S.last, S.now, S.turn, mapK S.L (lnth S.L j).id setB⟩) := vl (by
          rw [HM]
          exact OmOut.same A1.1 (lTn_trans (Tn.of_below HBW.out) A1.2))
        clear hbj A1 HM HBA HOA
        go_wp2
        go_ret3
        rw [HT.out]
        exact ⟨rfl, OUT.out⟩
    have p1 : (i : Int) < (S.L.length : Int) := by omega
    obtain ⟨g, rfl, hgb, hgl, ⟨y0, y1, y2, y3, y4⟩, yf⟩ := HCL.out i hlt
    have HBA : Vl (Below wr.heap.size wr (wr.alloc (.cells #[.int .i64 (lnth S.L i).id, .string (lnth S.L i).to, .bool (lnth S.L i).busy, .int .i64 (lnth S.L i).at_, .int .i64 (lnth S.L i).turn] 48))) := vl ((Below.refl _ _).alloc (Nat.le_refl _) _)
    cases hbs : (lnth S.L i).busy with
    | true =>
      have HB1 := vl (HBE.out.no (by unfold isTo; rw [hbs]; rfl))
      have HO1 := vl (HOL.out.no hbs)
      rw [hbs] at y2 HBA
      go_wp2
      go_roundw
      case rel => exact ⟨i + 1, b, o, by go_num, rfl, rfl, hlt, HB1, HO1, vl (HBW.out.trans (HBA.out.mono HBW.out.size))⟩
      case measure => simp [intOf]; omega
    | false =>
      rw [hbs] at y2 HBA
      have i0 : (0 : Int) ≤ (i : Int) := by omega
      by_cases ht : (lnth S.L i).to = tt
      case neg =>
        have hq : ((lnth S.L i).to.toList == tt.toList) = false := by rw [beq_eq_false_iff_ne]; exact fun e => ht (toL_eq.1 e)
        have HB1 := vl (HBE.out.no (by
          cases e : isTo tt (lnth S.L i) with
          | false => rfl
          | true => exact absurd (isTo_iff.1 e).2 ht))
        clear ht HBE
        rcases HOL.out with ⟨rfl, _⟩ | ⟨m, rfl, hm, _, _⟩
        · have HO1 := vl (HOL.out.here hbs (Or.inl rfl))
          go_wp2_with fail
          go_quiet (fail)
          go_wp2_with fail
          go_quiet (fail)
          go_wp2
          go_roundw
          case rel => exact ⟨i + 1, b, (i : Int), by go_num, rfl, rfl, hlt, HB1, HO1, vl (ldrewN_below (HBW.out.trans (HBA.out.mono HBW.out.size)) _)⟩
          case measure => simp [intOf]; omega
        · obtain ⟨g3, e3, _, _, ⟨_, _, _, _, z3⟩, _⟩ := HCL.out m (by omega)
          obtain rfl : g = g3 := by simpa using e3
          clear e3
          have m0 : (0 : Int) ≤ (m : Int) := by omega
          have m1 : (m : Int) < (S.L.length : Int) := by omega
          have HO1 := vl (fun (hq : (lnth S.L i).turn < (lnth S.L m).turn) => HOL.out.here hbs (Or.inr ⟨m, rfl, hq⟩))
          have HO2 := vl (fun (hq : ¬ (lnth S.L i).turn < (lnth S.L m).turn) => HOL.out.less hq)
          by_cases q2 : (lnth S.L i).turn < (lnth S.L m).turn
          ·
            go_wp2_with fail
            go_quiet (fail)
            go_wp2_with fail
            go_quiet (fail)
            go_wp2
            go_roundw
            case rel => exact ⟨i + 1, b, (i : Int), by go_num, rfl, rfl, hlt, HB1, vl (HO1.out q2), vl (ldrewN_below (HBW.out.trans (HBA.out.mono HBW.out.size)) _)⟩
            case measure => simp [intOf]; omega
          ·
            go_wp2_with fail
            go_quiet (fail)
            go_wp2_with fail
            go_quiet (fail)
            go_wp2
            go_roundw
            case rel => exact ⟨i + 1, b, (m : Int), by go_num, rfl, rfl, hlt, HB1, vl (HO2.out q2), vl (ldrewN_below (HBW.out.trans (HBA.out.mono HBW.out.size)) _)⟩
            case measure => simp [intOf]; omega
      have hq : ((lnth S.L i).to.toList == tt.toList) = true := by rw [beq_iff_eq, ht]
      have his : isTo tt (lnth S.L i) = true := isTo_iff.2 ⟨hbs, ht⟩
      clear ht
      rcases HBE.out with ⟨rfl, _⟩ | ⟨j, rfl, hj, _, _⟩
      · have HB1 := vl (HBE.out.here his (Or.inl rfl))
        clear his HBE
        rcases HOL.out with ⟨rfl, _⟩ | ⟨m, rfl, hm, _, _⟩
        · have HO1 := vl (HOL.out.here hbs (Or.inl rfl))
          go_wp2_with fail
          go_quiet (fail)
          go_wp2_with fail
          go_quiet (fail)
          go_wp2
          go_roundw
          case rel => exact ⟨i + 1, (i : Int), (i : Int), by go_num, rfl, rfl, hlt, HB1, HO1, vl (ldrewN_below (HBW.out.trans (HBA.out.mono HBW.out.size)) _)⟩
          case measure => simp [intOf]; omega
        · obtain ⟨g3, e3, _, _, ⟨_, _, _, _, z3⟩, _⟩ := HCL.out m (by omega)
          obtain rfl : g = g3 := by simpa using e3
          clear e3
          have m0 : (0 : Int) ≤ (m : Int) := by omega
          have m1 : (m : Int) < (S.L.length : Int) := by omega
          have HO1 := vl (fun (hq : (lnth S.L i).turn < (lnth S.L m).turn) => HOL.out.here hbs (Or.inr ⟨m, rfl, hq⟩))
          have HO2 := vl (fun (hq : ¬ (lnth S.L i).turn < (lnth S.L m).turn) => HOL.out.less hq)
          by_cases q2 : (lnth S.L i).turn < (lnth S.L m).turn
          ·
            go_wp2_with fail
            go_quiet (fail)
            go_wp2_with fail
            go_quiet (fail)
            go_wp2
            go_roundw
            case rel => exact ⟨i + 1, (i : Int), (i : Int), by go_num, rfl, rfl, hlt, HB1, vl (HO1.out q2), vl (ldrewN_below (HBW.out.trans (HBA.out.mono HBW.out.size)) _)⟩
            case measure => simp [intOf]; omega
          ·
            go_wp2_with fail
            go_quiet (fail)
            go_wp2_with fail
            go_quiet (fail)
            go_wp2
            go_roundw
            case rel => exact ⟨i + 1, (i : Int), (m : Int), by go_num, rfl, rfl, hlt, HB1, vl (HO2.out q2), vl (ldrewN_below (HBW.out.trans (HBA.out.mono HBW.out.size)) _)⟩
            case measure => simp [intOf]; omega
      · obtain ⟨g2, e2, _, _, ⟨_, _, _, _, z2⟩, _⟩ := HCL.out j (by omega)
        obtain rfl : g = g2 := by simpa using e2
        clear e2
        have j0 : (0 : Int) ≤ (j : Int) := by omega
        have j1 : (j : Int) < (S.L.length : Int) := by omega
        have HB1 := vl (fun (hq : (lnth S.L j).turn < (lnth S.L i).turn) => HBE.out.here his (Or.inr ⟨j, rfl, hq⟩))
        have HB2 := vl (fun (hq : ¬ (lnth S.L j).turn < (lnth S.L i).turn) => HBE.out.less hq)
        clear his HBE
        by_cases q1 : (lnth S.L j).turn < (lnth S.L i).turn
        ·
          rcases HOL.out with ⟨rfl, _⟩ | ⟨m, rfl, hm, _, _⟩
          · have HO1 := vl (HOL.out.here hbs (Or.inl rfl))
            go_wp2_with fail
            go_quiet (fail)
            go_wp2_with fail
            go_quiet (fail)
            go_wp2
            go_roundw
            case rel => exact ⟨i + 1, (i : Int), (i : Int), by go_num, rfl, rfl, hlt, vl (HB1.out q1), HO1, vl (ldrewN_below (HBW.out.trans (HBA.out.mono HBW.out.size)) _)⟩
            case measure => simp [intOf]; omega
          · obtain ⟨g3, e3, _, _, ⟨_, _, _, _, z3⟩, _⟩ := HCL.out m (by omega)
            obtain rfl : g = g3 := by simpa using e3
            clear e3
            have m0 : (0 : Int) ≤ (m : Int) := by omega
            have m1 : (m : Int) < (S.L.length : Int) := by omega
            have HO1 := vl (fun (hq : (lnth S.L i).turn < (lnth S.L m).turn) => HOL.out.here hbs (Or.inr ⟨m, rfl, hq⟩))
            have HO2 := vl (fun (hq : ¬ (lnth S.L i).turn < (lnth S.L m).turn) => HOL.out.less hq)
            by_cases q2 : (lnth S.L i).turn < (lnth S.L m).turn
            ·
              go_wp2_with fail
              go_quiet (fail)
              go_wp2_with fail
              go_quiet (fail)
              go_wp2
              go_roundw
              case rel => exact ⟨i + 1, (i : Int), (i : Int), by go_num, rfl, rfl, hlt, vl (HB1.out q1), vl (HO1.out q2), vl (ldrewN_below (HBW.out.trans (HBA.out.mono HBW.out.size)) _)⟩
              case measure => simp [intOf]; omega
            ·
              go_wp2_with fail
              go_quiet (fail)
              go_wp2_with fail
              go_quiet (fail)
              go_wp2
              go_roundw
              case rel => exact ⟨i + 1, (i : Int), (m : Int), by go_num, rfl, rfl, hlt, vl (HB1.out q1), vl (HO2.out q2), vl (ldrewN_below (HBW.out.trans (HBA.out.mono HBW.out.size)) _)⟩
              case measure => simp [intOf]; omega
        ·
          rcases HOL.out with ⟨rfl, _⟩ | ⟨m, rfl, hm, _, _⟩
          · have HO1 := vl (HOL.out.here hbs (Or.inl rfl))
            go_wp2_with fail
            go_quiet (fail)
            go_wp2_with fail
            go_quiet (fail)
            go_wp2
            go_roundw
            case rel => exact ⟨i + 1, (j : Int), (i : Int), by go_num, rfl, rfl, hlt, vl (HB2.out q1), HO1, vl (ldrewN_below (HBW.out.trans (HBA.out.mono HBW.out.size)) _)⟩
            case measure => simp [intOf]; omega
          · obtain ⟨g3, e3, _, _, ⟨_, _, _, _, z3⟩, _⟩ := HCL.out m (by omega)
            obtain rfl : g = g3 := by simpa using e3
            clear e3
            have m0 : (0 : Int) ≤ (m : Int) := by omega
            have m1 : (m : Int) < (S.L.length : Int) := by omega
            have HO1 := vl (fun (hq : (lnth S.L i).turn < (lnth S.L m).turn) => HOL.out.here hbs (Or.inr ⟨m, rfl, hq⟩))
            have HO2 := vl (fun (hq : ¬ (lnth S.L i).turn < (lnth S.L m).turn) => HOL.out.less hq)
            by_cases q2 : (lnth S.L i).turn < (lnth S.L m).turn
            ·
              go_wp2_with fail
              go_quiet (fail)
              go_wp2_with fail
              go_quiet (fail)
              go_wp2
              go_roundw
              case rel => exact ⟨i + 1, (j : Int), (i : Int), by go_num, rfl, rfl, hlt, vl (HB2.out q1), vl (HO1.out q2), vl (ldrewN_below (HBW.out.trans (HBA.out.mono HBW.out.size)) _)⟩
              case measure => simp [intOf]; omega
            ·
              go_wp2_with fail
              go_quiet (fail)
              go_wp2_with fail
              go_quiet (fail)
              go_wp2
              go_roundw
              case rel => exact ⟨i + 1, (j : Int), (m : Int), by go_num, rfl, rfl, hlt, vl (HB2.out q1), vl (HO2.out q2), vl (ldrewN_below (HBW.out.trans (HBA.out.mono HBW.out.size)) _)⟩
              case measure => simp [intOf]; omega
end Go.Proofs.YtibjbdcmhjbndaaDoor
