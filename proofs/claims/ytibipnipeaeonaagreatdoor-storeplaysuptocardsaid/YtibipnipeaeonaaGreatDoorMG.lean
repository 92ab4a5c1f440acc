/-
  WHAT WAS ANSWERED: the developers' Put, where a reply is kept. No claim by itself.
-/
import Derived.Deep.RegionLaw
import Derived.Deep.AppendLies
import Derived.Deep.DeepCutAuto
import Derived.Deep.CutRange
import Derived.Lib.SliceRun
import Derived.Test.YtibipnipeaeonaaGreatDoorMF
namespace Go.Proofs.YtibipnipeaeonaaGreatDoor
open Go Go.RowKit
set_option maxRecDepth 100000
def getN : List Int := [71, 69, 84]
theorem PBx.tn {S : Nat → Prop} {W W' : World} {n : Nat} {q : RpM} (h : PBx W n q) (ht : Tn S W W') (hn : ¬ S n) : PBx W' n q :=
  ⟨ht.cell h.c0 hn, ht.cell h.c1 hn, ht.cell h.c2 hn⟩
theorem k_info : (Tryz.prog.info? 63).map (fun i => (i.zero, i.size, i.bytes)) = some (some (.agg #[.string ⟨#[]⟩, .string ⟨#[]⟩, .slice none 0 0, .int .i64 0, .slice none 0 0, .slice none 0 0, .int .i64 0]), 7, 120) := by kernel_rfl
/-- Append of one kept reply, inside a region that draws its order. -/
theorem step_kapp {ops : Array Oper} {o : Oper} {a : Act} {K : Act → World → Prop} {Q : Exit → Act → World → Prop} {E : Prop} (w4 : World) (k : KpM) (hgd : o.guard = none) (s x : Operand)
    (ho : o.op = .call { callee := .builtin .append, args := #[s, x], argTypes := #[55, 55] }) (v : Value) (D : List KpM) (hs : a.eval s = v) (hown : KOwn w4 0 v D)
    (hx : a.eval x = .slice (some ⟨w4.heap.size, 0, none⟩) 1 1) (hlen : D.length ≤ 4294967296)
    (h : ∀ g cap w', KOwn w' 0 (.slice (some ⟨g, 0, none⟩) (D.length + 1) cap) (D ++ [k]) → (w4.alloc (.cells #[.string k.host, .string k.path, .slice k.va k.vn k.vc, .int .i64 k.rp.code, .slice k.rp.fa k.rp.fn k.rp.fc, .slice k.rp.ba k.rp.bn k.rp.bc, .int .i64 k.at_] 63)).grownBy w' v.ownBlock → (v.ownBlock = some g ∨ g = w4.heap.size + 1) → K (a.put o.dst (.slice (some ⟨g, 0, none⟩) (D.length + 1) cap)) w') :
    if Region.wanted o (yielded ops a.tmps) = true then Oper.wp Tryz.prog o a (w4.alloc (.cells #[.string k.host, .string k.path, .slice k.va k.vn k.vc, .int .i64 k.rp.code, .slice k.rp.fa k.rp.fn k.rp.fc, .slice k.rp.ba k.rp.bn k.rp.bc, .int .i64 k.at_] 63)) K Q else E := by
  obtain ⟨i0, hi, hz0, hz1, hz2⟩ := info_parts k_info
  refine step_append_lies _ hgd s x 55 ho 0 63 i0 (.agg #[.string ⟨#[]⟩, .string ⟨#[]⟩, .slice none 0 0, .int .i64 0, .slice none 0 0, .slice none 0 0, .int .i64 0]) 7 120 Tryz.underlying55 hi hz0 hz1 hz2 rfl (by decide) v D.length (kcells D) hs (hown.alloc _) ⟨w4.heap.size, 0, none⟩ 1 1 k.cells hx rfl ?_ ?_ (by decide) (by unfold maxLen; omega) (by omega) (Nat.zero_le _) (w4.heap.size + 1) (by simp) ?_
  · intro j u hj
    have hh := heap_alloc_new w4 (.cells #[.string k.host, .string k.path, .slice k.va k.vn k.vc, .int .i64 k.rp.code, .slice k.rp.fa k.rp.fn k.rp.fc, .slice k.rp.ba k.rp.bn k.rp.bc, .int .i64 k.at_] 63 (0, 0))
    rw [n_add, cell_of_row _ _ _ _ _ _ hh, Nat.zero_add]
    unfold KpM.cells at hj
    simpa using hj
  · intro u hu
    simp only [KpM.cells, List.mem_cons, List.not_mem_nil, or_false] at hu
    rcases hu with rfl | rfl | rfl | rfl | rfl | rfl | rfl <;> rfl
  · intro g cap w' h1 h2 h3 _
    refine h g cap w' ?_ h2 h3
    show World.ownsRow _ _ _ _ _ _ _
    rw [show (D ++ [k]).length = D.length + 1 by simp, kcells_app, show kcells [k] = k.cells by simp [kcells]]
    exact h1
def PutY (w : World) (sb : Nat) (v : Value) (ks : List KpM) (q : RqM) (a : RpM) (now : Int) (w' : World) : Prop :=
  ∃ v' k, StM w' sb v' (kf (fun k => fitP k q) ks ++ [k]) ∧ KeptOf w q a now k ∧ Tn (StS sb v) w w' ∧ ∀ b, StS sb v' b → StS sb v b ∨ w.heap.size ≤ b
theorem put_fin {w w3 w4 w5 : World} {sb : Nat} {v v3 : Value} {ks : List KpM} {q : RqM} {a : RpM} {now : Int} {k : KpM} {o : Obj} {g5 c5 : Nat} (hS3 : StM w3 sb v3 (kf (fun k => fitP k q) ks)) (hT3 : Tn (StS sb v) w w3) (hSS : ∀ b, StS sb v3 b → StS sb v b)
    (hK : KpIn w4 k) (hO : KeptOf w3.drew q a now k) (hb4 : Below w3.drew.heap.size w3.drew w4) (ho5 : KOwn w5 0 (.slice (some ⟨g5, 0, none⟩) ((kf (fun k => fitP k q) ks).length + 1) c5) (kf (fun k => fitP k q) ks ++ [k])) (hg5 : (w4.alloc o).grownBy w5 v3.ownBlock) (hw5 : v3.ownBlock = some g5 ∨ g5 = w4.heap.size + 1) (hlow : (kf (fun k => fitP k q) ks).length < 21) :
    PutY w sb v ks q a now (w5.setCell ⟨sb, 0, none⟩ (.slice (some ⟨g5, 0, none⟩) ((kf (fun k => fitP k q) ks).length + 1) c5)) := by
  have hb4' : Below w3.heap.size w3 w4 := ((Below.refl _ w3).drew).trans (hb4.mono (Nat.le_refl _))
  have hlt := hS3.lt
  have hsz4 : w3.heap.size ≤ w4.heap.size := hb4'.size
  have hT45 : Tn (StS sb v3) w3 w5 := by
    refine ⟨hg5.os.trans hb4'.os, hg5.tape.trans hb4'.tape, hg5.output.trans hb4'.output, Nat.le_trans hsz4 (Nat.le_trans (by simp) hg5.size), fun i hi hn => ?_⟩
    exact (hg5.block i (by rw [World.size_alloc]; omega) (fun e => hn (Or.inr e.symm))).trans ((Below.heap_alloc _ _ _ (by omega)).trans (hb4'.block i hi))
  have hbx5 : w5.heap[sb]? = some (.cells #[v3] 57 (0, 0)) := (hg5.block sb (by rw [World.size_alloc]; omega) (fun e => hS3.self e.symm)).trans ((Below.heap_alloc _ _ _ (by omega)).trans ((hb4'.block sb hlt).trans hS3.box))
  have hgne : g5 ≠ sb := by
    rcases hw5 with e | e
    · exact fun h => hS3.self (by rw [← h]; exact e)
    · omega
  obtain ⟨W6, hW6⟩ : ∃ x, w5.setCell ⟨sb, 0, none⟩ (.slice (some ⟨g5, 0, none⟩) ((kf (fun k => fitP k q) ks).length + 1) c5) = x := ⟨_, rfl⟩
  have hT56 : Tn (fun k => k = sb) w5 W6 := by rw [← hW6]; exact tn_set rfl
  have hbx6 : W6.heap[sb]? = some (.cells #[.slice (some ⟨g5, 0, none⟩) ((kf (fun k => fitP k q) ks).length + 1) c5] 57 (0, 0)) := by rw [← hW6]; exact heap_setCell_same w5 sb 0 _ _ _ hbx5
  have hT36 : Tn (StS sb v3) w3 W6 := hT45.trans' ⟨hT56.os, hT56.tape, hT56.output, hT56.size, fun i hi hn => hT56.block i hi (fun e => hn (Or.inl e))⟩
  have hKn : ∀ b, KpB k b → w3.heap.size ≤ b ∧ b < w4.heap.size := fun b hb => ⟨hO.new b hb, hK.lt hb⟩
  have hrow : ∀ b, v3.ownBlock = some b → b < w3.heap.size := fun b hb => (hS3.own.lt b hb).2
  rw [hW6]
  refine ⟨_, k, ⟨hbx6, ?_, fun k' hk' => ?_, fun k' hk' b hb => ?_, fun e => hgne (Option.some.inj e), by simp; omega⟩, ⟨hO.host, hO.path, ⟨hO.rep.code, hO.rep.fn, hO.rep.bn, hO.rep.FL, hO.rep.B, fun p hp => Nat.le_trans hT3.size (hO.rep.newF p hp), fun p hp => Nat.le_trans hT3.size (hO.rep.newB p hp)⟩, hO.at_, hO.L0, fun b hb => Nat.le_trans hT3.size (hO.new b hb)⟩, hT3.trans' ⟨hT36.os, hT36.tape, hT36.output, hT36.size, fun i hi hn => hT36.block i hi (fun e => hn (hSS i e))⟩, fun b hb => ?_⟩
  · have := kown_tn ho5 hT56 (fun j hj e => hgne ((Option.some.inj hj).trans e))
    show World.ownsRow _ _ _ _ _ _ _
    exact this
  · rcases List.mem_append.1 hk' with h | h
    · exact (hS3.each k' h).tn hT36 (hS3.apart k' h)
    · rw [List.mem_singleton.1 h]
      refine KpIn.blk hK (fun b hb => ?_)
      obtain ⟨h1, h2⟩ := hKn b hb
      exact (hT56.block b (Nat.lt_of_lt_of_le h2 (Nat.le_trans (by simp) hg5.size)) (fun e => by have e' : b = sb := e; omega)).trans ((hg5.block b (by rw [World.size_alloc]; omega) (fun e => by have := hrow b e.symm; omega)).trans (Below.heap_alloc _ _ _ h2))
  · rintro (e | e)
    · rcases List.mem_append.1 hk' with h | h
      · exact hS3.apart k' h b hb (Or.inl e)
      · rw [List.mem_singleton.1 h] at hb
        have := (hKn b hb).1
        omega
    · have e' : g5 = b := Option.some.inj e
      rcases List.mem_append.1 hk' with h | h
      · rcases hw5 with h5 | h5
        · exact hS3.apart k' h b hb (Or.inr (by rw [← e']; exact h5))
        · have := (hS3.each k' h).lt hb
          omega
      · rw [List.mem_singleton.1 h] at hb
        have := hKn b hb
        rcases hw5 with h5 | h5
        · have := hrow g5 h5; omega
        · omega
  · rcases hb with e | e
    · exact Or.inl (Or.inl e)
    · have e' : g5 = b := Option.some.inj e
      rcases hw5 with h5 | h5
      · exact Or.inl (hSS b (Or.inr (by rw [← e']; exact h5)))
      · right
        have := hT3.size
        omega
set_option maxHeartbeats 4000000 in
theorem zput_yes (sb : Nat) (v : Value) (ks : List KpM) (q : RqM) (a : RpM) (now : Int) (w : World) (h : StM w sb v ks) (hq : RqIn w q) (ha : RpIn w a) (hqs : RqS q) (has : RpS a) (hm : QOk w) (hn : 0 ≤ now ∧ now ≤ 1000000)
    (hget : unums q.m = getN) (hcode : a.code = 200) (hlife : 0 < lifeR (fdsOf a.FL)) (hlow : (kf (fun k => fitP k q) ks).length < 20) (hS : OffG (StS sb v)) (hqo : ∀ b, RqB q b → ¬ StS sb v b) (hao : ∀ b, RpB a b → ¬ StS sb v b) :
    Calls Tryz.prog 6 #[.pointer (some ⟨sb, 0, none⟩), q.val, a.val, .int .i64 now] w fun e w' => e = .returned (.tuple #[.bool true, .nilIface]) ∧ PutY w sb v ks q a now w' := by
  obtain ⟨W1, hW1⟩ : ∃ x, (w.alloc (.cells #[.string q.m, .string q.p, .string q.h, .slice q.fa q.fn q.fc, .slice q.ba q.bn q.bc] 36)).alloc (.cells #[.int .i64 a.code, .slice a.fa a.fn a.fc, .slice a.ba a.bn a.bc] 38) = x := ⟨_, rfl⟩
  have hB1 : Below w.heap.size w W1 := by rw [← hW1]; exact ((Below.refl _ w).alloc (Nat.le_refl _) _).alloc (by simp) _
  have hs1 : W1.heap.size = w.heap.size + 2 := by rw [← hW1]; simp
  have hQB : QBx W1 w.heap.size q := QBx.of (t := 36) (by rw [← hW1]; exact (Below.heap_alloc _ _ _ (by simp)).trans (heap_alloc_new w _))
  have hPB : PBx W1 (w.heap.size + 1) a := PBx.of (t := 38) (by
    rw [← hW1]
    have := heap_alloc_new (w.alloc (.cells #[.string q.m, .string q.p, .string q.h, .slice q.fa q.fn q.fc, .slice q.ba q.bn q.bc] 36)) (.cells #[.int .i64 a.code, .slice a.fa a.fn a.fc, .slice a.ba a.bn a.bc] 38 (0, 0))
    rwa [World.size_alloc] at this)
  have HIT := vl (zistime_any now W1)
  rw [decide_eq_true hn] at HIT
  have HLI := vl (zlife_any a.code a.fa a.fn a.fc a.ba a.bn a.bc a.FL W1 (ha.fields.below hB1) (by have := has.fn; omega) ha.each (hm.ld.below hB1))
  have hst1 := h.below hB1
  have HLV := vl (fun W (hb : Below W1.heap.size W1 W) => zleave_any sb v ks _ _ W (hst1.below hb) (prd_fit (S := StS sb v) ((hq.below hB1).below hb) hqs ((hm.below hB1).below hb) (hQB.below hb) hS (fun e => by have := sts_lt h e; omega) hqo))
  have HKE := vl (fun W (hT : Tn (StS sb v) w W) => zkeep_any q a now W (hq.tn hT hqo) (ha.tn hT hao) hqs has (hm.tn hT hS) hn)
  have hgm : q.m.toList = [71, 69, 84] := un_lit.2 hget
  have hlf : ¬ ((lifeR (fdsOf a.FL) : Nat) : Int) = 0 := by omega
  have hlf2 : (((lifeR (fdsOf a.FL) : Nat) : Int) == 0) = false := beq_eq_false_iff_ne.2 hlf
  have HST := vl h
  have HB1 := vl hB1
  have HQB := vl hQB
  have HPB := vl hPB
  have HLOW := vl hlow
  have HS1 := vl hs1
  obtain ⟨c0, c1, c2, c3, c4⟩ := hQB
  obtain ⟨d0, d1, d2⟩ := hPB
  show Calls Tryz.prog 6 #[.pointer (some ⟨sb, 0, none⟩), .agg #[.string q.m, .string q.p, .string q.h, .slice q.fa q.fn q.fc, .slice q.ba q.bn q.bc], .agg #[.int .i64 a.code, .slice a.fa a.fn a.fc, .slice a.ba a.bn a.bc], .int .i64 now] w _
  rw [hcode] at d0 HLI hW1 ⊢
  obtain ⟨lf, hlfe⟩ : ∃ lf, lifeR (fdsOf a.FL) = lf := ⟨_, rfl⟩
  rw [hlfe] at HLI hlf hlf2
  clear h hq ha hqs has hm hget hlife hlow hst1 hB1 hs1 hlfe
  go_enter Tryz.func6, Tryz.ntmps6
  go_wp2_with fail
  refine HIT.out.mono ?_
  rintro _ _ ⟨rfl, rfl⟩
  go_wp2_with fail
  refine HLI.out.mono ?_
  rintro _ w2 ⟨rfl, hb2⟩
  have HLV2 := vl (HLV.out w2 hb2)
  have HB2 := vl hb2
  clear hW1 HIT HLI hb2 HLV c0 c1 c2 c3 c4 d0 d1 d2
  go_wp2_with fail
  refine HLV2.out.mono ?_
  rintro _ w3 ⟨rfl, v3, hS3, hT3, hSS3⟩
  have hTW3 : Tn (StS sb v) w w3 := (Tn.of_below (HB1.out.trans (HB2.out.mono HB1.out.size))).trans' hT3
  have hn0 : ¬ StS sb v w.heap.size := fun e => by have := sts_lt HST.out e; omega
  have hn1 : ¬ StS sb v (w.heap.size + 1) := fun e => by have := sts_lt HST.out e; omega
  have HKE3 := vl (HKE.out w3.drew (hTW3.trans' (Tn.of_below ((Below.refl _ w3).drew))))
  obtain ⟨c0, c1, c2, c3, c4⟩ := (HQB.out.below HB2.out).tn hT3 hn0
  obtain ⟨d0, d1, d2⟩ := (HPB.out.below HB2.out).tn hT3 hn1
  rw [hcode] at d0
  have HS3 := vl hS3
  have HTW := vl hTW3
  have HSS := vl hSS3
  have f0 := hS3.cell
  have HF0 := vl f0
  obtain ⟨va, vn, vc, hv, hvn⟩ : ∃ a n c, v3 = .slice a n c ∧ n = (kf (fun k => fitP k q) ks).length := by
    rcases hS3.shape with ⟨e, e2⟩ | ⟨g, cap, e⟩
    · exact ⟨_, _, _, e, by rw [e2]; rfl⟩
    · exact ⟨_, _, _, e, rfl⟩
  rw [hv] at f0
  unfold RqM.val RpM.val at HKE3
  rw [hcode] at HKE3
  clear hT3 hTW3 hS3 hSS3 HLV2 HKE
  go_upto_region 6 with fail
  go_cut [] (fun wx => PutY w sb v ks q a now wx)
  case first =>
    have HOW := vl (fun W (hb : Below w3.drew.heap.size w3.drew W) => (show KOwn W 0 v3 _ from kown_tn (S := fun _ => False) HS3.out.own (Tn.of_below (((Below.refl _ w3).drew).trans (hb.mono (Nat.le_refl _)))) (fun _ _ e => e)))
    rw [hv] at HOW
    have HBX : Vl (∀ (w4 w5 : World) (o : Obj), Below w3.drew.heap.size w3.drew w4 → (w4.alloc o).grownBy w5 (Value.slice va vn vc).ownBlock → w5.heap[sb]? = some (.cells #[.slice va vn vc] 57 (0, 0))) := vl (fun w4 w5 o hb hg => by
      have h := HS3.out.below (((Below.refl _ w3).drew).trans (hb.mono (Nat.le_refl _)))
      rw [hv] at h
      exact (hg.block sb (by rw [World.size_alloc]; have := h.lt; omega) (fun e => h.self e.symm)).trans ((Below.heap_alloc _ _ _ h.lt).trans h.box))
    have HBC : Vl (∀ w4 : World, Below w3.drew.heap.size w3.drew w4 → w4.cell? ⟨sb, 0, none⟩ = some (.slice va vn vc) ∧ ∀ o, (w4.alloc o).cell? ⟨sb, 0, none⟩ = some (.slice va vn vc)) := vl (fun w4 hb => by
      have h := HS3.out.below (((Below.refl _ w3).drew).trans (hb.mono (Nat.le_refl _)))
      rw [hv] at h
      exact ⟨h.cell, fun o => (World.cell?_of_block (a := ⟨sb, 0, none⟩) (Below.heap_alloc _ _ _ h.lt)).trans h.cell⟩)
    have HVV := vl hv
    have HVN := vl hvn
    clear hv hvn
    go_region_law (first
      | (go_simp; go_at_call 20; refine HKE3.out.mono ?_; rintro e w4 ⟨⟨⟨kh, kp, kva, kvn, kvc, ⟨rc, rfa, rfn, rfc, rba, rbn, rbc, RFL, RB⟩, ka, KV, L0⟩, rfl, hK4, hO4⟩, hb4⟩; obtain ⟨u4, v4⟩ := HBC.out w4 hb4; dsimp only [KpM.val])
      | (refine step_kapp w4 ⟨kh, kp, kva, kvn, kvc, ⟨rc, rfa, rfn, rfc, rba, rbn, rbc, RFL, RB⟩, ka, KV, L0⟩ rfl (.tmp 34) (.tmp 39) rfl (.slice va vn vc) _ (by simp [Act.eval]) (HOW.out w4 hb4) (by simp [Act.eval]) (by have := HLOW.out; omega) ?_; intro g5 c5 w5 ho5 hg5 hw5; have k5 := HBX.out w4 w5 _ hb4 hg5; have z5 : w5.cell? ⟨sb, 0, none⟩ = some (.slice va vn vc) := (cell_of_row _ _ _ _ _ _ k5).trans rfl; have y5 : ∀ j, w5.frozen? ⟨sb, j, none⟩ = false := fun j => frozen_of_row w5 sb j _ _ k5))
    all_goals
      have HPY := vl (put_fin (v3 := .slice va vn vc) (HVV.out ▸ HS3.out) HTW.out (HVV.out ▸ HSS.out) hK4 hO4 hb4 ho5 hg5 hw5 (by have := HLOW.out; omega))
      clear hK4 hO4 hb4 ho5 hg5 hw5 k5 z5 y5 u4 v4
      go_wp2_with fail
      go_meet
      exact HPY.out
  case rest =>
    obtain ⟨v7, k7, hS7, hO7, hT7, hN7⟩ := hcut
    have z7 := hS7.cell
    obtain ⟨ua, un, uc, hu, hun⟩ : ∃ a n c, v7 = .slice a n c ∧ n = (kf (fun k => fitP k q) ks ++ [k7]).length := by
      rcases hS7.shape with ⟨e, e2⟩ | ⟨g, cap, e⟩
      · exact ⟨_, _, _, e, by rw [e2]; rfl⟩
      · exact ⟨_, _, _, e, rfl⟩
    rw [hu] at z7
    have hunl : ¬ (20 : Int) < (un : Int) := by
      have := HLOW.out
      rw [hun, List.length_append]
      simp
      omega
    have HPY : Vl (PutY w sb v ks q a now wc) := vl ⟨v7, k7, hS7, hO7, hT7, hN7⟩
    clear hS7 hO7 hT7 hN7 hu hun
    go_wp2_with fail
    go_returns
    exact ⟨rfl, HPY.out⟩
end Go.Proofs.YtibipnipeaeonaaGreatDoor
/-
  WHAT WAS ANSWERED: the developers' Put, where a reply is not kept. No claim by itself.
-/
namespace Go.Proofs.YtibipnipeaeonaaGreatDoor
open Go Go.RowKit
set_option maxRecDepth 100000
set_option maxHeartbeats 4000000 in
theorem zput_no (sb : Nat) (q : RqM) (a : RpM) (now : Int) (w : World) (ha : RpIn w a) (has : RpS a) (hm : QOk w) (hn : 0 ≤ now ∧ now ≤ 1000000)
    (hno : ¬ (unums q.m = getN ∧ a.code = 200 ∧ 0 < lifeR (fdsOf a.FL))) :
    Calls Tryz.prog 6 #[.pointer (some ⟨sb, 0, none⟩), q.val, a.val, .int .i64 now] w fun e w' => e = .returned (.tuple #[.bool false, .nilIface]) ∧ Below w.heap.size w w' := by
  obtain ⟨W1, hW1⟩ : ∃ x, (w.alloc (.cells #[.string q.m, .string q.p, .string q.h, .slice q.fa q.fn q.fc, .slice q.ba q.bn q.bc] 36)).alloc (.cells #[.int .i64 a.code, .slice a.fa a.fn a.fc, .slice a.ba a.bn a.bc] 38) = x := ⟨_, rfl⟩
  have hB1 : Below w.heap.size w W1 := by rw [← hW1]; exact ((Below.refl _ w).alloc (Nat.le_refl _) _).alloc (by simp) _
  have hQB : QBx W1 w.heap.size q := QBx.of (t := 36) (by rw [← hW1]; exact (Below.heap_alloc _ _ _ (by simp)).trans (heap_alloc_new w _))
  have hPB : PBx W1 (w.heap.size + 1) a := PBx.of (t := 38) (by
    rw [← hW1]
    have := heap_alloc_new (w.alloc (.cells #[.string q.m, .string q.p, .string q.h, .slice q.fa q.fn q.fc, .slice q.ba q.bn q.bc] 36)) (.cells #[.int .i64 a.code, .slice a.fa a.fn a.fc, .slice a.ba a.bn a.bc] 38 (0, 0))
    rwa [World.size_alloc] at this)
  have HIT := vl (zistime_any now W1)
  rw [decide_eq_true hn] at HIT
  have HLI := vl (zlife_any a.code a.fa a.fn a.fc a.ba a.bn a.bc a.FL W1 (ha.fields.below hB1) (by have := has.fn; omega) ha.each (hm.ld.below hB1))
  have HB1 := vl hB1
  obtain ⟨c0, c1, c2, c3, c4⟩ := hQB
  obtain ⟨d0, d1, d2⟩ := hPB
  show Calls Tryz.prog 6 #[.pointer (some ⟨sb, 0, none⟩), .agg #[.string q.m, .string q.p, .string q.h, .slice q.fa q.fn q.fc, .slice q.ba q.bn q.bc], .agg #[.int .i64 a.code, .slice a.fa a.fn a.fc, .slice a.ba a.bn a.bc], .int .i64 now] w _
  clear ha has hm hB1
  by_cases hget : unums q.m = getN
  · have hgm : q.m.toList = [71, 69, 84] := un_lit.2 hget
    by_cases hcode : a.code = 200
    · have hl0 : lifeR (fdsOf a.FL) = 0 := by
        rcases Nat.eq_zero_or_pos (lifeR (fdsOf a.FL)) with h | h
        · exact h
        · exact absurd ⟨hget, hcode, h⟩ hno
      rw [hl0] at HLI
      rw [hcode] at d0 HLI hW1 ⊢
      clear hno hget hcode hl0
      go_enter Tryz.func6, Tryz.ntmps6
      go_wp2_with fail
      refine HIT.out.mono ?_
      rintro _ _ ⟨rfl, rfl⟩
      go_wp2_with fail
      refine HLI.out.mono ?_
      rintro _ w2 ⟨rfl, hb2⟩
      have HB2 := vl (HB1.out.trans (hb2.mono HB1.out.size))
      clear hW1 HIT HLI hb2 c0 c1 c2 c3 c4 d0 d1 d2
      go_wp2_with fail
      go_ret2
      exact ⟨rfl, HB2.out⟩
    · have hc' : (a.code == 200) = false := beq_eq_false_iff_ne.2 hcode
      clear hno hget HLI
      go_enter Tryz.func6, Tryz.ntmps6
      go_wp2_with fail
      refine HIT.out.mono ?_
      rintro _ _ ⟨rfl, rfl⟩
      go_wp2_with fail
      clear c0 c1 c2 c3 c4 d0 d1 d2
      go_ret2
      exact ⟨rfl, HB1.out⟩
  · have hgm : ¬ q.m.toList = [71, 69, 84] := fun h => hget (un_lit.1 h)
    have hgm' : (q.m.toList == [71, 69, 84]) = false := beq_eq_false_iff_ne.2 hgm
    clear hno hget HLI
    go_enter Tryz.func6, Tryz.ntmps6
    go_wp2_with fail
    refine HIT.out.mono ?_
    rintro _ _ ⟨rfl, rfl⟩
    go_wp2_with fail
    clear c0 c1 c2 c3 c4 d0 d1 d2
    go_ret2
    exact ⟨rfl, HB1.out⟩
end Go.Proofs.YtibipnipeaeonaaGreatDoor
/-
  WHAT WAS ANSWERED: slices.Delete of the first kept reply of a full row. No claim by itself.
-/
namespace Go.Proofs.YtibipnipeaeonaaGreatDoor
open Go Go.RowKit
set_option maxRecDepth 100000
theorem kd_info : (Tryz.prog.info? 63).map (fun i => (i.zero, i.size, i.bytes)) = some (some (.agg #[.string ⟨#[]⟩, .string ⟨#[]⟩, .slice none 0 0, .int .i64 0, .slice none 0 0, .slice none 0 0, .int .i64 0]), 7, 120) := by kernel_rfl
/-- 'clear(s)' of one kept reply. -/
theorem run_clear_k (w : World) (ty : TypeId) (g o c : Nat) (cur : Array Value) (t : TypeId) (hg : w.heap[g]? = some (.cells cur t (0, 0))) (hfit : o + 7 ≤ cur.size) :
    ∃ zs : List Value, zs.length = 7 ∧ (Builtin.clear_ #[55] ty #[.slice (some ⟨g, o, none⟩) 1 c]).run Tryz.prog w = .ok (.tuple #[]) (w.setRow g (cur.toList.take o ++ zs ++ cur.toList.drop (o + zs.length)).toArray) := by
  obtain ⟨i0, hi, hz0, _, _⟩ := info_parts kd_info
  have hz : ∀ w, (zeroValue 63).run Tryz.prog w = .ok (.agg #[.string ⟨#[]⟩, .string ⟨#[]⟩, .slice none 0 0, .int .i64 0, .slice none 0 0, .slice none 0 0, .int .i64 0]) w := by
    intro w
    simp [zeroValue, typeInfo, hi, hz0]
  obtain ⟨zs, hzs⟩ : ∃ zs, zs = (Builtin.zeroCells (Value.agg #[.string ⟨#[]⟩, .string ⟨#[]⟩, .slice none 0 0, .int .i64 0, .slice none 0 0, .slice none 0 0, .int .i64 0]).cells 1).toList := ⟨_, rfl⟩
  have hl : zs.length = 7 := by rw [hzs]; simp [Builtin.zeroCells, Value.cells]
  have h1 : ∀ v ∈ zs, v.oneCell' = true := by
    intro v hv
    rw [hzs] at hv
    simp [Builtin.zeroCells, Value.cells] at hv
    obtain ⟨i, hi7, rfl⟩ := hv
    match i, hi7 with
    | 0, _ => rfl
    | 1, _ => rfl
    | 2, _ => rfl
    | 3, _ => rfl
    | 4, _ => rfl
    | 5, _ => rfl
    | 6, _ => rfl
  have hst := run_storeCells_at Tryz.prog g o t zs 0 cur w hg (by omega) h1
  refine ⟨zs, hl, ?_⟩
  simp only [Nat.add_zero] at hst
  simp [Builtin.clear_, run_underlying Tryz.underlying55, hz, ← hzs, hst]
theorem kcells_one (D : List KpM) : ∀ u ∈ kcells D, u.oneCell' = true := by
  intro u hu
  unfold kcells at hu
  obtain ⟨k, _, hk⟩ := List.mem_flatMap.1 hu
  simp only [KpM.cells, List.mem_cons, List.not_mem_nil, or_false] at hk
  rcases hk with rfl | rfl | rfl | rfl | rfl | rfl | rfl <;> rfl
/-- Cells of a row, stored one by one. -/
theorem sc_heap (g : Nat) (t : TypeId) : ∀ (vs : List Value) (o : Nat) (w : World) (cur : Array Value), w.heap[g]? = some (.cells cur t (0, 0)) → o + vs.length ≤ cur.size →
    ∃ cur' : Array Value, (w.setCells g o vs).heap[g]? = some (.cells cur' t (0, 0)) ∧ cur'.size = cur.size ∧ (∀ j, j < vs.length → cur'[o + j]? = vs[j]?) ∧ (∀ j, (j < o ∨ o + vs.length ≤ j) → cur'[j]? = cur[j]?) ∧ Tn (fun k => k = g) w (w.setCells g o vs) ∧ (w.setCells g o vs).heap.size = w.heap.size
  | [], o, w, cur, hg, _ => ⟨cur, hg, rfl, fun j hj => by simp at hj, fun j _ => rfl, Tn.refl _ _, rfl⟩
  | v :: r, o, w, cur, hg, hf => by
    have hs := heap_setCell_same w g o cur t v hg
    rw [List.length_cons] at hf
    obtain ⟨cur', h1, h2, h3, h4, h5, h6⟩ := sc_heap g t r (o + 1) (w.setCell ⟨g, o, none⟩ v) _ hs (by simp; omega)
    have hT : Tn (fun k => k = g) w (w.setCell ⟨g, o, none⟩ v) := tn_set rfl
    refine ⟨cur', h1, by rw [h2]; simp, fun j hj => ?_, fun j hj => ?_, hT.trans' h5, h6.trans (by simp)⟩
    · match j with
      | 0 =>
        rw [Nat.add_zero, h4 o (Or.inl (by omega))]
        simp [show o < cur.size by omega]
      | j + 1 =>
        rw [show o + (j + 1) = o + 1 + j by omega, h3 j (by simpa using hj)]
        rfl
    · rw [h4 j (by rw [List.length_cons] at hj; omega)]
      have : o ≠ j := by rw [List.length_cons] at hj; omega
      simp [this]
set_option maxHeartbeats 4000000 in
theorem zdel_first (g cap base : Nat) (k0 : KpM) (D : List KpM) (w : World) (hD : D.length = 20) (hown : KOwn w base (.slice (some ⟨g, 0, none⟩) 21 cap) (k0 :: D)) :
    Calls Tryz.prog 21 #[.slice (some ⟨g, 0, none⟩) 21 cap, .int .i64 0, .int .i64 1] w fun e w' => e = .returned (.slice (some ⟨g, 0, none⟩) 20 cap) ∧ KOwn w' base (.slice (some ⟨g, 0, none⟩) 20 cap) D ∧ Tn (fun k => k = g) w w' ∧ w'.heap.size = w.heap.size := by
  obtain ⟨i0, hi, hz0, hz1, hz2⟩ := info_parts kd_info
  have hlen : (k0 :: D).length = 21 := by rw [List.length_cons, hD]
  rcases hown.2 with ⟨hv, _⟩ | ⟨g', cap', cur, hv, hbase, hg, r1, r2, r3, r4⟩
  · cases hv
  obtain ⟨rfl, _, rfl⟩ : g = g' ∧ D.length = 20 ∧ cap = cap' := by simpa using hv
  rw [hlen] at r1 r4
  have hc1 : (k0 :: D).length * 7 ≤ cur.size := by omega
  have hkc : kcells (k0 :: D) = k0.cells ++ kcells D := by simp [kcells]
  have hk0 : k0.cells.length = 7 := rfl
  have hkD : (kcells D).length = 140 := by rw [kcells_len, hD]
  have hcell : ∀ j u, (kcells D)[j]? = some u → w.drew.cell? ⟨g, 7 + j, none⟩ = some u := by
    intro j u hj
    have hjl : j < 140 := by rw [← hkD]; exact (List.getElem?_eq_some_iff.1 hj).1
    have hgd : w.drew.heap[g]? = some (.cells cur 63 (0, 0)) := hg
    rw [cell_of_row _ _ _ _ _ _ hgd]
    have h1 : (cur.toList.take (21 * 7))[7 + j]? = some u := by
      rw [r4, hkc, List.getElem?_append_right (by omega), hk0, Nat.add_sub_cancel_left]
      exact hj
    rw [List.getElem?_take, if_pos (by omega), Array.getElem?_toList] at h1
    exact h1
  have hspare : ∀ j, j < 140 → (w.drew.cell? ⟨g, j, none⟩).isSome = true ∧ w.drew.frozen? ⟨g, j, none⟩ = false := by
    intro j hj
    have hgd : w.drew.heap[g]? = some (.cells cur 63 (0, 0)) := hg
    rw [cell_of_row _ _ _ _ _ _ hgd]
    refine ⟨?_, frozen_of_row w.drew g j cur _ hgd⟩
    rw [Array.getElem?_eq_getElem (show j < cur.size by omega)]
    rfl
  have hgd : w.drew.heap[g]? = some (.cells cur 63 (0, 0)) := hg
  obtain ⟨cur1, s1, s2, s3, s4, s5, s6⟩ := sc_heap g 63 (kcells D) 0 w.drew cur hgd (by omega)
  obtain ⟨W2, hW2⟩ : ∃ W2, w.drew.setCells g 0 (kcells D) = W2 := ⟨_, rfl⟩
  rw [hW2] at s1 s5 s6
  obtain ⟨zs, hzl, hcl⟩ : ∃ zs : List Value, zs.length = 7 ∧ ∀ ty, (Builtin.clear_ #[55] ty #[.slice (some ⟨g, 140, none⟩) 1 (cap - 20)]).run Tryz.prog W2 = .ok (.tuple #[]) (W2.setRow g (cur1.toList.take 140 ++ zs ++ cur1.toList.drop (140 + zs.length)).toArray) := by
    obtain ⟨zs, h1, h2⟩ := run_clear_k W2 0 g 140 (cap - 20) cur1 _ s1 (by omega)
    exact ⟨zs, h1, fun ty => h2⟩
  have hcap := r2
  unfold maxLen at hcap
  have HS1 := vl s1
  have HFIN : Vl (KOwn (W2.setRow g (cur1.toList.take 140 ++ zs ++ cur1.toList.drop (140 + zs.length)).toArray) base (.slice (some ⟨g, 0, none⟩) 20 cap) D ∧ Tn (fun k => k = g) w (W2.setRow g (cur1.toList.take 140 ++ zs ++ cur1.toList.drop (140 + zs.length)).toArray) ∧ (W2.setRow g (cur1.toList.take 140 ++ zs ++ cur1.toList.drop (140 + zs.length)).toArray).heap.size = w.heap.size) := vl (by
    have hr := setRow_heap W2 g cur1 (cur1.toList.take 140 ++ zs ++ cur1.toList.drop (140 + zs.length)).toArray 63 (0, 0) s1
    have hTd : Tn (fun k => k = g) w w.drew := Tn.of_below ((Below.refl _ w).drew)
    refine ⟨?_, ?_, by rw [size_setRow, s6]; rfl⟩
    · show World.ownsRow _ _ _ _ _ _ _
      rw [hD]
      refine ⟨by rw [hkD], Or.inr ⟨g, cap, _, rfl, hbase, hr, by omega, r2, ?_, ?_⟩⟩
      · simp only [List.size_toArray, List.length_append, List.length_take, List.length_drop, Array.length_toList, hzl]
        omega
      · show List.take (20 * 7) (cur1.toList.take 140 ++ zs ++ cur1.toList.drop (140 + zs.length)) = _
        rw [List.append_assoc, List.take_append_of_le_length (by rw [List.length_take, Array.length_toList]; omega), List.take_take]
        refine List.ext_getElem? fun j => ?_
        by_cases hj : j < 140
        · rw [List.getElem?_take, if_pos (by omega), Array.getElem?_toList, ← s3 j (by rw [hkD]; exact hj), Nat.zero_add]
        · rw [List.getElem?_take, if_neg (by omega), List.getElem?_eq_none (by rw [hkD]; omega)]
    · refine (hTd.trans' s5).trans' ⟨rfl, rfl, rfl, by rw [size_setRow]; exact Nat.le_refl _, fun k _ hk => setRow_other W2 g k _ hk⟩)
  obtain ⟨CX, hCX⟩ : ∃ CX, (cur1.toList.take 140 ++ zs ++ cur1.toList.drop (140 + zs.length)).toArray = CX := ⟨_, rfl⟩
  simp only [hCX] at hcl
  rw [hCX] at HFIN
  clear hCX
  have hsp : ∀ j, j < (kcells D).length → (w.drew.cell? ⟨g, 0 + 0 * 7 + j, none⟩).isSome = true ∧ w.drew.frozen? ⟨g, 0 + 0 * 7 + j, none⟩ = false := fun j hj => by
    rw [show 0 + 0 * 7 + j = j by omega]
    exact hspare j (by rw [← hkD]; exact hj)
  have HCE := vl hcell
  have HSP := vl hsp
  have HW2 := vl hW2
  have hcn : ¬ cap = 1 := by omega
  have hcm : 21 ≤ cap := r1
  clear hown hv hbase hg r3 r4 hlen hc1 hkc hk0 hcell hspare hsp hgd s1 s2 s3 s4 s5 s6 hW2
  go_enter Tryz.func21, Tryz.ntmps21
  go_wp2_with fail
  go_region_law (refine step_append_room rfl (.tmp 22) (.tmp 25) 55 rfl 63 i0 7 Tryz.underlying55 hi hz1 g 0 0 cap (by simp [Act.eval, Act.put]) ⟨g, 7, none⟩ 20 (cap - 1) (kcells D) (by simp [Act.eval, Act.put]) (by rw [hkD]) (fun j u h => by rw [n_add]; exact HCE.out j u h) (kcells_one D) (by omega) HSP.out ?_)
  go_simp
  rw [HW2.out]
  go_wp2_with fail
  go_ret
  exact ⟨rfl, HFIN.out⟩
end Go.Proofs.YtibipnipeaeonaaGreatDoor
/-
  WHAT WAS ANSWERED: the developers' Put, where a reply is kept and twenty are there. No claim by itself.
-/
namespace Go.Proofs.YtibipnipeaeonaaGreatDoor
open Go Go.RowKit
set_option maxRecDepth 100000
def PutF (w : World) (sb : Nat) (v : Value) (ks : List KpM) (q : RqM) (a : RpM) (now : Int) (w' : World) : Prop :=
  ∃ v' k k0 D, kf (fun k => fitP k q) ks ++ [k] = k0 :: D ∧ StM w' sb v' D ∧ KeptOf w q a now k ∧ Tn (StS sb v) w w' ∧ ∀ b, StS sb v' b → StS sb v b ∨ w.heap.size ≤ b
set_option maxHeartbeats 4000000 in
theorem zput_full (sb : Nat) (v : Value) (ks : List KpM) (q : RqM) (a : RpM) (now : Int) (w : World) (h : StM w sb v ks) (hq : RqIn w q) (ha : RpIn w a) (hqs : RqS q) (has : RpS a) (hm : QOk w) (hn : 0 ≤ now ∧ now ≤ 1000000)
    (hget : unums q.m = getN) (hcode : a.code = 200) (hlife : 0 < lifeR (fdsOf a.FL)) (hlow : (kf (fun k => fitP k q) ks).length = 20) (hS : OffG (StS sb v)) (hqo : ∀ b, RqB q b → ¬ StS sb v b) (hao : ∀ b, RpB a b → ¬ StS sb v b) :
    Calls Tryz.prog 6 #[.pointer (some ⟨sb, 0, none⟩), q.val, a.val, .int .i64 now] w fun e w' => e = .returned (.tuple #[.bool true, .nilIface]) ∧ PutF w sb v ks q a now w' := by
  obtain ⟨W1, hW1⟩ : ∃ x, (w.alloc (.cells #[.string q.m, .string q.p, .string q.h, .slice q.fa q.fn q.fc, .slice q.ba q.bn q.bc] 36)).alloc (.cells #[.int .i64 a.code, .slice a.fa a.fn a.fc, .slice a.ba a.bn a.bc] 38) = x := ⟨_, rfl⟩
  have hB1 : Below w.heap.size w W1 := by rw [← hW1]; exact ((Below.refl _ w).alloc (Nat.le_refl _) _).alloc (by simp) _
  have hs1 : W1.heap.size = w.heap.size + 2 := by rw [← hW1]; simp
  have hQB : QBx W1 w.heap.size q := QBx.of (t := 36) (by rw [← hW1]; exact (Below.heap_alloc _ _ _ (by simp)).trans (heap_alloc_new w _))
  have hPB : PBx W1 (w.heap.size + 1) a := PBx.of (t := 38) (by
    rw [← hW1]
    have := heap_alloc_new (w.alloc (.cells #[.string q.m, .string q.p, .string q.h, .slice q.fa q.fn q.fc, .slice q.ba q.bn q.bc] 36)) (.cells #[.int .i64 a.code, .slice a.fa a.fn a.fc, .slice a.ba a.bn a.bc] 38 (0, 0))
    rwa [World.size_alloc] at this)
  have HIT := vl (zistime_any now W1)
  rw [decide_eq_true hn] at HIT
  have HLI := vl (zlife_any a.code a.fa a.fn a.fc a.ba a.bn a.bc a.FL W1 (ha.fields.below hB1) (by have := has.fn; omega) ha.each (hm.ld.below hB1))
  have hst1 := h.below hB1
  have HLV := vl (fun W (hb : Below W1.heap.size W1 W) => zleave_any sb v ks _ _ W (hst1.below hb) (prd_fit (S := StS sb v) ((hq.below hB1).below hb) hqs ((hm.below hB1).below hb) (hQB.below hb) hS (fun e => by have := sts_lt h e; omega) hqo))
  have HKE := vl (fun W (hT : Tn (StS sb v) w W) => zkeep_any q a now W (hq.tn hT hqo) (ha.tn hT hao) hqs has (hm.tn hT hS) hn)
  have hgm : q.m.toList = [71, 69, 84] := un_lit.2 hget
  have hlf : ¬ ((lifeR (fdsOf a.FL) : Nat) : Int) = 0 := by omega
  have hlf2 : (((lifeR (fdsOf a.FL) : Nat) : Int) == 0) = false := beq_eq_false_iff_ne.2 hlf
  have HST := vl h
  have HB1 := vl hB1
  have HQB := vl hQB
  have HPB := vl hPB
  have HLOW := vl hlow
  have HS1 := vl hs1
  obtain ⟨c0, c1, c2, c3, c4⟩ := hQB
  obtain ⟨d0, d1, d2⟩ := hPB
  show Calls Tryz.prog 6 #[.pointer (some ⟨sb, 0, none⟩), .agg #[.string q.m, .string q.p, .string q.h, .slice q.fa q.fn q.fc, .slice q.ba q.bn q.bc], .agg #[.int .i64 a.code, .slice a.fa a.fn a.fc, .slice a.ba a.bn a.bc], .int .i64 now] w _
  rw [hcode] at d0 HLI hW1 ⊢
  obtain ⟨lf, hlfe⟩ : ∃ lf, lifeR (fdsOf a.FL) = lf := ⟨_, rfl⟩
  rw [hlfe] at HLI hlf hlf2
  clear h hq ha hqs has hm hget hlife hlow hst1 hB1 hs1 hlfe
  go_enter Tryz.func6, Tryz.ntmps6
  go_wp2_with fail
  refine HIT.out.mono ?_
  rintro _ _ ⟨rfl, rfl⟩
  go_wp2_with fail
  refine HLI.out.mono ?_
  rintro _ w2 ⟨rfl, hb2⟩
  have HLV2 := vl (HLV.out w2 hb2)
  have HB2 := vl hb2
  clear hW1 HIT HLI hb2 HLV c0 c1 c2 c3 c4 d0 d1 d2
  go_wp2_with fail
  refine HLV2.out.mono ?_
  rintro _ w3 ⟨rfl, v3, hS3, hT3, hSS3⟩
  have hTW3 : Tn (StS sb v) w w3 := (Tn.of_below (HB1.out.trans (HB2.out.mono HB1.out.size))).trans' hT3
  have hn0 : ¬ StS sb v w.heap.size := fun e => by have := sts_lt HST.out e; omega
  have hn1 : ¬ StS sb v (w.heap.size + 1) := fun e => by have := sts_lt HST.out e; omega
  have HKE3 := vl (HKE.out w3.drew (hTW3.trans' (Tn.of_below ((Below.refl _ w3).drew))))
  obtain ⟨c0, c1, c2, c3, c4⟩ := (HQB.out.below HB2.out).tn hT3 hn0
  obtain ⟨d0, d1, d2⟩ := (HPB.out.below HB2.out).tn hT3 hn1
  rw [hcode] at d0
  have HS3 := vl hS3
  have HTW := vl hTW3
  have HSS := vl hSS3
  have f0 := hS3.cell
  have HF0 := vl f0
  obtain ⟨va, vn, vc, hv, hvn⟩ : ∃ a n c, v3 = .slice a n c ∧ n = (kf (fun k => fitP k q) ks).length := by
    rcases hS3.shape with ⟨e, e2⟩ | ⟨g, cap, e⟩
    · exact ⟨_, _, _, e, by rw [e2]; rfl⟩
    · exact ⟨_, _, _, e, rfl⟩
  rw [hv] at f0
  unfold RqM.val RpM.val at HKE3
  rw [hcode] at HKE3
  clear hT3 hTW3 hS3 hSS3 HLV2 HKE
  go_upto_region 6 with fail
  go_cut [] (fun wx => PutY w sb v ks q a now wx)
  case first =>
    have HOW := vl (fun W (hb : Below w3.drew.heap.size w3.drew W) => (show KOwn W 0 v3 _ from kown_tn (S := fun _ => False) HS3.out.own (Tn.of_below (((Below.refl _ w3).drew).trans (hb.mono (Nat.le_refl _)))) (fun _ _ e => e)))
    rw [hv] at HOW
    have HBX : Vl (∀ (w4 w5 : World) (o : Obj), Below w3.drew.heap.size w3.drew w4 → (w4.alloc o).grownBy w5 (Value.slice va vn vc).ownBlock → w5.heap[sb]? = some (.cells #[.slice va vn vc] 57 (0, 0))) := vl (fun w4 w5 o hb hg => by
      have h := HS3.out.below (((Below.refl _ w3).drew).trans (hb.mono (Nat.le_refl _)))
      rw [hv] at h
      exact (hg.block sb (by rw [World.size_alloc]; have := h.lt; omega) (fun e => h.self e.symm)).trans ((Below.heap_alloc _ _ _ h.lt).trans h.box))
    have HBC : Vl (∀ w4 : World, Below w3.drew.heap.size w3.drew w4 → w4.cell? ⟨sb, 0, none⟩ = some (.slice va vn vc) ∧ ∀ o, (w4.alloc o).cell? ⟨sb, 0, none⟩ = some (.slice va vn vc)) := vl (fun w4 hb => by
      have h := HS3.out.below (((Below.refl _ w3).drew).trans (hb.mono (Nat.le_refl _)))
      rw [hv] at h
      exact ⟨h.cell, fun o => (World.cell?_of_block (a := ⟨sb, 0, none⟩) (Below.heap_alloc _ _ _ h.lt)).trans h.cell⟩)
    have HVV := vl hv
    have HVN := vl hvn
    clear hv hvn
    go_region_law (first
      | (go_simp; go_at_call 20; refine HKE3.out.mono ?_; rintro e w4 ⟨⟨⟨kh, kp, kva, kvn, kvc, ⟨rc, rfa, rfn, rfc, rba, rbn, rbc, RFL, RB⟩, ka, KV, L0⟩, rfl, hK4, hO4⟩, hb4⟩; obtain ⟨u4, v4⟩ := HBC.out w4 hb4; dsimp only [KpM.val])
      | (refine step_kapp w4 ⟨kh, kp, kva, kvn, kvc, ⟨rc, rfa, rfn, rfc, rba, rbn, rbc, RFL, RB⟩, ka, KV, L0⟩ rfl (.tmp 34) (.tmp 39) rfl (.slice va vn vc) _ (by simp [Act.eval]) (HOW.out w4 hb4) (by simp [Act.eval]) (by have := HLOW.out; omega) ?_; intro g5 c5 w5 ho5 hg5 hw5; have k5 := HBX.out w4 w5 _ hb4 hg5; have z5 : w5.cell? ⟨sb, 0, none⟩ = some (.slice va vn vc) := (cell_of_row _ _ _ _ _ _ k5).trans rfl; have y5 : ∀ j, w5.frozen? ⟨sb, j, none⟩ = false := fun j => frozen_of_row w5 sb j _ _ k5))
    all_goals
      have HPY := vl (put_fin (v3 := .slice va vn vc) (HVV.out ▸ HS3.out) HTW.out (HVV.out ▸ HSS.out) hK4 hO4 hb4 ho5 hg5 hw5 (by have := HLOW.out; omega))
      clear hK4 hO4 hb4 ho5 hg5 hw5 k5 z5 y5 u4 v4
      go_wp2_with fail
      go_meet
      exact HPY.out
  case rest =>
    obtain ⟨v7, k7, hS7, hO7, hT7, hN7⟩ := hcut
    have hl21 : (kf (fun k => fitP k q) ks ++ [k7]).length = 21 := by rw [List.length_append, HLOW.out]; rfl
    obtain ⟨k0, D, hkD⟩ : ∃ k0 D, kf (fun k => fitP k q) ks ++ [k7] = k0 :: D := by
      match h : kf (fun k => fitP k q) ks ++ [k7] with
      | [] => rw [h] at hl21; simp at hl21
      | k0 :: D => exact ⟨k0, D, rfl⟩
    have hD : D.length = 20 := by rw [hkD] at hl21; simpa using hl21
    obtain ⟨g7, c7, hv7⟩ : ∃ g c, v7 = .slice (some ⟨g, 0, none⟩) 21 c := by
      rcases hS7.shape with ⟨_, e2⟩ | ⟨g, cap, e⟩
      · rw [e2] at hl21; simp at hl21
      · exact ⟨g, cap, by rw [e, hl21]⟩
    rw [hkD] at hS7
    subst hv7
    have z7 := hS7.cell
    have HDL := vl (zdel_first g7 c7 0 k0 D wc hD hS7.own)
    have HPF : Vl (∀ w8, KOwn w8 0 (.slice (some ⟨g7, 0, none⟩) 20 c7) D → Tn (fun k => k = g7) wc w8 → PutF w sb v ks q a now (w8.setCell ⟨sb, 0, none⟩ (.slice (some ⟨g7, 0, none⟩) 20 c7)) ∧ w8.heap[sb]? = some (.cells #[.slice (some ⟨g7, 0, none⟩) 21 c7] 57 (0, 0))) := vl (fun w8 h8 ht8 => by
      have hgs : g7 ≠ sb := fun e => hS7.self (by rw [← e]; rfl)
      have hbx8 : w8.heap[sb]? = some (.cells #[.slice (some ⟨g7, 0, none⟩) 21 c7] 57 (0, 0)) := (ht8.block sb hS7.lt (fun e => hgs e.symm)).trans hS7.box
      refine ⟨?_, hbx8⟩
      obtain ⟨W9, hW9⟩ : ∃ x, w8.setCell ⟨sb, 0, none⟩ (.slice (some ⟨g7, 0, none⟩) 20 c7) = x := ⟨_, rfl⟩
      rw [hW9]
      have hT89 : Tn (fun k => k = sb) w8 W9 := by rw [← hW9]; exact tn_set rfl
      have hbx9 : W9.heap[sb]? = some (.cells #[.slice (some ⟨g7, 0, none⟩) 20 c7] 57 (0, 0)) := by rw [← hW9]; exact heap_setCell_same w8 sb 0 _ _ _ hbx8
      have hST : ∀ b, (b = sb ∨ b = g7) → StS sb (.slice (some ⟨g7, 0, none⟩) 21 c7) b := fun b h => h.elim Or.inl (fun e => Or.inr (by rw [e]; rfl))
      have hT79 : Tn (StS sb (.slice (some ⟨g7, 0, none⟩) 21 c7)) wc W9 := Tn.trans' ⟨ht8.os, ht8.tape, ht8.output, ht8.size, fun i hi hn => ht8.block i hi (fun e => hn (hST i (Or.inr e)))⟩ ⟨hT89.os, hT89.tape, hT89.output, hT89.size, fun i hi hn => hT89.block i hi (fun e => hn (hST i (Or.inl e)))⟩
      have hTW9 : Tn (StS sb v) w W9 := ⟨hT79.os.trans hT7.os, hT79.tape.trans hT7.tape, hT79.output.trans hT7.output, Nat.le_trans hT7.size hT79.size, fun i hi hn => (hT79.block i (Nat.lt_of_lt_of_le hi hT7.size) (fun e => (hN7 i e).elim hn (fun h => by omega))).trans (hT7.block i hi hn)⟩
      refine ⟨.slice (some ⟨g7, 0, none⟩) 20 c7, k7, k0, D, hkD, ⟨hbx9, ?_, fun k' hk' => ?_, fun k' hk' b hb => ?_, fun e => hgs (Option.some.inj e), by omega⟩, hO7, hTW9, fun b hb => ?_⟩
      · rw [show Value.slice (some ⟨g7, 0, none⟩) 20 c7 = .slice (some ⟨g7, 0, none⟩) 20 c7 from rfl]
        exact kown_tn h8 hT89 (fun j hj e => hgs ((Option.some.inj hj).trans e))
      · exact (hS7.each k' (List.mem_cons_of_mem _ hk')).tn hT79 (hS7.apart k' (List.mem_cons_of_mem _ hk'))
      · rintro (e | e)
        · exact hS7.apart k' (List.mem_cons_of_mem _ hk') b hb (Or.inl e)
        · exact hS7.apart k' (List.mem_cons_of_mem _ hk') b hb (Or.inr e)
      · rcases hb with e | e
        · exact hN7 b (Or.inl e)
        · exact hN7 b (Or.inr e))
    clear hS7 hO7 hT7 hN7 hkD hD hl21
    go_wp2_with fail
    refine HDL.out.mono ?_
    rintro _ w8 ⟨rfl, hk8, ht8, _⟩
    obtain ⟨hpf, hbx8⟩ := HPF.out w8 hk8 ht8
    have HPF2 := vl hpf
    have z8 : w8.cell? ⟨sb, 0, none⟩ = some (.slice (some ⟨g7, 0, none⟩) 21 c7) := (cell_of_row _ _ _ _ _ _ hbx8).trans rfl
    have f8 : w8.frozen? ⟨sb, 0, none⟩ = false := frozen_of_row w8 sb 0 _ _ hbx8
    clear hk8 ht8 hpf hbx8 HPF HDL z7
    go_wp2_with fail
    go_returns
    exact ⟨rfl, HPF2.out⟩
end Go.Proofs.YtibipnipeaeonaaGreatDoor
