/-
  WHAT WAS ANSWERED: the developers' Get, of another method than GET. No claim by itself.
-/
import Derived.Test.YtibipnipeaeonaaGreatDoorZyh2X
import Derived.Test.YtibipnipeaeonaaGreatDoorMG
namespace Go.Proofs.YtibipnipeaeonaaGreatDoor
open Go Go.RowKit
set_option maxRecDepth 100000
set_option maxHeartbeats 4000000 in
theorem zget_not (sb : Nat) (q : RqM) (now : Int) (w : World) (hn : 0 ≤ now ∧ now ≤ 1000000) (hget : unums q.m ≠ getN) :
    Calls Tryz.prog 10 #[.pointer (some ⟨sb, 0, none⟩), q.val, .int .i64 now] w fun e w' => e = .returned (.tuple #[.agg #[.int .i64 0, .slice none 0 0, .slice none 0 0], .int .i64 0, .iface 60 (.int .i64 5)]) ∧ Below w.heap.size w w' := by
  obtain ⟨W1, hW1⟩ : ∃ x, ((((w.alloc (.cells #[.string q.m, .string q.p, .string q.h, .slice q.fa q.fn q.fc, .slice q.ba q.bn q.bc] 36)).alloc (.cells #[.int .i64 now] 3)).alloc (.cells #[.int .i64 0, .slice none 0 0, .slice none 0 0] 38)).alloc (.cells #[.int .i64 0] 3)).alloc (.cells #[.nilIface] 41) = x := ⟨_, rfl⟩
  have hB1 : Below w.heap.size w W1 := by rw [← hW1]; exact (((((Below.refl _ w).alloc (Nat.le_refl _) _).alloc (by simp) _).alloc (by simp <;> omega) _).alloc (by simp <;> omega) _).alloc (by simp <;> omega) _
  have hs1 : W1.heap.size = w.heap.size + 5 := by rw [← hW1]; simp
  have al : ∀ (V : World) (o : Obj) (k : Nat) (x : Option Obj), k < V.heap.size → V.heap[k]? = x → (V.alloc o).heap[k]? = x := fun V o k x hk e => (Below.heap_alloc _ _ _ hk).trans e
  have k0 : W1.heap[w.heap.size]? = some (.cells #[.string q.m, .string q.p, .string q.h, .slice q.fa q.fn q.fc, .slice q.ba q.bn q.bc] 36 (0, 0)) := by
    rw [← hW1]; exact al _ _ _ _ (by simp <;> omega) (al _ _ _ _ (by simp <;> omega) (al _ _ _ _ (by simp <;> omega) (al _ _ _ _ (by simp) (heap_alloc_new w _))))
  have k1 : W1.heap[w.heap.size + 1]? = some (.cells #[.int .i64 now] 3 (0, 0)) := by
    rw [← hW1]
    have := heap_alloc_new (w.alloc (.cells #[.string q.m, .string q.p, .string q.h, .slice q.fa q.fn q.fc, .slice q.ba q.bn q.bc] 36)) (.cells #[.int .i64 now] 3 (0, 0))
    rw [World.size_alloc] at this
    exact al _ _ _ _ (by simp <;> omega) (al _ _ _ _ (by simp <;> omega) (al _ _ _ _ (by simp) this))
  have k2 : W1.heap[w.heap.size + 2]? = some (.cells #[.int .i64 0, .slice none 0 0, .slice none 0 0] 38 (0, 0)) := by
    rw [← hW1]
    have := heap_alloc_new ((w.alloc (.cells #[.string q.m, .string q.p, .string q.h, .slice q.fa q.fn q.fc, .slice q.ba q.bn q.bc] 36)).alloc (.cells #[.int .i64 now] 3)) (.cells #[.int .i64 0, .slice none 0 0, .slice none 0 0] 38 (0, 0))
    simp only [World.size_alloc] at this
    exact al _ _ _ _ (by simp <;> omega) (al _ _ _ _ (by simp) this)
  have k3 : W1.heap[w.heap.size + 3]? = some (.cells #[.int .i64 0] 3 (0, 0)) := by
    rw [← hW1]
    have := heap_alloc_new (((w.alloc (.cells #[.string q.m, .string q.p, .string q.h, .slice q.fa q.fn q.fc, .slice q.ba q.bn q.bc] 36)).alloc (.cells #[.int .i64 now] 3)).alloc (.cells #[.int .i64 0, .slice none 0 0, .slice none 0 0] 38)) (.cells #[.int .i64 0] 3 (0, 0))
    simp only [World.size_alloc] at this
    exact al _ _ _ _ (by simp) this
  have k4 : W1.heap[w.heap.size + 4]? = some (.cells #[.nilIface] 41 (0, 0)) := by
    rw [← hW1]
    have := heap_alloc_new ((((w.alloc (.cells #[.string q.m, .string q.p, .string q.h, .slice q.fa q.fn q.fc, .slice q.ba q.bn q.bc] 36)).alloc (.cells #[.int .i64 now] 3)).alloc (.cells #[.int .i64 0, .slice none 0 0, .slice none 0 0] 38)).alloc (.cells #[.int .i64 0] 3)) (.cells #[.nilIface] 41 (0, 0))
    simp only [World.size_alloc] at this
    exact this
  have c1 : W1.cell? ⟨w.heap.size + 1, 0, none⟩ = some (.int .i64 now) := by rw [cell_of_row _ _ _ _ _ _ k1]; rfl
  have c0 : W1.cell? ⟨w.heap.size, 0, none⟩ = some (.string q.m) := by rw [cell_of_row _ _ _ _ _ _ k0]; rfl
  have HIT := vl (zistime_any now W1)
  rw [decide_eq_true hn] at HIT
  have hgm : ¬ q.m.toList = [71, 69, 84] := fun h => hget (un_lit.1 h)
  have hgm2 : (q.m.toList == [71, 69, 84]) = false := beq_eq_false_iff_ne.2 hgm
  have k2 : W1.heap[w.heap.size + 1 + 1]? = _ := k2
  have k3 : W1.heap[w.heap.size + 1 + 1 + 1]? = _ := k3
  have k4 : W1.heap[w.heap.size + 1 + 1 + 1 + 1]? = _ := k4
  have y20 : W1.cell? ⟨w.heap.size + 1 + 1, 0, none⟩ = some (.int .i64 0) := by rw [cell_of_row _ _ _ _ _ _ k2]; rfl
  have y21 : W1.cell? ⟨w.heap.size + 1 + 1, 1, none⟩ = some (.slice none 0 0) := by rw [cell_of_row _ _ _ _ _ _ k2]; rfl
  have y22 : W1.cell? ⟨w.heap.size + 1 + 1, 2, none⟩ = some (.slice none 0 0) := by rw [cell_of_row _ _ _ _ _ _ k2]; rfl
  have y3 : W1.cell? ⟨w.heap.size + 1 + 1 + 1, 0, none⟩ = some (.int .i64 0) := by rw [cell_of_row _ _ _ _ _ _ k3]; rfl
  have y4 : W1.cell? ⟨w.heap.size + 1 + 1 + 1 + 1, 0, none⟩ = some .nilIface := by rw [cell_of_row _ _ _ _ _ _ k4]; rfl
  have q2 : ∀ j, W1.frozen? ⟨w.heap.size + 1 + 1, j, none⟩ = false := fun j => frozen_of_row W1 _ j _ _ k2
  have q3 : ∀ j, W1.frozen? ⟨w.heap.size + 1 + 1 + 1, j, none⟩ = false := fun j => frozen_of_row W1 _ j _ _ k3
  have q4 : ∀ j, W1.frozen? ⟨w.heap.size + 1 + 1 + 1 + 1, j, none⟩ = false := fun j => frozen_of_row W1 _ j _ _ k4
  have HB1 := vl hB1
  have HK2 := vl k2
  have HK3 := vl k3
  have HK4 := vl k4
  show Calls Tryz.prog 10 #[.pointer (some ⟨sb, 0, none⟩), .agg #[.string q.m, .string q.p, .string q.h, .slice q.fa q.fn q.fc, .slice q.ba q.bn q.bc], .int .i64 now] w _
  clear hget al k0 k1 k2 k3 k4 hB1 hs1
  go_enter Tryz.func10, Tryz.ntmps10
  go_upto_region 1 with fail
  clear hW1
  go_wp2_with fail
  refine HIT.out.mono ?_
  rintro _ _ ⟨rfl, rfl⟩
  clear HIT
  go_wp2_with fail
  obtain ⟨X6, hX6⟩ : ∃ x, ((((W1.setCell ⟨w.heap.size + 1 + 1, 0, none⟩ (.int .i64 0)).setCell ⟨w.heap.size + 1 + 1, 1, none⟩ (.slice none 0 0)).setCell ⟨w.heap.size + 1 + 1, 2, none⟩ (.slice none 0 0)).setCell ⟨w.heap.size + 1 + 1 + 1, 0, none⟩ (.int .i64 0)).setCell ⟨w.heap.size + 1 + 1 + 1 + 1, 0, none⟩ (.iface 60 (.int .i64 5)) = x := ⟨_, rfl⟩
  have hT6 : Tn (fun k => w.heap.size + 2 ≤ k) W1 X6 := by rw [← hX6]; exact ((((tn_set (by show w.heap.size + 2 ≤ w.heap.size + 1 + 1; omega)).trans' (tn_set (by show w.heap.size + 2 ≤ w.heap.size + 1 + 1; omega))).trans' (tn_set (by show w.heap.size + 2 ≤ w.heap.size + 1 + 1; omega))).trans' (tn_set (by show w.heap.size + 2 ≤ w.heap.size + 1 + 1 + 1; omega))).trans' (tn_set (by show w.heap.size + 2 ≤ w.heap.size + 1 + 1 + 1 + 1; omega))
  have u2 : X6.heap[w.heap.size + 1 + 1]? = some (.cells #[.int .i64 0, .slice none 0 0, .slice none 0 0] 38 (0, 0)) := by
    rw [← hX6, heap_setCell_other _ _ _ _ (by show w.heap.size + 1 + 1 ≠ w.heap.size + 1 + 1 + 1 + 1; omega), heap_setCell_other _ _ _ _ (by show w.heap.size + 1 + 1 ≠ w.heap.size + 1 + 1 + 1; omega)]
    exact gbox_set3 HK2.out
  have u3 : X6.heap[w.heap.size + 1 + 1 + 1]? = some (.cells #[.int .i64 0] 3 (0, 0)) := by
    rw [← hX6, heap_setCell_other _ _ _ _ (by show w.heap.size + 1 + 1 + 1 ≠ w.heap.size + 1 + 1 + 1 + 1; omega)]
    refine gbox_set (u := .int .i64 0) ?_
    rw [heap_setCell_other _ _ _ _ (by show w.heap.size + 1 + 1 + 1 ≠ w.heap.size + 1 + 1; omega), heap_setCell_other _ _ _ _ (by show w.heap.size + 1 + 1 + 1 ≠ w.heap.size + 1 + 1; omega), heap_setCell_other _ _ _ _ (by show w.heap.size + 1 + 1 + 1 ≠ w.heap.size + 1 + 1; omega)]
    exact HK3.out
  have u4 : X6.heap[w.heap.size + 1 + 1 + 1 + 1]? = some (.cells #[.iface 60 (.int .i64 5)] 41 (0, 0)) := by
    rw [← hX6]
    refine gbox_set (u := .nilIface) ?_
    rw [heap_setCell_other _ _ _ _ (by show w.heap.size + 1 + 1 + 1 + 1 ≠ w.heap.size + 1 + 1 + 1; omega), heap_setCell_other _ _ _ _ (by show w.heap.size + 1 + 1 + 1 + 1 ≠ w.heap.size + 1 + 1; omega), heap_setCell_other _ _ _ _ (by show w.heap.size + 1 + 1 + 1 + 1 ≠ w.heap.size + 1 + 1; omega), heap_setCell_other _ _ _ _ (by show w.heap.size + 1 + 1 + 1 + 1 ≠ w.heap.size + 1 + 1; omega)]
    exact HK4.out
  try rw [hX6]
  have hb := HB1.out
  have hbw : Below w.heap.size w X6 := ⟨hT6.os.trans hb.os, hT6.tape.trans hb.tape, hT6.output.trans hb.output, Nat.le_trans hb.size hT6.size, fun k hk => (hT6.block k (Nat.lt_of_lt_of_le hk hb.size) (fun e => by have e' : w.heap.size + 2 ≤ k := e; omega)).trans (hb.block k hk)⟩
  have j20 : X6.cell? ⟨w.heap.size + 1 + 1, 0, none⟩ = some (.int .i64 0) := by rw [cell_of_row _ _ _ _ _ _ u2]; rfl
  have j21 : X6.cell? ⟨w.heap.size + 1 + 1, 1, none⟩ = some (.slice none 0 0) := by rw [cell_of_row _ _ _ _ _ _ u2]; rfl
  have j22 : X6.cell? ⟨w.heap.size + 1 + 1, 2, none⟩ = some (.slice none 0 0) := by rw [cell_of_row _ _ _ _ _ _ u2]; rfl
  have j3 : X6.cell? ⟨w.heap.size + 1 + 1 + 1, 0, none⟩ = some (.int .i64 0) := by rw [cell_of_row _ _ _ _ _ _ u3]; rfl
  have j4 : X6.cell? ⟨w.heap.size + 1 + 1 + 1 + 1, 0, none⟩ = some (.iface 60 (.int .i64 5)) := by rw [cell_of_row _ _ _ _ _ _ u4]; rfl
  refine bodyPost_ret (v := .tuple #[.agg #[.int .i64 0, .slice none 0 0, .slice none 0 0], .int .i64 0, .iface 60 (.int .i64 5)]) (by simp [results, Tryz.results10, go_sem, j20, j21, j22, j3, j4]) rfl ?_
  exact ⟨rfl, hbw⟩
end Go.Proofs.YtibipnipeaeonaaGreatDoor
/-
  WHAT WAS ANSWERED: the developers' Put, in one form. No claim by itself.
-/
namespace Go.Proofs.YtibipnipeaeonaaGreatDoor
open Go Go.RowKit
set_option maxRecDepth 100000
/-- A reply that is kept. -/
def PutOk (q : RqM) (a : RpM) : Prop := unums q.m = getN ∧ a.code = 200 ∧ 0 < lifeR (fdsOf a.FL)
/-- What Put does. -/
def PutA (w : World) (sb : Nat) (v : Value) (ks : List KpM) (q : RqM) (a : RpM) (now : Int) (e : Ending) (w' : World) : Prop :=
  ∃ (ok : Bool) (v' : Value) (ks' : List KpM), e = .returned (.tuple #[.bool ok, .nilIface]) ∧ StM w' sb v' ks' ∧ ks'.length ≤ 20 ∧ Tn (StS sb v) w w' ∧ (∀ b, StS sb v' b → StS sb v b ∨ w.heap.size ≤ b) ∧
    ((ok = false ∧ ¬ PutOk q a ∧ ks' = ks) ∨ (ok = true ∧ PutOk q a ∧ ∃ k, KeptOf w q a now k ∧ ((kf (fun k => fitP k q) ks).length < 20 → ks' = kf (fun k => fitP k q) ks ++ [k])))
theorem zput_any (sb : Nat) (v : Value) (ks : List KpM) (q : RqM) (a : RpM) (now : Int) (w : World) (h : StM w sb v ks) (hl : ks.length ≤ 20) (hq : RqIn w q) (ha : RpIn w a) (hqs : RqS q) (has : RpS a) (hm : QOk w) (hn : 0 ≤ now ∧ now ≤ 1000000)
    (hS : OffG (StS sb v)) (hqo : ∀ b, RqB q b → ¬ StS sb v b) (hao : ∀ b, RpB a b → ¬ StS sb v b) :
    Calls Tryz.prog 6 #[.pointer (some ⟨sb, 0, none⟩), q.val, a.val, .int .i64 now] w fun e w' => PutA w sb v ks q a now e w' := by
  by_cases hok : PutOk q a
  · obtain ⟨h1, h2, h3⟩ := hok
    have hk := kf_len (fun k => fitP k q) ks
    by_cases hlow : (kf (fun k => fitP k q) ks).length < 20
    · refine (zput_yes sb v ks q a now w h hq ha hqs has hm hn h1 h2 h3 hlow hS hqo hao).mono ?_
      rintro e w' ⟨rfl, v', k, hs, hK, hT, hN⟩
      exact ⟨true, v', _, rfl, hs, by rw [List.length_append]; simp; omega, hT, hN, Or.inr ⟨rfl, ⟨h1, h2, h3⟩, k, hK, fun _ => rfl⟩⟩
    · refine (zput_full sb v ks q a now w h hq ha hqs has hm hn h1 h2 h3 (by omega) hS hqo hao).mono ?_
      rintro e w' ⟨rfl, v', k, k0, D, hD, hs, hK, hT, hN⟩
      have hDl : D.length ≤ 20 := by
        have := congrArg List.length hD
        rw [List.length_append, List.length_cons] at this
        simp at this
        omega
      exact ⟨true, v', D, rfl, hs, hDl, hT, hN, Or.inr ⟨rfl, ⟨h1, h2, h3⟩, k, hK, fun hh => absurd hh hlow⟩⟩
  · refine (zput_no sb q a now w ha has hm hn hok).mono ?_
    rintro e w' ⟨rfl, hb⟩
    refine ⟨false, v, ks, rfl, h.below hb, hl, ?_, fun b hb => Or.inl hb, Or.inl ⟨rfl, hok, rfl⟩⟩
    exact ⟨hb.os, hb.tape, hb.output, hb.size, fun i hi _ => hb.block i hi⟩
end Go.Proofs.YtibipnipeaeonaaGreatDoor
/-
  WHAT IS TOLD WAS ANSWERED: StoreTells' mathematics. No claim by itself.
-/
namespace Go.Proofs.YtibipnipeaeonaaGreatDoor
open Go Go.RowKit
set_option maxRecDepth 100000
def c30FL : List FB := [(⟨#[99, 97, 99, 104, 101]⟩, ⟨#[109, 97, 120, 45, 51, 48]⟩)]
theorem c30_fds : fdsOf c30FL = [(cacheN, [109, 97, 120, 45, 51, 48])] := by decide +kernel
theorem c30_life : lifeR (fdsOf c30FL) = 30 := by
  unfold lifeR
  rw [show fstV (fdsOf c30FL) cacheN = [109, 97, 120, 45, 51, 48] by rw [c30_fds]; decide +kernel]
  refine life_yes (k := 30) (by omega) ?_
  rw [decL_more (by decide), decL_one (by decide)]
  decide +kernel
/-- What was put fits the request that it was put for. -/
theorem own_fit {w : World} {q : RqM} {a : RpM} {now : Int} {k : KpM} (h : KeptOf w q a now k) : fitP k q := by
  unfold fitP
  rw [h.host, h.path, h.L0]
  exact ⟨rfl, rfl, Sby.refl _⟩
/-- It lives as long as its life. -/
theorem own_lives {w : World} {q : RqM} {a : RpM} {now later : Int} {k : KpM} (h : KeptOf w q a now k) (hl : 0 ≤ later) : livesP k (now + later) ↔ later < (lifeR (fdsOf a.FL) : Nat) := by
  unfold livesP
  rw [h.at_, h.rep.FL]
  omega
theorem own_hit {w : World} {q : RqM} {a : RpM} {now later : Int} {k : KpM} (h : KeptOf w q a now k) (hl : 0 ≤ later) : hitP q (now + later) k ↔ later < (lifeR (fdsOf a.FL) : Nat) :=
  ⟨fun e => (own_lives h hl).1 e.2, fun e => ⟨own_fit h, (own_lives h hl).2 e⟩⟩
/-- Another path does not get it. -/
theorem other_hit {w : World} {q q2 : RqM} {a : RpM} {now t : Int} {k : KpM} (h : KeptOf w q a now k) (hne : unums q2.p ≠ unums q.p) : ¬ hitP q2 t k := by
  intro e
  have := e.1.2.1
  rw [h.path] at this
  exact hne this.symm
/-- The reply that is told is like the one that was put. -/
theorem like_rp {w w2 : World} {q : RqM} {a p : RpM} {now : Int} {k : KpM} (h : KeptOf w q a now k) (hs : SameR w2 k.rp p) : p.rp = a.rp := by
  unfold RpM.rp
  rw [hs.code, hs.FL, hs.B, h.rep.code, h.rep.FL, h.rep.B]
end Go.Proofs.YtibipnipeaeonaaGreatDoor
