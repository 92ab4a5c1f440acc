/-
  MESSAGES AS LINES: the developers' forms: holds; Token, Plain. No claim by itself.
-/
import Derived.Test.YtibjbdcmhjbndaaDoorNdv3
namespace Go.Proofs.YtibjbdcmhjbndaaDoor
open Go Go.RowKit Go.Shelf
set_option maxRecDepth 100000
attribute [local go_sem] run_store_func run_store_nilFunc
theorem goAll_no {may : Int → Bool} {s : List Int} {k : Nat} (h : k < s.length) (hn : goF may k (s.getD k 0) = false) : goAll may 0 s = false := by
  cases hx : goAll may 0 s
  · rfl
  · rw [goAll_iff] at hx
    have := hx k h
    rw [Nat.zero_add, hn] at this
    cases this
set_option maxHeartbeats 1000000 in
theorem nholds_any (least : Nat) (F : Value) (p : Int → Bool) (B : Nat) (s : ByteArray) (w : World) (hF : MayF w B F p) (hs : s.size ≤ 140737488351232) :
    Calls Tryd.prog 28 #[formV least F, .string s] w fun e w' => e = .returned (.bool (formL p least (unums s))) ∧ Below w.heap.size w w' := by
  have HN := vl (unums_at s)
  have HL := vl (unums_len s)
  have HY := vl (bytes_unums s)
  have HF := vl hF
  obtain ⟨g, lb, rfl, eg, H1⟩ := id hF
  clear hF H1 eg
  have HX : Vl (∀ W, Below (w.heap.size + 1) (w.alloc (.cells #[.int .i64 (least : Int), .func (.func g) #[] lb] 73)) W → MayF W B (.func (.func g) #[] lb) p ∧ Below w.heap.size w W ∧ W.cell? ⟨w.heap.size, 0, none⟩ = some (.int .i64 (least : Int)) ∧ W.cell? ⟨w.heap.size, 1, none⟩ = some (.func (.func g) #[] lb)) := fun W hb => by
    have hb1 : Below w.heap.size w W := ((Below.refl _ w).alloc (Nat.le_refl _) _).trans (hb.mono (by omega))
    have hk := (hb.block w.heap.size (by omega)).trans (heap_alloc_new w (.cells #[.int .i64 (least : Int), .func (.func g) #[] lb] 73 (0, 0)))
    exact ⟨HF.out.later (Kp.of hb1), hb1, (f2_cell hk).1, (f2_cell hk).2.1⟩
  unfold formV
  go_enter Tryd.func28, Tryd.ntmps28
  go_wp2_with fail
  go_loopw [8] (fun i wr => ∃ k : Nat, i = .int .i64 k ∧ k ≤ s.size ∧ Vl (∀ t, t < k → goF p t ((unums s).getD t 0) = true) ∧ Vl (Below (w.heap.size + 1) (w.alloc (.cells #[.int .i64 (least : Int), .func (.func g) #[] lb] 73)) wr)) (fun i _ => s.size - (intOf i).toNat)
  case atStart => exact ⟨0, rfl, by omega, fun t ht => by omega, Below.refl _ _⟩
  case round =>
    obtain ⟨k, rfl, hk, HK, HB⟩ := hrel
    obtain ⟨hM, hb1, c0, c1⟩ := HX.out wr HB.out
    by_cases hlt : k < s.size
    · have hlt' : (k : Int) < (s.size : Int) := by omega
      have hby := bytes_getD HY.out k
      have hix := HN.out k hlt
      obtain ⟨c, hc⟩ : ∃ c, (unums s).getD k 0 = c := ⟨_, rfl⟩
      rw [hc] at hix hby
      have HC := vl hc
      clear hc
      have HG := vl (ngoes_any least _ p B wr.drew (hM.later (Kp.of (Below.refl _ wr).drew)) k c hby.1 hby.2)
      obtain ⟨b, hb⟩ : ∃ b, goF p k c = b := ⟨_, rfl⟩
      rw [hb] at HG
      have go : Vl (b = true → ∀ t, t < k + 1 → goF p t ((unums s).getD t 0) = true) := fun hab t ht => by
        by_cases e : t = k
        · rw [e, HC.out, hb, hab]
        · exact HK.out t (by omega)
      have no : Vl (b = false → formL p least (unums s) = false) := fun hab => by
        unfold formL
        rw [goAll_no (k := k) (by rw [HL.out]; exact hlt) (by rw [HC.out, hb, hab])]
        rfl
      have hsz := hb1.size
      have hs1 : w.heap.size < wr.heap.size := by have := HB.out.size; simp at this; omega
      have HZ : Vl (∀ w1, Below wr.drew.heap.size wr.drew w1 → w1.cell? ⟨w.heap.size, 0, none⟩ = some (.int .i64 (least : Int)) ∧ w1.cell? ⟨w.heap.size, 1, none⟩ = some (.func (.func g) #[] lb)) := fun w1 hb => ⟨(hb.cell (p := ⟨w.heap.size, 0, none⟩) hs1).trans c0, (hb.cell (p := ⟨w.heap.size, 1, none⟩) hs1).trans c1⟩
      have HS1 : Vl (w.heap.size + 1 ≤ wr.heap.size) := hs1
      clear hb hM hb1 hsz hs1 hby
      unfold formV at HG
      go_wp2_with fail
      go_region_held3 (fun w' => w'.cell? ⟨w.heap.size, 0, none⟩ = some (.int .i64 (least : Int)) ∧ w'.cell? ⟨w.heap.size, 1, none⟩ = some (.func (.func g) #[] lb))
        (first | go_keep | (exact HZ.out _ hb))
        ((go_at_call 43; refine HG.out.mono ?_; rintro e w1 ⟨rfl, hb⟩))
      have HB2 : Vl (Below (w.heap.size + 1) (w.alloc (.cells #[.int .i64 (least : Int), .func (.func g) #[] lb] 73)) w1) := HB.out.trans (((Below.refl _ wr).drew.trans hb).mono HS1.out)
      clear hb HG HZ c0 c1
      cases b with
      | true =>
        have GO := vl (go.out rfl)
        clear go no
        go_wp2
        go_roundw
        case rel => exact ⟨k + 1, by go_num, by omega, GO.out, HB2.out⟩
        case measure => simp [intOf]; omega
      | false =>
        have NO := vl (no.out rfl)
        clear go no
        go_wp2
        go_ret
        refine ⟨?_, (HX.out _ HB2.out).2.1⟩
        rw [NO.out]
        rfl
    · have hlt' : ¬ (k : Int) < (s.size : Int) := by omega
      have HE := vl (nends_any least (.func (.func g) #[] lb) s wr hs)
      have HA : Vl (formL p least (unums s) = endsL least (unums s)) := by
        show _ = _
        unfold formL
        rw [goAll_iff.2 (fun i hi => by rw [Nat.zero_add]; exact HK.out i (by rw [HL.out] at hi; omega)), Bool.true_and]
      obtain ⟨b, hb⟩ : ∃ b, endsL least (unums s) = b := ⟨_, rfl⟩
      rw [hb] at HE
      have HA2 := vl (HA.out.trans hb)
      clear hb
      have HB1 := vl hb1
      unfold formV at HE
      clear hM hb1 HA
      go_wp2_with fail
      refine HE.out.mono ?_
      rintro e w1 ⟨rfl, hb⟩
      go_wp2
      go_ret
      refine ⟨?_, HB1.out.trans (hb.mono HB1.out.size)⟩
      rw [HA2.out]
      rfl
theorem ntoken_any (s : ByteArray) (w : World) (hs : s.size ≤ 140737488351232) : Calls Tryd.prog 19 #[.string s] w fun e w' => e = .returned (.bool (tokL (unums s))) ∧ Below w.heap.size w w' := by
  have H1 := vl (ntokf_any w)
  have H2 := vl (fun W => nholds_any 1 _ ok0 0 s W (mayf_tok W 0) hs)
  rw [form_tok] at H2
  generalize tokL (unums s) = b at *
  go_enter Tryd.func19, Tryd.ntmps19
  go_wp2_with fail
  refine H1.out.mono ?_
  rintro e w1 ⟨rfl, hb⟩
  go_wp2_with fail
  refine (H2.out _).mono ?_
  rintro e w2 ⟨rfl, hb2⟩
  go_wp2
  go_ret
  exact ⟨rfl, hb.trans (hb2.mono hb.size)⟩
end Go.Proofs.YtibjbdcmhjbndaaDoor
