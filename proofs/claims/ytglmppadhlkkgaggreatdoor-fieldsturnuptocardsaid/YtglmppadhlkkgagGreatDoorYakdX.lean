/-
  FROM THE ONE TO THE OTHER: the developers' Ask. No claim by itself.
-/
import Derived.Deep.RegionHeld3
import Derived.Deep.DeepCutAuto
import Derived.Test.YtglmppadhlkkgagGreatDoorYjcX
import Derived.Test.YtglmppadhlkkgagGreatDoorYreX
namespace Go.Proofs.YtglmppadhlkkgagGreatDoor
open Go Go.RowKit Go.Maps
set_option maxRecDepth 100000
def AskE (L : List (ByteArray × ByteArray)) (B : List Int) (w : World) (e : Ending) (w' : World) : Prop :=
  ∃ q : RqM, e = .returned (.tuple #[q.val, errW (askW (fdsOf L) B).1]) ∧ RqIn w' q ∧ q.rq = (askW (fdsOf L) B).2 ∧ Below w.heap.size w w'
theorem rq_zero (w : World) : RqIn w ⟨⟨#[]⟩, ⟨#[]⟩, ⟨#[]⟩, none, 0, 0, none, 0, 0, [], []⟩ := ⟨Or.inl ⟨rfl, rfl⟩, Or.inl ⟨rfl, rfl⟩, fun _ => ⟨rfl, rfl⟩, ⟨Nat.zero_le _, Nat.zero_le _⟩, ⟨Nat.zero_le _, Nat.zero_le _, Nat.zero_le _⟩, fun _ => ⟨Nat.zero_le _, Nat.zero_le _⟩⟩
theorem rq_grown {w w' : World} {q : RqM} {x : Nat} (h : RqIn w q) (hg : w.grownBy w' (some x)) (h1 : ∀ g off, q.fa = some ⟨g, off, none⟩ → g ≠ x) (h2 : ∀ g off, q.ba = some ⟨g, off, none⟩ → g ≠ x) : RqIn w' q :=
  ⟨farg_grown h.fields hg h1, arg_grown h.body hg h2, h.nil, h.most, h.texts, h.each⟩
/-- Where one of the three stands. -/
theorem lead_at {L : List (ByteArray × ByteArray)} {D : SDat} {n : ByteArray} (h : LeadOk psd3 (fdsOf L)) (hd : LdM D (fstB L 3)) (hn : unums n ∈ psd3) : ∃ i, i < 3 ∧ i < L.length ∧ D.atKey (kyS n) (.lit (.int .i64 0)) = .lit (.int .i64 (i : Nat)) ∧ valL (unums n) (fdsOf L) = unums (L.getD i fnone).2 := by
  obtain ⟨A, B, he, hA, hB, hN, hl, hm⟩ := h
  have hA3 : A.length = 3 := hl
  have hT : (fdsOf L).take 3 = A := by rw [he, ← hA3]; exact List.take_left
  have hf : fstB L 3 = A.map Prod.fst := by unfold fstB; rw [hT]
  have hmem := hm _ hn
  obtain ⟨i, hi, hie⟩ := List.getElem_of_mem hmem
  rw [List.length_map] at hi
  have hLl : A.length + B.length = L.length := by rw [← fds_len L, he, List.length_append]
  have hg : (fstB L 3)[i]? = some (unums n) := by rw [hf, List.getElem?_eq_getElem (by rw [List.length_map]; exact hi), hie]
  have hgi : (fdsOf L)[i]? = some (unums (L.getD i fnone).1, unums (L.getD i fnone).2) := fds_get (by omega)
  have hgA : (fdsOf L)[i]? = some (A[i]) := by rw [he, List.getElem?_append_left hi, List.getElem?_eq_getElem hi]
  have hAi : A[i] = (unums (L.getD i fnone).1, unums (L.getD i fnone).2) := Option.some.inj (hgA.symm.trans hgi)
  rw [List.getElem_map, hAi] at hie
  refine ⟨i, by omega, by omega, hd.at_ n i hg, val_at hgi hie fun j g hj hgj e => ?_⟩
  rw [he, List.getElem?_append_left (by omega), List.getElem?_eq_getElem (by omega)] at hgj
  have hgj' := Option.some.inj hgj
  have hp := List.pairwise_iff_getElem.1 hN j i (by rw [List.length_map]; omega) (by rw [List.length_map]; omega) hj
  apply hp
  rw [List.getElem_map, List.getElem_map, hgj', hAi]
  exact e.trans hie.symm
theorem mown_at {w : World} {mb c : Nat} {D : SDat} (h : MOwn w mb c D) {s : ByteArray} (hs : s.size ≤ 140737488351232) {i : Nat} (ha : D.atKey (kyS s) (.lit (.int .i64 0)) = .lit (.int .i64 (i : Nat))) :
    (Instr.lookup 94 (.map (some mb)) (.string s) false).run Tryz.prog w = .ok (.int .i64 (i : Nat)) w := by
  obtain ⟨x, hrun, hat, _⟩ := h.lookup_int skl Tryz.underlying94 Tryz.underlying3 (szero _) (ky_ok hs)
  rw [ha] at hat
  injection hat with e
  injection e with _ e
  rw [hrun, ← e]
theorem rb_made (w : World) : RB (w.alloc (.cells #[.string ⟨#[]⟩, .string ⟨#[]⟩, .string ⟨#[]⟩, .slice none 0 0, .slice none 0 0] 25)) w.heap.size ⟨#[]⟩ ⟨#[]⟩ ⟨#[]⟩ (.slice none 0 0) (.slice none 0 0) := heap_alloc_new w _
theorem filt_vok {L : List (ByteArray × ByteArray)} {p : ByteArray × ByteArray → Bool} (h : VOk L) : VOk (L.filter p) := fun t => by
  by_cases ht : t < (L.filter p).length
  · have hm : (L.filter p).getD t fnone ∈ L := by
      rw [List.getD, List.getElem?_eq_getElem ht]
      exact (List.mem_filter.1 (List.getElem_mem _)).1
    obtain ⟨i, hi, he⟩ := List.getElem_of_mem hm
    have := h i
    rwa [List.getD, List.getElem?_eq_getElem hi, Option.getD_some, he] at this
  · rw [List.getD, List.getElem?_eq_none (by omega)]
    simp [fnone]
theorem five_set {B n : Nat} {w w' : World} (h : Below B w w') (hn : B ≤ n) (v0 v1 v2 v3 v4 : Value) : Below B w (((((w'.setCell ⟨n, 0, none⟩ v0).setCell ⟨n, 1, none⟩ v1).setCell ⟨n, 2, none⟩ v2).setCell ⟨n, 3, none⟩ v3).setCell ⟨n, 4, none⟩ v4) :=
  ((((h.setCell (p := ⟨n, 0, none⟩) hn v0).setCell (p := ⟨n, 1, none⟩) hn v1).setCell (p := ⟨n, 2, none⟩) hn v2).setCell (p := ⟨n, 3, none⟩) hn v3).setCell (p := ⟨n, 4, none⟩) hn v4
/-- How long what is put together is. -/
theorem tlJ_len : ∀ (V : List (List Int)) (M : Nat), (∀ v ∈ V, v.length ≤ M) → (tlJ V).length ≤ V.length * (M + 2)
  | [], _, _ => by simp [tlJ]
  | v :: V, M, h => by
    have ih := tlJ_len V M (fun x hx => h x (List.mem_cons_of_mem _ hx))
    have h0 := h v List.mem_cons_self
    have e : tlJ (v :: V) = [59, 32] ++ v ++ tlJ V := by simp [tlJ]
    rw [e]
    simp only [List.length_append, List.length_cons, List.length_nil, Nat.add_mul, Nat.one_mul]
    omega
theorem joinL_small : ∀ (l : List Fd) (A M : Nat), 6 ≤ A → (∀ f ∈ l, f.1.length ≤ A ∧ f.2.length ≤ M) → ∀ g ∈ joinL l, g.1.length ≤ A ∧ g.2.length ≤ l.length * (M + 2)
  | [], _, _, _, _ => by simp [joinL]
  | f :: l, A, M, hA, h => by
    have hl : ∀ f ∈ l, f.1.length ≤ A ∧ f.2.length ≤ M := fun x hx => h x (List.mem_cons_of_mem _ hx)
    have h0 := h f List.mem_cons_self
    intro g hg
    have hx : (f :: l).length * (M + 2) = l.length * (M + 2) + (M + 2) := by rw [List.length_cons, Nat.add_mul, Nat.one_mul]
    cases hc : isCk f with
    | true =>
      rw [joinL_ck f l hc] at hg
      rcases List.mem_cons.1 hg with rfl | hg
      · have h1 := tlJ_len (ckVals l) M (fun v hv => by
          obtain ⟨x, hx, rfl⟩ := List.mem_map.1 hv
          exact (hl x (List.mem_filter.1 hx).1).2)
        have h2 : (ckVals l).length ≤ l.length := by unfold ckVals; rw [List.length_map]; exact List.length_filter_le _ _
        have h3 := Nat.mul_le_mul_right (M + 2) h2
        refine ⟨by show cookieN.length ≤ A; exact Nat.le_trans (by decide) hA, ?_⟩
        show (f.2 ++ tlJ (ckVals l)).length ≤ _
        rw [List.length_append, hx]
        omega
      · have hm := (List.mem_filter.1 hg).1
        have h1 := hl g hm
        refine ⟨h1.1, ?_⟩
        rw [hx]
        omega
    | false =>
      rw [joinL_no f l hc] at hg
      rcases List.mem_cons.1 hg with rfl | hg
      · exact ⟨h0.1, by rw [hx]; omega⟩
      · have := joinL_small l A M hA hl g hg
        exact ⟨this.1, by rw [hx]; omega⟩
theorem joinL_len : ∀ l : List Fd, (joinL l).length ≤ l.length
  | [] => by simp [joinL]
  | f :: l => by
    cases hc : isCk f with
    | true =>
      rw [joinL_ck f l hc]
      simp only [List.length_cons]
      have : (noCk l).length ≤ l.length := List.length_filter_le _ _
      omega
    | false =>
      rw [joinL_no f l hc]
      have := joinL_len l
      simp only [List.length_cons]
      omega
theorem join_vok {NL JL : List (ByteArray × ByteArray)} (hv : VOk NL) (hl : NL.length ≤ 4194304) (he : fdsOf JL = joinL (fdsOf NL)) : JL.length ≤ 4194304 ∧ ∀ t, (JL.getD t fnone).1.size ≤ 140737488351232 ∧ (JL.getD t fnone).2.size ≤ 140737488351232 := by
  have h1 := joinL_len (fdsOf NL)
  rw [← he, fds_len, fds_len] at h1
  refine ⟨by omega, fun t => ?_⟩
  by_cases ht : t < JL.length
  · have h2 := joinL_small (fdsOf NL) 140737488351232 4194304 (by decide) (fun f hf => by
      unfold fdsOf at hf
      obtain ⟨x, hx, rfl⟩ := List.mem_map.1 hf
      obtain ⟨i, hi, rfl⟩ := List.getElem_of_mem hx
      have := hv i
      rw [List.getD, List.getElem?_eq_getElem hi, Option.getD_some] at this
      exact ⟨by rw [unums_len]; exact this.1, by rw [unums_len]; exact this.2⟩)
    have h3 := h2 (unums (JL.getD t fnone).1, unums (JL.getD t fnone).2) (by
      rw [← he]
      exact List.mem_of_getElem? (fds_get ht))
    rw [fds_len] at h3
    have h4 := Nat.mul_le_mul_right (4194304 + 2) hl
    rw [unums_len, unums_len] at h3
    exact ⟨h3.1, Nat.le_trans h3.2 (Nat.le_trans h4 (by decide))⟩
  · rw [List.getD, List.getElem?_eq_none (by omega)]
    simp [fnone]
/-- What the region leaves: a request of its own in memory. -/
def AskR (w3 : World) (t1 t2 t3 : ByteArray) (B : List Int) (NL : List (ByteArray × ByteArray)) (r : Value) (wz : World) : Prop :=
  ∃ n ja jc JL ua uc, r = .pointer (some ⟨n, 0, none⟩) ∧ Vl (RB wz n t1 t2 t3 (.slice ja JL.length jc) (.slice ua B.length uc)) ∧ Vl (FOwn wz w3.heap.size (.slice ja JL.length jc) JL) ∧ Vl (UOwn wz w3.heap.size (.slice ua B.length uc) B) ∧ Vl (fdsOf JL = joinL (fdsOf NL)) ∧ Vl (Below w3.heap.size w3 wz) ∧ w3.heap.size ≤ n
theorem five_heap (w : World) (n : Nat) (v0 v1 v2 v3 v4 a0 a1 a2 a3 a4 : Value) (t : TypeId) (h : w.heap[n]? = some (.cells #[a0, a1, a2, a3, a4] t (0, 0))) :
    (((((w.setCell ⟨n, 0, none⟩ v0).setCell ⟨n, 1, none⟩ v1).setCell ⟨n, 2, none⟩ v2).setCell ⟨n, 3, none⟩ v3).setCell ⟨n, 4, none⟩ v4).heap[n]? = some (.cells #[v0, v1, v2, v3, v4] t (0, 0)) := by
  have step : ∀ (W : World) (cs : Array Value) (i : Nat) (v : Value), W.heap[n]? = some (.cells cs t (0, 0)) → i < cs.size → (W.setCell ⟨n, i, none⟩ v).heap[n]? = some (.cells (cs.setIfInBounds i v) t (0, 0)) := fun W cs i v hW _ => heap_setCell_same W n i cs t v hW
  have h1 := step w _ 0 v0 h (by simp)
  have h2 := step _ _ 1 v1 h1 (by simp)
  have h3 := step _ _ 2 v2 h2 (by simp)
  have h4 := step _ _ 3 v3 h3 (by simp)
  have h5 := step _ _ 4 v4 h4 (by simp)
  simpa using h5
theorem five_other (w : World) (n g : Nat) (v0 v1 v2 v3 v4 : Value) (hg : g ≠ n) :
    (((((w.setCell ⟨n, 0, none⟩ v0).setCell ⟨n, 1, none⟩ v1).setCell ⟨n, 2, none⟩ v2).setCell ⟨n, 3, none⟩ v3).setCell ⟨n, 4, none⟩ v4).heap[g]? = w.heap[g]? := by
  rw [Below.heap_setCell _ _ _ _ hg, Below.heap_setCell _ _ _ _ hg, Below.heap_setCell _ _ _ _ hg, Below.heap_setCell _ _ _ _ hg, Below.heap_setCell _ _ _ _ hg]
theorem fown_keep {w w' : World} {base : Nat} {v : Value} {L : List (ByteArray × ByteArray)} (h : FOwn w base v L) (hk : ∀ k, v.ownBlock = some k → w'.heap[k]? = w.heap[k]?) : FOwn w' base v L := by
  obtain ⟨h1, ⟨rfl, h0⟩ | ⟨g, cap, cur, rfl, hg, hc, hr⟩⟩ := id h
  · exact ⟨h1, Or.inl ⟨rfl, h0⟩⟩
  · exact ⟨h1, Or.inr ⟨g, cap, cur, rfl, hg, (hk g rfl).trans hc, hr⟩⟩
theorem fown_rne {w : World} {base n : Nat} {v : Value} {L : List (ByteArray × ByteArray)} {m p h : ByteArray} {fv bv : Value} (hF : FOwn w base v L) (hR : RB w n m p h fv bv) : ∀ k, v.ownBlock = some k → k ≠ n := by
  obtain ⟨h1, ⟨rfl, h0⟩ | ⟨g, cap, cur, rfl, hg, hc, hr⟩⟩ := id hF
  · intro k hk; cases hk
  · rintro k hk rfl
    cases hk
    have := hc.symm.trans hR
    injection this with this
    injection this with _ this
    exact absurd this (by decide)
theorem ask_fin {w3 w6 : World} {n : Nat} {t1 t2 t3 : ByteArray} {ja ua : Option Addr} {jc uc : Nat} {JL NL : List (ByteArray × ByteArray)} {B : List Int} (hq : Below w3.heap.size w3 w6) (hn : w3.heap.size ≤ n)
    (hR : RB w6 n ⟨#[]⟩ ⟨#[]⟩ ⟨#[]⟩ (.slice none 0 0) (.slice none 0 0)) (hF : FOwn w6 w3.heap.size (.slice ja JL.length jc) JL) (hU : UOwn w6 w3.heap.size (.slice ua B.length uc) B) (hE : fdsOf JL = joinL (fdsOf NL))
    (hne : ∀ g, (Value.slice ua B.length uc).ownBlock = some g → g ≠ n) :
    AskR w3 t1 t2 t3 B NL (.pointer (some ⟨n, 0, none⟩)) (((((w6.setCell ⟨n, 0, none⟩ (.string t1)).setCell ⟨n, 1, none⟩ (.string t2)).setCell ⟨n, 2, none⟩ (.string t3)).setCell ⟨n, 3, none⟩ (.slice ja JL.length jc)).setCell ⟨n, 4, none⟩ (.slice ua B.length uc)) := by
  have hsz : w6.heap.size ≤ (((((w6.setCell ⟨n, 0, none⟩ (.string t1)).setCell ⟨n, 1, none⟩ (.string t2)).setCell ⟨n, 2, none⟩ (.string t3)).setCell ⟨n, 3, none⟩ (.slice ja JL.length jc)).setCell ⟨n, 4, none⟩ (.slice ua B.length uc)).heap.size := by simp
  refine ⟨n, ja, jc, JL, ua, uc, rfl, vl (five_heap w6 n _ _ _ _ _ _ _ _ _ _ _ hR), vl ?_, vl (UOwn.block hU hsz fun k hk => five_other w6 n k _ _ _ _ _ (hne k hk)), vl hE, vl (five_set hq hn _ _ _ _ _), hn⟩
  exact fown_keep hF fun k hk => five_other w6 n k _ _ _ _ _ (fown_rne hF hR k hk)
theorem run_rqstore3 {w : World} {x : Nat} {m p h m' p' h' : ByteArray} {fv bv fv' bv' : Value} (k : RB w x m p h fv bv) (h1 : fv'.oneCell' = true) (h2 : bv'.oneCell' = true) :
    ∃ w', (storeCells ⟨x, 0, none⟩ [.string m', .string p', .string h', fv', bv'] 0).run Tryz.prog w = .ok () w' ∧ RB w' x m' p' h' fv' bv' ∧ w.grownBy w' (some x) := by
  have hk : w.heap[x]? = some (.cells #[.string m, .string p, .string h, fv, bv] 25 (0, 0)) := k
  have hst := run_storeCells_from (P := Tryz.prog) x 25 [.string m', .string p', .string h', fv', bv'] 0 _ w hk rfl (by intro v hv; simp at hv; rcases hv with rfl | rfl | rfl | rfl | rfl <;> first | rfl | assumption)
  exact ⟨_, by simpa using hst, rq_row k, row_grown w x _⟩
theorem ask_fin2 {w3 w6 w7 : World} {n : Nat} {t1 t2 t3 : ByteArray} {ja ua : Option Addr} {jc uc : Nat} {JL NL : List (ByteArray × ByteArray)} {B : List Int} (hq : Below w3.heap.size w3 w7) (hn : w3.heap.size ≤ n)
    (hR : RB w6 n ⟨#[]⟩ ⟨#[]⟩ ⟨#[]⟩ (.slice none 0 0) (.slice none 0 0)) (hF : FOwn w6 w3.heap.size (.slice ja JL.length jc) JL) (hU : UOwn w6 w3.heap.size (.slice ua B.length uc) B) (hE : fdsOf JL = joinL (fdsOf NL))
    (hne : ∀ g, (Value.slice ua B.length uc).ownBlock = some g → g ≠ n) (hR7 : RB w7 n t1 t2 t3 (.slice ja JL.length jc) (.slice ua B.length uc)) (hg : w6.grownBy w7 (some n)) :
    AskR w3 t1 t2 t3 B NL (.pointer (some ⟨n, 0, none⟩)) w7 := by
  refine ⟨n, ja, jc, JL, ua, uc, rfl, vl hR7, vl ?_, vl (UOwn.block hU hg.size fun k hk => hg.block k (hU.base k hk).2 (fun e => hne k hk (Option.some.inj e))), vl hE, vl hq, hn⟩
  exact fown_keep hF fun k hk => hg.block k (hF.lt k hk).2 (fun e => fown_rne hF hR k hk (Option.some.inj e))
set_option maxHeartbeats 8000000 in
theorem xask_any (a : Option Addr) (len cap : Nat) (L : List (ByteArray × ByteArray)) (ba : Option Addr) (bn bc : Nat) (B : List Int) (w : World) (hd : xld.P w) (hA : FArg w a len cap L) (hl : len ≤ 4194304) (hs : VOk L)
    (hB : Arg w ba bn bc B) (hnil : ba = none → bn = 0 ∧ bc = 0) (hbn : bn ≤ 4194304) :
    Calls Tryz.prog 13 #[.slice a len cap, .slice ba bn bc] w fun e w' => AskE L B w e w' := by
  have HD := vl hd
  have HA := vl hA
  have HS := vl hs
  have HBB := vl hB
  clear hd hA hs hB
  obtain ⟨W0, hW0⟩ : ∃ x, w.alloc (.cells #[.string ⟨#[]⟩, .string ⟨#[]⟩, .string ⟨#[]⟩, .slice none 0 0, .slice none 0 0] 25) = x := ⟨_, rfl⟩
  obtain ⟨W1, hW1⟩ : ∃ x, W0.alloc (.cells #[.string ⟨#[58, 109, 101, 116, 104, 111, 100]⟩, .string ⟨#[58, 112, 97, 116, 104]⟩, .string ⟨#[58, 104, 111, 115, 116]⟩] 9) = x := ⟨_, rfl⟩
  have HP0 : Vl (RB W0 w.heap.size ⟨#[]⟩ ⟨#[]⟩ ⟨#[]⟩ (.slice none 0 0) (.slice none 0 0)) := vl (by rw [← hW0]; exact heap_alloc_new w _)
  have hs0 : W0.heap.size = w.heap.size + 1 := by rw [← hW0]; simp
  have hb1 : Below W0.heap.size W0 W1 := by rw [← hW1]; exact (Below.refl _ W0).alloc (Nat.le_refl _) _
  have hs1 : W1.heap.size = W0.heap.size + 1 := by rw [← hW1]; simp
  have HP1 := vl (HP0.out.on hb1)
  have hbw0 : Below w.heap.size w W0 := by rw [← hW0]; exact (Below.refl _ w).alloc (Nat.le_refl _) _
  have HBW1 : Vl (Below w.heap.size w W1) := vl (hbw0.trans (hb1.mono (by omega)))
  have HN1 : Vl (Pcs W1 W0.heap.size [⟨#[58, 109, 101, 116, 104, 111, 100]⟩, ⟨#[58, 112, 97, 116, 104]⟩, ⟨#[58, 104, 111, 115, 116]⟩]) := vl (by rw [← hW1]; exact Pcs.made W0 [⟨#[58, 109, 101, 116, 104, 111, 100]⟩, ⟨#[58, 112, 97, 116, 104]⟩, ⟨#[58, 104, 111, 115, 116]⟩])
  have HL := vl (xlead_any a len cap L W0.heap.size [⟨#[58, 109, 101, 116, 104, 111, 100]⟩, ⟨#[58, 112, 97, 116, 104]⟩, ⟨#[58, 104, 111, 115, 116]⟩] W1 (HA.out.below HBW1.out) HN1.out (by simp) (by intro x hx; simp at hx; rcases hx with rfl | rfl | rfl <;> decide) (by simp) (by omega) (fun t => (HS.out t).1))
  have hsL : w.heap.size < W1.heap.size := by omega
  clear hbw0 hb1 hs0 hs1
  go_enter Tryz.func13, Tryz.ntmps13
  go_wp2_with fail
  refine HL.out.mono ?_
  rintro e w2 hE
  rcases hE with ⟨mb, c, D, rfl, hok, hmo, hld, hsz, hb2⟩ | ⟨v, rfl, hno, hb2⟩
  · have HOK : Vl (LeadOk psd3 (fdsOf L)) := vl hok
    have HLD : Vl (LdM D (fstB L 3)) := vl hld
    have HMO := vl hmo
    have HSZ : Vl (Maps.size D = 3) := vl hsz
    have HB2 := vl (HBW1.out.trans (hb2.mono (Nat.le_of_lt hsL)))
    have HPP := vl (HP1.out.on hb2)
    have hswl : w.heap.size < w2.heap.size := Nat.lt_of_lt_of_le hsL hb2.size
    have hlen := HA.out.len
    have hpos : 3 ≤ len := by
      obtain ⟨x, y, z, B', he, _⟩ := lead_three HOK.out
      have := congrArg List.length he
      rw [fds_len] at this
      simp at this
      omega
    have hpos' : (3 : Int) ≤ (len : Int) := by omega
    rcases HA.out.below HB2.out with ⟨h0, _⟩ | ⟨g, off, ea, hr⟩
    · omega
    subst ea
    have hcap := hr.hcap
    have hmax := hr.hmax
    unfold maxLen at hmax
    obtain ⟨o, ho, hTo⟩ : ∃ o, (if cap = 3 then some (⟨g, off, none⟩ : Addr) else some ⟨g, off + 6, none⟩) = some ⟨g, o, none⟩ ∧ FArg w2 (some ⟨g, o, none⟩) (len - 3) (cap - 3) (L.drop 3) := by
      by_cases hc : cap = 3
      · exact ⟨off, if_pos hc, Or.inl ⟨by omega, List.eq_nil_of_length_eq_zero (by rw [List.length_drop]; omega)⟩⟩
      · exact ⟨off + 6, if_neg hc, farg_tail hr 3 hpos⟩
    have HTW : Vl (FArg w2 (some ⟨g, o, none⟩) (len - 3) (cap - 3) (L.drop 3)) := vl hTo
    have HSD : Vl (VOk (L.drop 3)) := vl (fun t => by
      have : (L.drop 3).getD t fnone = L.getD (3 + t) fnone := by simp [List.getD]
      rw [this]
      exact HS.out (3 + t))
    have HFR := vl hr
    clear hok hld hmo hsz hb2 hW0 hW1 HL HP1 HP0 HN1 HBW1 hr
    clear hTo
    go_wp2_with (first | (at_len; refine wpList_len_own _ rfl _ 94 rfl 9 3 Tryz.underlying94 _ mb c D rfl HMO.out ?_; rw [HSZ.out]))
    clear ho
    refine (xmay_any _ _ _ (L.drop 3) bn w2 HTW.out (by omega) (fun t => (HSD.out t).1) (by omega) (HD.out.1.below HB2.out)).mono ?_
    rintro e w3 ⟨rfl, hb3⟩
    have HB3 := vl (HB2.out.trans (hb3.mono (Nat.le_of_lt hswl)))
    have HPP3 := vl (HPP.out.on hb3)
    have hsw3 : w.heap.size < w3.heap.size := Nat.lt_of_lt_of_le hswl hb3.size
    have HBL : Vl (B.length = bn) := vl HBB.out.len
    obtain ⟨b, hbb⟩ : ∃ b, (fdsOf (L.drop 3)).any (badF bn) = b := ⟨_, rfl⟩
    have HANY : Vl (((fdsOf L).drop 3).any (badF B.length) = b) := vl (by rw [HBL.out, ← hbb]; congr 1; simp [fdsOf])
    rw [hbb]
    clear hbb
    cases b with
    | true =>
      have HW : Vl (askW (fdsOf L) B = (3, default)) := vl (ask_no (Or.inr HANY.out))
      clear hb3 HPP HB2 HMO
      go_wp2_with (refine wpList_rqstore _ rfl _ _ rfl w.heap.size _ _ _ ⟨#[]⟩ ⟨#[]⟩ ⟨#[]⟩ _ _ (.slice none 0 0) (.slice none 0 0) rfl rfl HPP3.out rfl rfl ?_)
      intro w4 hR hg4
      have HB4 : Vl (Below w.heap.size w w4) := vl (below_grown HB3.out hg4 (Nat.le_of_lt hsw3) (fun k hk => by cases hk; exact Nat.le_refl _))
      obtain ⟨z0, z1, z2, z3, z4⟩ := hR.cells
      clear hR hg4 HPP3 HB3
      go_wp2_with fail
      refine bodyPost_ret (v := .tuple #[.agg #[.string ⟨#[]⟩, .string ⟨#[]⟩, .string ⟨#[]⟩, .slice none 0 0, .slice none 0 0], .iface 88 (.int .i64 3)]) (by simp [results, Tryz.results13, go_sem, z0, z1, z2, z3, z4]; try rfl) rfl ?_
      unfold AskE
      rw [HW.out]
      exact ⟨⟨⟨#[]⟩, ⟨#[]⟩, ⟨#[]⟩, none, 0, 0, none, 0, 0, [], []⟩, rfl, rq_zero _, rfl, HB4.out⟩
    | false =>
      obtain ⟨i1, hi1, hl1, ha1, hv1⟩ := lead_at (n := ⟨#[58, 109, 101, 116, 104, 111, 100]⟩) HOK.out HLD.out (by decide)
      obtain ⟨i2, hi2, hl2, ha2, hv2⟩ := lead_at (n := ⟨#[58, 112, 97, 116, 104]⟩) HOK.out HLD.out (by decide)
      obtain ⟨i3, hi3, hl3, ha3, hv3⟩ := lead_at (n := ⟨#[58, 104, 111, 115, 116]⟩) HOK.out HLD.out (by decide)
      have HV1 := vl hv1
      have HV2 := vl hv2
      have HV3 := vl hv3
      have hz1 := (HS.out i1).2
      have hz2 := (HS.out i2).2
      have hz3 := (HS.out i3).2
      have HMO3 := vl (mown_below HMO.out hb3)
      have HFR3 := vl (HFR.out.below hb3)
      have HKP : Vl (∀ w', Below w3.heap.size w3 w' → (w'.cell? ⟨g, off + i1 * 2 + 1, none⟩ = some (.string (L.getD i1 fnone).2) ∧ w'.cell? ⟨g, off + i2 * 2 + 1, none⟩ = some (.string (L.getD i2 fnone).2) ∧ w'.cell? ⟨g, off + i3 * 2 + 1, none⟩ = some (.string (L.getD i3 fnone).2)) ∧
          ((Instr.lookup 94 (.map (some mb)) (.string ⟨#[58, 109, 101, 116, 104, 111, 100]⟩) false).run Tryz.prog w' = .ok (.int .i64 (i1 : Nat)) w' ∧ (Instr.lookup 94 (.map (some mb)) (.string ⟨#[58, 112, 97, 116, 104]⟩) false).run Tryz.prog w' = .ok (.int .i64 (i2 : Nat)) w' ∧ (Instr.lookup 94 (.map (some mb)) (.string ⟨#[58, 104, 111, 115, 116]⟩) false).run Tryz.prog w' = .ok (.int .i64 (i3 : Nat)) w')) := vl (fun w' hb => by
        have hf := HFR3.out.below hb
        have ho := mown_below HMO3.out hb
        exact ⟨⟨hf.hvalue i1 (by omega), hf.hvalue i2 (by omega), hf.hvalue i3 (by omega)⟩, mown_at ho (by decide) ha1, mown_at ho (by decide) ha2, mown_at ho (by decide) ha3⟩)
      have q1 : (i1 : Int) < (len : Int) := by omega
      have q2 : (i2 : Int) < (len : Int) := by omega
      have q3 : (i3 : Int) < (len : Int) := by omega
      have p1 : (0 : Int) ≤ (i1 : Int) := by omega
      have p2 : (0 : Int) ≤ (i2 : Int) := by omega
      have p3 : (0 : Int) ≤ (i3 : Int) := by omega
      have HTL3 := vl (HTW.out.below hb3)
      have HXA : Vl (∀ W', Below w3.heap.size w3 W' → Calls Tryz.prog 50 #[.slice (some ⟨g, o, none⟩) (len - 3) (cap - 3), .func (.func 51) #[] #[]] W' fun e w'' => ∃ vf, e = .returned vf ∧ FOwn w'' W'.heap.size vf ((L.drop 3).filter (kpF isLn)) ∧ Below W'.heap.size W' w'') := vl (fun W' hb => xwo_any _ _ _ (L.drop 3) _ isLn W' (HTL3.out.below hb) (by omega) (fun t => (HSD.out t).1) (prd_len W'))
      have HNV : Vl (VOk ((L.drop 3).filter (kpF isLn))) := vl (filt_vok HSD.out)
      have hnl : ((L.drop 3).filter (kpF isLn)).length ≤ 4194304 := Nat.le_trans (List.length_filter_le _ _) (by rw [List.length_drop]; omega)
      have HNF := vl (fds_filter (L.drop 3) isLn)
      generalize (L.drop 3).filter (kpF isLn) = NL at *
      have HXJ : Vl (∀ W' fa fc bs, FOwn W' bs (.slice fa NL.length fc) NL → bs ≤ W'.heap.size → Calls Tryz.prog 49 #[.slice fa NL.length fc] W' fun e w'' => JcE bs NL W' e w'') := vl (fun W' fa fc bs h hle => xjc_any fa NL.length fc bs NL W' rfl h hnl HNV.out hle)
      have HCL : Vl (∀ W', Below w3.heap.size w3 W' → Calls Tryz.prog 52 #[.slice ba bn bc] W' fun e w'' => ∃ v, e = .returned v ∧ UOwn w'' W'.heap.size v B ∧ Below W'.heap.size W' w'') := vl (fun W' hb => clone_arg ba bn bc B W' (HBB.out.below (HB3.out.trans (hb.mono (Nat.le_of_lt hsw3)))) (fun e => (hnil e).1) (by omega))
      generalize (L.getD i1 fnone).2 = t1 at *
      generalize (L.getD i2 fnone).2 = t2 at *
      generalize (L.getD i3 fnone).2 = t3 at *
      have HXW : Vl (∀ W', Below w3.heap.size w3 W' → Calls Tryz.prog 50 #[.slice (some ⟨g, o, none⟩) (len - 3) (cap - 3), .func (.func 51) #[] #[]] W' fun e w4 => ∃ fa fc, e = .returned (.slice fa NL.length fc) ∧ Below w3.heap.size w3 w4 ∧ Vl (FOwn w4 w3.heap.size (.slice fa NL.length fc) NL) ∧ w3.heap.size ≤ w4.heap.size ∧ Vl (∀ x, RB W' x ⟨#[]⟩ ⟨#[]⟩ ⟨#[]⟩ (.slice none 0 0) (.slice none 0 0) → RB w4 x ⟨#[]⟩ ⟨#[]⟩ ⟨#[]⟩ (.slice none 0 0) (.slice none 0 0))) := vl (fun W' hb => by
        refine (HXA.out W' hb).mono ?_
        rintro e w4 ⟨vf, rfl, ho, hb4⟩
        obtain ⟨fa, fc, rfl⟩ := fown_shape ho
        have hq := hb.trans (hb4.mono hb.size)
        exact ⟨fa, fc, rfl, hq, fown_mono ho hb.size, hq.size, fun x hx => hx.on hb4⟩)
      have HXK : Vl (∀ W' fa fc, Below w3.heap.size w3 W' → FOwn W' w3.heap.size (.slice fa NL.length fc) NL → Calls Tryz.prog 49 #[.slice fa NL.length fc] W' fun e w5 => ∃ ja jc JL, e = .returned (.slice ja JL.length jc) ∧ Below w3.heap.size w3 w5 ∧ Vl (FOwn w5 w3.heap.size (.slice ja JL.length jc) JL) ∧ Vl (fdsOf JL = joinL (fdsOf NL)) ∧ w3.heap.size ≤ w5.heap.size ∧ Vl (∀ x, RB W' x ⟨#[]⟩ ⟨#[]⟩ ⟨#[]⟩ (.slice none 0 0) (.slice none 0 0) → RB w5 x ⟨#[]⟩ ⟨#[]⟩ ⟨#[]⟩ (.slice none 0 0) (.slice none 0 0))) := vl (fun W' fa fc hb ho => by
        refine (HXJ.out W' fa fc w3.heap.size ho hb.size).mono ?_
        rintro e w5 ⟨v5, JL, rfl, ho5, he5, hb5⟩
        obtain ⟨ja, jc, rfl⟩ := fown_shape ho5
        have hq := hb.trans (hb5.mono hb.size)
        exact ⟨ja, jc, JL, rfl, hq, ho5, he5, hq.size, fun x hx => hx.on hb5⟩)
      have HXC : Vl (∀ W' v JL, Below w3.heap.size w3 W' → FOwn W' w3.heap.size v JL → Calls Tryz.prog 52 #[.slice ba bn bc] W' fun e w6 => ∃ ua uc, e = .returned (.slice ua B.length uc) ∧ Below w3.heap.size w3 w6 ∧ Vl (UOwn w6 w3.heap.size (.slice ua B.length uc) B) ∧ Vl (FOwn w6 w3.heap.size v JL) ∧ w3.heap.size ≤ w6.heap.size ∧ Vl (∀ x, RB W' x ⟨#[]⟩ ⟨#[]⟩ ⟨#[]⟩ (.slice none 0 0) (.slice none 0 0) → RB w6 x ⟨#[]⟩ ⟨#[]⟩ ⟨#[]⟩ (.slice none 0 0) (.slice none 0 0) ∧ ∀ g, (Value.slice ua B.length uc).ownBlock = some g → g ≠ x) ∧ Vl (∀ g, (Value.slice ua B.length uc).ownBlock = some g → g < w6.heap.size)) := vl (fun W' v JL hb ho => by
        refine (HCL.out W' hb).mono ?_
        rintro e w6 ⟨v6, rfl, ho6, hb6⟩
        obtain ⟨ua, uc, rfl, _⟩ := ho6.slice
        have hq := hb.trans (hb6.mono hb.size)
        exact ⟨ua, uc, rfl, hq, ho6.mono hb.size, fown_below ho hb6, hq.size, fun x hx => ⟨hx.on hb6, fun g hg => Nat.ne_of_gt (Nat.lt_of_lt_of_le hx.lt (ho6.base g hg).1)⟩, fun g hg => (ho6.base g hg).2⟩)
      have hq0 : Below w3.heap.size w3 w3.drew := (Below.refl _ w3).drew
      have hq0a : Below w3.heap.size w3 (w3.alloc (.cells #[.string ⟨#[]⟩, .string ⟨#[]⟩, .string ⟨#[]⟩, .slice none 0 0, .slice none 0 0] 25)).drew := ((Below.refl _ w3).alloc (Nat.le_refl _) _).drew
      have RB0 : RB (w3.alloc (.cells #[.string ⟨#[]⟩, .string ⟨#[]⟩, .string ⟨#[]⟩, .slice none 0 0, .slice none 0 0] 25)).drew w3.heap.size ⟨#[]⟩ ⟨#[]⟩ ⟨#[]⟩ (.slice none 0 0) (.slice none 0 0) := rb_made w3
      clear HXA HXJ HCL HSD
      clear hb3 HPP HB2 HMO ha1 ha2 ha3 hv1 hv2 hv3 HMO3 HFR3 HFR HTL3 HTW
      go_upto_region 7 with fail
      go_cut [9] (fun r wz => AskR w3 t1 t2 t3 B NL r wz)
      case first =>
        as_aux_lemma =>
          refine wp_region_noPanic ?_
          refine wp_region_held_drew (S := (fun w' => (w'.cell? ⟨g, off + i1 * 2 + 1, none⟩ = some (.string t1) ∧ w'.cell? ⟨g, off + i2 * 2 + 1, none⟩ = some (.string t2) ∧ w'.cell? ⟨g, off + i3 * 2 + 1, none⟩ = some (.string t3)) ∧ ((Instr.lookup 94 (.map (some mb)) (.string ⟨#[58, 109, 101, 116, 104, 111, 100]⟩) false).run Tryz.prog w' = .ok (.int .i64 (i1 : Nat)) w' ∧ (Instr.lookup 94 (.map (some mb)) (.string ⟨#[58, 112, 97, 116, 104]⟩) false).run Tryz.prog w' = .ok (.int .i64 (i2 : Nat)) w' ∧ (Instr.lookup 94 (.map (some mb)) (.string ⟨#[58, 104, 111, 115, 116]⟩) false).run Tryz.prog w' = .ok (.int .i64 (i3 : Nat)) w'))) (by kernel_rfl) (HKP.out _ hq0) (fun hHeld => ?_)
          refine wpAnyH_take (i := 0) (oi := { dst := some 33, op := Op.move (Operand.tmp 0), type := 22, pos := "fields.go:27", after := #[], guard := none }) (v := .slice (some ⟨g, off, none⟩) len cap) rfl (by kernel_rfl) (by kernel_rfl) (by kernel_rfl) (fun _ _ _ h => h) (Or.inl ⟨by rfl, (by intro w hSw; (try dsimp only at hSw); go_simp)⟩) hHeld ?_
          try simp only [Act.put, List.setIfInBounds_toArray, List.set_cons_zero, List.set_cons_succ]
          refine wpAnyH_take (i := 1) (oi := { dst := some 34, op := Op.move (Operand.tmp 6), type := 94, pos := "fields.go:27", after := #[], guard := none }) (v := .map (some mb)) rfl (by kernel_rfl) (by kernel_rfl) (by kernel_rfl) (fun _ _ _ h => h) (Or.inl ⟨by rfl, (by intro w hSw; (try dsimp only at hSw); go_simp)⟩) hHeld ?_
          try simp only [Act.put, List.setIfInBounds_toArray, List.set_cons_zero, List.set_cons_succ]
          refine wpAnyH_take (i := 6) (oi := { dst := some 39, op := Op.move (Operand.tmp 0), type := 22, pos := "fields.go:27", after := #[], guard := none }) (v := .slice (some ⟨g, off, none⟩) len cap) rfl (by kernel_rfl) (by kernel_rfl) (by kernel_rfl) (fun _ _ _ h => h) (Or.inl ⟨by rfl, (by intro w hSw; (try dsimp only at hSw); go_simp)⟩) hHeld ?_
          try simp only [Act.put, List.setIfInBounds_toArray, List.set_cons_zero, List.set_cons_succ]
          refine wpAnyH_take (i := 7) (oi := { dst := some 40, op := Op.move (Operand.tmp 6), type := 94, pos := "fields.go:27", after := #[], guard := none }) (v := .map (some mb)) rfl (by kernel_rfl) (by kernel_rfl) (by kernel_rfl) (fun _ _ _ h => h) (Or.inl ⟨by rfl, (by intro w hSw; (try dsimp only at hSw); go_simp)⟩) hHeld ?_
          try simp only [Act.put, List.setIfInBounds_toArray, List.set_cons_zero, List.set_cons_succ]
          refine wpAnyH_take (i := 12) (oi := { dst := some 45, op := Op.move (Operand.tmp 0), type := 22, pos := "fields.go:27", after := #[], guard := none }) (v := .slice (some ⟨g, off, none⟩) len cap) rfl (by kernel_rfl) (by kernel_rfl) (by kernel_rfl) (fun _ _ _ h => h) (Or.inl ⟨by rfl, (by intro w hSw; (try dsimp only at hSw); go_simp)⟩) hHeld ?_
          try simp only [Act.put, List.setIfInBounds_toArray, List.set_cons_zero, List.set_cons_succ]
          refine wpAnyH_take (i := 13) (oi := { dst := some 46, op := Op.move (Operand.tmp 6), type := 94, pos := "fields.go:27", after := #[], guard := none }) (v := .map (some mb)) rfl (by kernel_rfl) (by kernel_rfl) (by kernel_rfl) (fun _ _ _ h => h) (Or.inl ⟨by rfl, (by intro w hSw; (try dsimp only at hSw); go_simp)⟩) hHeld ?_
          try simp only [Act.put, List.setIfInBounds_toArray, List.set_cons_zero, List.set_cons_succ]
          refine wpAnyH_take (i := 18) (oi := { dst := some 51, op := Op.move (Operand.tmp 8), type := 22, pos := "fields.go:27", after := #[], guard := none }) (v := .slice (some ⟨g, o, none⟩) (len - 3) (cap - 3)) rfl (by kernel_rfl) (by kernel_rfl) (by kernel_rfl) (fun _ _ _ h => h) (Or.inl ⟨by rfl, (by intro w hSw; (try dsimp only at hSw); go_simp)⟩) hHeld ?_
          try simp only [Act.put, List.setIfInBounds_toArray, List.set_cons_zero, List.set_cons_succ]
          refine wpAnyH_take (i := 21) (oi := { dst := some 54, op := Op.move (Operand.tmp 1), type := 23, pos := "fields.go:27", after := #[], guard := none }) (v := .slice ba bn bc) rfl (by kernel_rfl) (by kernel_rfl) (by kernel_rfl) (fun _ _ _ h => h) (Or.inl ⟨by rfl, (by intro w hSw; (try dsimp only at hSw); go_simp)⟩) hHeld ?_
          try simp only [Act.put, List.setIfInBounds_toArray, List.set_cons_zero, List.set_cons_succ]
          refine wpAnyH_take (i := 2) (oi := { dst := some 35, op := Op.lookup 94 (Operand.tmp 34) (Operand.const (Value.string { data := #[58, 109, 101, 116, 104, 111, 100] })) false, type := 3, pos := "fields.go:27", after := #[{ on := 1, ground := Ground.data }], guard := none }) (v := .int .i64 (i1 : Nat)) rfl (by kernel_rfl) (by kernel_rfl) (by kernel_rfl) (fun _ _ _ h => h) (Or.inl ⟨by rfl, (by intro w hSw; (try dsimp only at hSw); go_simp)⟩) hHeld ?_
          try simp only [Act.put, List.setIfInBounds_toArray, List.set_cons_zero, List.set_cons_succ]
          refine wpAnyH_take (i := 3) (oi := { dst := some 36, op := Op.indexAddr 22 (Operand.tmp 33) (Operand.tmp 35), type := 0, pos := "fields.go:27", after := #[{ on := 0, ground := Ground.data }, { on := 2, ground := Ground.data }], guard := none }) (v := .pointer (some ⟨g, off + i1 * 2, none⟩)) rfl (by kernel_rfl) (by kernel_rfl) (by kernel_rfl) (fun _ _ _ h => h) (Or.inl ⟨by rfl, (by intro w hSw; (try dsimp only at hSw); go_simp)⟩) hHeld ?_
          try simp only [Act.put, List.setIfInBounds_toArray, List.set_cons_zero, List.set_cons_succ]
          refine wpAnyH_take (i := 4) (oi := { dst := some 37, op := Op.fieldAddr 51 (Operand.tmp 36) 1, type := 0, pos := "fields.go:27", after := #[{ on := 3, ground := Ground.data }], guard := none }) (v := .pointer (some ⟨g, off + i1 * 2 + 1, none⟩)) rfl (by kernel_rfl) (by kernel_rfl) (by kernel_rfl) (fun _ _ _ h => h) (Or.inl ⟨by rfl, (by intro w hSw; (try dsimp only at hSw); go_simp)⟩) hHeld ?_
          try simp only [Act.put, List.setIfInBounds_toArray, List.set_cons_zero, List.set_cons_succ]
          refine wpAnyH_take (i := 5) (oi := { dst := some 38, op := Op.load 9 (Operand.tmp 37), type := 9, pos := "fields.go:27", after := #[{ on := 4, ground := Ground.data }], guard := none }) (v := .string t1) rfl (by kernel_rfl) (by kernel_rfl) (by kernel_rfl) (fun _ _ _ h => h) (Or.inl ⟨by rfl, (by intro w hSw; (try dsimp only at hSw); go_simp)⟩) hHeld ?_
          try simp only [Act.put, List.setIfInBounds_toArray, List.set_cons_zero, List.set_cons_succ]
          refine wpAnyH_take (i := 8) (oi := { dst := some 41, op := Op.lookup 94 (Operand.tmp 40) (Operand.const (Value.string { data := #[58, 112, 97, 116, 104] })) false, type := 3, pos := "fields.go:27", after := #[{ on := 7, ground := Ground.data }], guard := none }) (v := .int .i64 (i2 : Nat)) rfl (by kernel_rfl) (by kernel_rfl) (by kernel_rfl) (fun _ _ _ h => h) (Or.inl ⟨by rfl, (by intro w hSw; (try dsimp only at hSw); go_simp)⟩) hHeld ?_
          try simp only [Act.put, List.setIfInBounds_toArray, List.set_cons_zero, List.set_cons_succ]
          refine wpAnyH_take (i := 9) (oi := { dst := some 42, op := Op.indexAddr 22 (Operand.tmp 39) (Operand.tmp 41), type := 0, pos := "fields.go:27", after := #[{ on := 6, ground := Ground.data }, { on := 8, ground := Ground.data }], guard := none }) (v := .pointer (some ⟨g, off + i2 * 2, none⟩)) rfl (by kernel_rfl) (by kernel_rfl) (by kernel_rfl) (fun _ _ _ h => h) (Or.inl ⟨by rfl, (by intro w hSw; (try dsimp only at hSw); go_simp)⟩) hHeld ?_
          try simp only [Act.put, List.setIfInBounds_toArray, List.set_cons_zero, List.set_cons_succ]
          refine wpAnyH_take (i := 10) (oi := { dst := some 43, op := Op.fieldAddr 51 (Operand.tmp 42) 1, type := 0, pos := "fields.go:27", after := #[{ on := 9, ground := Ground.data }], guard := none }) (v := .pointer (some ⟨g, off + i2 * 2 + 1, none⟩)) rfl (by kernel_rfl) (by kernel_rfl) (by kernel_rfl) (fun _ _ _ h => h) (Or.inl ⟨by rfl, (by intro w hSw; (try dsimp only at hSw); go_simp)⟩) hHeld ?_
          try simp only [Act.put, List.setIfInBounds_toArray, List.set_cons_zero, List.set_cons_succ]
          refine wpAnyH_take (i := 11) (oi := { dst := some 44, op := Op.load 9 (Operand.tmp 43), type := 9, pos := "fields.go:27", after := #[{ on := 10, ground := Ground.data }], guard := none }) (v := .string t2) rfl (by kernel_rfl) (by kernel_rfl) (by kernel_rfl) (fun _ _ _ h => h) (Or.inl ⟨by rfl, (by intro w hSw; (try dsimp only at hSw); go_simp)⟩) hHeld ?_
          try simp only [Act.put, List.setIfInBounds_toArray, List.set_cons_zero, List.set_cons_succ]
          refine wpAnyH_take (i := 14) (oi := { dst := some 47, op := Op.lookup 94 (Operand.tmp 46) (Operand.const (Value.string { data := #[58, 104, 111, 115, 116] })) false, type := 3, pos := "fields.go:27", after := #[{ on := 13, ground := Ground.data }], guard := none }) (v := .int .i64 (i3 : Nat)) rfl (by kernel_rfl) (by kernel_rfl) (by kernel_rfl) (fun _ _ _ h => h) (Or.inl ⟨by rfl, (by intro w hSw; (try dsimp only at hSw); go_simp)⟩) hHeld ?_
          try simp only [Act.put, List.setIfInBounds_toArray, List.set_cons_zero, List.set_cons_succ]
          refine wpAnyH_take (i := 15) (oi := { dst := some 48, op := Op.indexAddr 22 (Operand.tmp 45) (Operand.tmp 47), type := 0, pos := "fields.go:27", after := #[{ on := 12, ground := Ground.data }, { on := 14, ground := Ground.data }], guard := none }) (v := .pointer (some ⟨g, off + i3 * 2, none⟩)) rfl (by kernel_rfl) (by kernel_rfl) (by kernel_rfl) (fun _ _ _ h => h) (Or.inl ⟨by rfl, (by intro w hSw; (try dsimp only at hSw); go_simp)⟩) hHeld ?_
          try simp only [Act.put, List.setIfInBounds_toArray, List.set_cons_zero, List.set_cons_succ]
          refine wpAnyH_take (i := 16) (oi := { dst := some 49, op := Op.fieldAddr 51 (Operand.tmp 48) 1, type := 0, pos := "fields.go:27", after := #[{ on := 15, ground := Ground.data }], guard := none }) (v := .pointer (some ⟨g, off + i3 * 2 + 1, none⟩)) rfl (by kernel_rfl) (by kernel_rfl) (by kernel_rfl) (fun _ _ _ h => h) (Or.inl ⟨by rfl, (by intro w hSw; (try dsimp only at hSw); go_simp)⟩) hHeld ?_
          try simp only [Act.put, List.setIfInBounds_toArray, List.set_cons_zero, List.set_cons_succ]
          refine wpAnyH_take (i := 17) (oi := { dst := some 50, op := Op.load 9 (Operand.tmp 49), type := 9, pos := "fields.go:27", after := #[{ on := 16, ground := Ground.data }], guard := none }) (v := .string t3) rfl (by kernel_rfl) (by kernel_rfl) (by kernel_rfl) (fun _ _ _ h => h) (Or.inl ⟨by rfl, (by intro w hSw; (try dsimp only at hSw); go_simp)⟩) hHeld ?_
          try simp only [Act.put, List.setIfInBounds_toArray, List.set_cons_zero, List.set_cons_succ]
          refine wpAnyH_ready (rs := [19, 24]) (by kernel_rfl) (by simp) ?_
          refine AllReadyH.cons (o := { dst := some 52, op := Op.call { callee := Callee.value (Operand.func 50), args := #[Operand.tmp 51, Operand.func 51], argTypes := #[22, 99] }, type := 22, pos := "fields.go:31", after := #[{ on := 18, ground := Ground.data }], guard := none }) rfl (fun K hK => ?_) (AllReadyH.cons (o := { dst := some 9, op := Op.alloc 25, type := 0, pos := "fields.go:27", after := #[], guard := none }) rfl (fun K hK => ?_) AllReadyH.nil)
          · go_simp
            go_at_call 50
            refine (HXW.out _ hq0).mono ?_
            rintro e w4 ⟨fa, fc, rfl, hq4, HO4, hs4, HZ4⟩
            clear HZ4
            go_wp2_with fail
            refine hK.out _ _ (HKP.out _ hq4) (fun hHeld => ?_)
            clear hK K
            try simp only [Act.put, List.setIfInBounds_toArray, List.set_cons_zero, List.set_cons_succ]
            refine wpAnyH_ready (rs := [20, 24]) (by kernel_rfl) (by simp) ?_
            refine AllReadyH.cons (o := { dst := some 53, op := Op.call { callee := Callee.value (Operand.func 49), args := #[Operand.tmp 52], argTypes := #[22] }, type := 22, pos := "fields.go:31", after := #[{ on := 19, ground := Ground.data }, { on := 19, ground := Ground.chain }], guard := none }) rfl (fun K hK => ?_) (AllReadyH.cons (o := { dst := some 9, op := Op.alloc 25, type := 0, pos := "fields.go:27", after := #[], guard := none }) rfl (fun K hK => ?_) AllReadyH.nil)
            · go_simp
              go_at_call 49
              refine (HXK.out _ _ _ hq4 HO4.out).mono ?_
              rintro e w5 ⟨ja, jc, JL, rfl, hq5, HO5, HE5, hs5, HZ5⟩
              clear HZ5
              go_wp2_with fail
              refine hK.out _ _ (HKP.out _ hq5) (fun hHeld => ?_)
              clear hK K
              try simp only [Act.put, List.setIfInBounds_toArray, List.set_cons_zero, List.set_cons_succ]
              refine wpAnyH_ready (rs := [22, 24]) (by kernel_rfl) (by simp) ?_
              refine AllReadyH.cons (o := { dst := some 55, op := Op.call { callee := Callee.value (Operand.func 52), args := #[Operand.tmp 54], argTypes := #[23] }, type := 23, pos := "fields.go:32", after := #[{ on := 21, ground := Ground.data }, { on := 20, ground := Ground.chain }], guard := none }) rfl (fun K hK => ?_) (AllReadyH.cons (o := { dst := some 9, op := Op.alloc 25, type := 0, pos := "fields.go:27", after := #[], guard := none }) rfl (fun K hK => ?_) AllReadyH.nil)
              · go_simp
                go_at_call 52
                refine (HXC.out _ _ _ hq5 HO5.out).mono ?_
                rintro e w6 ⟨ua, uc, rfl, hq6, HU6, HO6, hs6, HZ6, HL6⟩
                clear HZ6
                go_wp2_with fail
                refine hK.out _ _ (HKP.out _ hq6) (fun hHeld => ?_)
                clear hK K
                try simp only [Act.put, List.setIfInBounds_toArray, List.set_cons_zero, List.set_cons_succ]
                refine wpAnyH_take (i := 23) (oi := { dst := some 56, op := Op.build 25 #[(0, Operand.tmp 38), (1, Operand.tmp 44), (2, Operand.tmp 50), (3, Operand.tmp 53), (4, Operand.tmp 55)], type := 25, pos := "fields.go:27", after := #[{ on := 5, ground := Ground.data }, { on := 11, ground := Ground.data }, { on := 17, ground := Ground.data }, { on := 20, ground := Ground.data }, { on := 22, ground := Ground.data }], guard := none }) (v := .agg #[.string t1, .string t2, .string t3, .slice ja JL.length jc, .slice ua B.length uc]) rfl (by kernel_rfl) (by kernel_rfl) (by kernel_rfl) (fun _ _ _ h => h) (Or.inl ⟨by rfl, (by intro w hSw; (try dsimp only at hSw); go_simp)⟩) hHeld ?_
                try simp only [Act.put, List.setIfInBounds_toArray, List.set_cons_zero, List.set_cons_succ]
                refine wpAnyH_ready (rs := [24]) (by kernel_rfl) (by simp) ?_
                refine AllReadyH.cons (o := { dst := some 9, op := Op.alloc 25, type := 0, pos := "fields.go:27", after := #[], guard := none }) rfl (fun K hK => ?_) AllReadyH.nil
                go_simp
                refine hK.out _ _ (HKP.out _ (Below.alloc hq6 hs6 _)) (fun hHeld => ?_)
                clear hK K
                try simp only [Act.put, List.setIfInBounds_toArray, List.set_cons_zero, List.set_cons_succ]
                refine wpAnyH_ready (rs := [25]) (by kernel_rfl) (by simp) ?_
                refine AllReadyH.cons (o := { dst := none, op := Op.store 25 (Operand.tmp 9) (Operand.tmp 56), type := 0, pos := "fields.go:27", after := #[{ on := 24, ground := Ground.data }, { on := 23, ground := Ground.data }, { on := 22, ground := Ground.chain }, { on := 0, ground := Ground.phase }, { on := 1, ground := Ground.phase }, { on := 2, ground := Ground.phase }, { on := 3, ground := Ground.phase }, { on := 4, ground := Ground.phase }, { on := 5, ground := Ground.phase }, { on := 6, ground := Ground.phase }, { on := 7, ground := Ground.phase }, { on := 8, ground := Ground.phase }, { on := 9, ground := Ground.phase }, { on := 10, ground := Ground.phase }, { on := 11, ground := Ground.phase }, { on := 12, ground := Ground.phase }, { on := 13, ground := Ground.phase }, { on := 14, ground := Ground.phase }, { on := 15, ground := Ground.phase }, { on := 16, ground := Ground.phase }, { on := 17, ground := Ground.phase }, { on := 18, ground := Ground.phase }, { on := 19, ground := Ground.phase }, { on := 20, ground := Ground.phase }, { on := 21, ground := Ground.phase }, { on := 22, ground := Ground.phase }, { on := 23, ground := Ground.phase }, { on := 24, ground := Ground.phase }], guard := none }) rfl (fun K hK => ?_) AllReadyH.nil
                have hq7 : Below w3.heap.size w3 ((w6.alloc (.cells #[.string ⟨#[]⟩, .string ⟨#[]⟩, .string ⟨#[]⟩, .slice none 0 0, .slice none 0 0] 25)).setRow w6.heap.size #[.string t1, .string t2, .string t3, .slice ja JL.length jc, .slice ua B.length uc]) := below_grown (Below.alloc hq6 hs6 _) (row_grown _ _ _) (Nat.le_trans hs6 (by simp)) (fun k hk => by cases hk; exact hs6)
                refine step_rqstore rfl _ _ rfl w6.heap.size _ _ _ t1 t2 t3 _ _ (.slice ja JL.length jc) (.slice ua B.length uc) rfl rfl (rb_made w6) rfl rfl ?_
                refine hK.out _ _ (HKP.out _ hq7) (fun hHeld => ?_)
                clear hK K
                try simp only [Act.put]
                refine wpAnyH_done (by kernel_rfl) ?_ _
                refine NoPanic.normal ?_
                have HFN := vl (ask_fin2 (t1 := t1) (t2 := t2) (t3 := t3) (NL := NL) hq7 hs6 (rb_made w6) (World.ownsRow.alloc HO6.out _) (HU6.out.below ((Below.refl _ w6).alloc (Nat.le_refl _) _)) HE5.out (fun g hg => Nat.ne_of_lt (HL6.out g hg)) (rq_row (rb_made w6)) (row_grown _ _ _))
                obtain ⟨w7, hw7⟩ : ∃ x, x = (w6.alloc (.cells #[.string ⟨#[]⟩, .string ⟨#[]⟩, .string ⟨#[]⟩, .slice none 0 0, .slice none 0 0] 25)).setRow w6.heap.size #[.string t1, .string t2, .string t3, .slice ja JL.length jc, .slice ua B.length uc] := ⟨_, rfl⟩
                rw [← hw7] at HFN ⊢
                clear hw7 hq7 hHeld HKP HXW HXK HXC
                go_wp2
                go_meet
                exact HFN.out
              · go_simp
                refine hK.out _ _ (HKP.out _ (Below.alloc hq5 hs5 _)) (fun hHeld => ?_)
                clear hK K
                try simp only [Act.put, List.setIfInBounds_toArray, List.set_cons_zero, List.set_cons_succ]
                refine wpAnyH_ready (rs := [22]) (by kernel_rfl) (by simp) ?_
                refine AllReadyH.cons (o := { dst := some 55, op := Op.call { callee := Callee.value (Operand.func 52), args := #[Operand.tmp 54], argTypes := #[23] }, type := 23, pos := "fields.go:32", after := #[{ on := 21, ground := Ground.data }, { on := 20, ground := Ground.chain }], guard := none }) rfl (fun K hK => ?_) AllReadyH.nil
                go_simp
                go_at_call 52
                refine (HXC.out _ _ _ (Below.alloc hq5 hs5 _) (World.ownsRow.alloc HO5.out _)).mono ?_
                rintro e w6 ⟨ua, uc, rfl, hq6, HU6, HO6, hs6, HZ6, HL6⟩
                have RN6 : RB w6 w5.heap.size ⟨#[]⟩ ⟨#[]⟩ ⟨#[]⟩ (.slice none 0 0) (.slice none 0 0) ∧ ∀ g, (Value.slice ua B.length uc).ownBlock = some g → g ≠ w5.heap.size := HZ6.out _ (rb_made w5)
                have RB6 := vl RN6.1
                have NE6 := vl RN6.2
                clear RN6
                clear HZ6
                go_wp2_with fail
                refine hK.out _ _ (HKP.out _ hq6) (fun hHeld => ?_)
                clear hK K
                try simp only [Act.put, List.setIfInBounds_toArray, List.set_cons_zero, List.set_cons_succ]
                refine wpAnyH_take (i := 23) (oi := { dst := some 56, op := Op.build 25 #[(0, Operand.tmp 38), (1, Operand.tmp 44), (2, Operand.tmp 50), (3, Operand.tmp 53), (4, Operand.tmp 55)], type := 25, pos := "fields.go:27", after := #[{ on := 5, ground := Ground.data }, { on := 11, ground := Ground.data }, { on := 17, ground := Ground.data }, { on := 20, ground := Ground.data }, { on := 22, ground := Ground.data }], guard := none }) (v := .agg #[.string t1, .string t2, .string t3, .slice ja JL.length jc, .slice ua B.length uc]) rfl (by kernel_rfl) (by kernel_rfl) (by kernel_rfl) (fun _ _ _ h => h) (Or.inl ⟨by rfl, (by intro w hSw; (try dsimp only at hSw); go_simp)⟩) hHeld ?_
                try simp only [Act.put, List.setIfInBounds_toArray, List.set_cons_zero, List.set_cons_succ]
                refine wpAnyH_ready (rs := [25]) (by kernel_rfl) (by simp) ?_
                refine AllReadyH.cons (o := { dst := none, op := Op.store 25 (Operand.tmp 9) (Operand.tmp 56), type := 0, pos := "fields.go:27", after := #[{ on := 24, ground := Ground.data }, { on := 23, ground := Ground.data }, { on := 22, ground := Ground.chain }, { on := 0, ground := Ground.phase }, { on := 1, ground := Ground.phase }, { on := 2, ground := Ground.phase }, { on := 3, ground := Ground.phase }, { on := 4, ground := Ground.phase }, { on := 5, ground := Ground.phase }, { on := 6, ground := Ground.phase }, { on := 7, ground := Ground.phase }, { on := 8, ground := Ground.phase }, { on := 9, ground := Ground.phase }, { on := 10, ground := Ground.phase }, { on := 11, ground := Ground.phase }, { on := 12, ground := Ground.phase }, { on := 13, ground := Ground.phase }, { on := 14, ground := Ground.phase }, { on := 15, ground := Ground.phase }, { on := 16, ground := Ground.phase }, { on := 17, ground := Ground.phase }, { on := 18, ground := Ground.phase }, { on := 19, ground := Ground.phase }, { on := 20, ground := Ground.phase }, { on := 21, ground := Ground.phase }, { on := 22, ground := Ground.phase }, { on := 23, ground := Ground.phase }, { on := 24, ground := Ground.phase }], guard := none }) rfl (fun K hK => ?_) AllReadyH.nil
                have hq7 : Below w3.heap.size w3 (w6.setRow w5.heap.size #[.string t1, .string t2, .string t3, .slice ja JL.length jc, .slice ua B.length uc]) := below_grown hq6 (row_grown _ _ _) hs6 (fun k hk => by cases hk; exact hs5)
                refine step_rqstore rfl _ _ rfl w5.heap.size _ _ _ t1 t2 t3 _ _ (.slice ja JL.length jc) (.slice ua B.length uc) rfl rfl RB6.out rfl rfl ?_
                refine hK.out _ _ (HKP.out _ hq7) (fun hHeld => ?_)
                clear hK K
                try simp only [Act.put]
                refine wpAnyH_done (by kernel_rfl) ?_ _
                refine NoPanic.normal ?_
                have HFN := vl (ask_fin2 (t1 := t1) (t2 := t2) (t3 := t3) (NL := NL) hq7 hs5 RB6.out HO6.out HU6.out HE5.out NE6.out (rq_row RB6.out) (row_grown _ _ _))
                obtain ⟨w7, hw7⟩ : ∃ x, x = w6.setRow w5.heap.size #[.string t1, .string t2, .string t3, .slice ja JL.length jc, .slice ua B.length uc] := ⟨_, rfl⟩
                rw [← hw7] at HFN ⊢
                clear hw7 hq7 hHeld HKP HXW HXK HXC
                go_wp2
                go_meet
                exact HFN.out
            · go_simp
              refine hK.out _ _ (HKP.out _ (Below.alloc hq4 hs4 _)) (fun hHeld => ?_)
              clear hK K
              try simp only [Act.put, List.setIfInBounds_toArray, List.set_cons_zero, List.set_cons_succ]
              refine wpAnyH_ready (rs := [20]) (by kernel_rfl) (by simp) ?_
              refine AllReadyH.cons (o := { dst := some 53, op := Op.call { callee := Callee.value (Operand.func 49), args := #[Operand.tmp 52], argTypes := #[22] }, type := 22, pos := "fields.go:31", after := #[{ on := 19, ground := Ground.data }, { on := 19, ground := Ground.chain }], guard := none }) rfl (fun K hK => ?_) AllReadyH.nil
              go_simp
              go_at_call 49
              refine (HXK.out _ _ _ (Below.alloc hq4 hs4 _) (World.ownsRow.alloc HO4.out _)).mono ?_
              rintro e w5 ⟨ja, jc, JL, rfl, hq5, HO5, HE5, hs5, HZ5⟩
              have RB5 : RB w5 w4.heap.size ⟨#[]⟩ ⟨#[]⟩ ⟨#[]⟩ (.slice none 0 0) (.slice none 0 0) := HZ5.out _ (rb_made w4)
              clear HZ5
              go_wp2_with fail
              refine hK.out _ _ (HKP.out _ hq5) (fun hHeld => ?_)
              clear hK K
              try simp only [Act.put, List.setIfInBounds_toArray, List.set_cons_zero, List.set_cons_succ]
              refine wpAnyH_ready (rs := [22]) (by kernel_rfl) (by simp) ?_
              refine AllReadyH.cons (o := { dst := some 55, op := Op.call { callee := Callee.value (Operand.func 52), args := #[Operand.tmp 54], argTypes := #[23] }, type := 23, pos := "fields.go:32", after := #[{ on := 21, ground := Ground.data }, { on := 20, ground := Ground.chain }], guard := none }) rfl (fun K hK => ?_) AllReadyH.nil
              go_simp
              go_at_call 52
              refine (HXC.out _ _ _ hq5 HO5.out).mono ?_
              rintro e w6 ⟨ua, uc, rfl, hq6, HU6, HO6, hs6, HZ6, HL6⟩
              have RN6 : RB w6 w4.heap.size ⟨#[]⟩ ⟨#[]⟩ ⟨#[]⟩ (.slice none 0 0) (.slice none 0 0) ∧ ∀ g, (Value.slice ua B.length uc).ownBlock = some g → g ≠ w4.heap.size := HZ6.out _ RB5
              have RB6 := vl RN6.1
              have NE6 := vl RN6.2
              clear RN6
              clear HZ6
              go_wp2_with fail
              refine hK.out _ _ (HKP.out _ hq6) (fun hHeld => ?_)
              clear hK K
              try simp only [Act.put, List.setIfInBounds_toArray, List.set_cons_zero, List.set_cons_succ]
              refine wpAnyH_take (i := 23) (oi := { dst := some 56, op := Op.build 25 #[(0, Operand.tmp 38), (1, Operand.tmp 44), (2, Operand.tmp 50), (3, Operand.tmp 53), (4, Operand.tmp 55)], type := 25, pos := "fields.go:27", after := #[{ on := 5, ground := Ground.data }, { on := 11, ground := Ground.data }, { on := 17, ground := Ground.data }, { on := 20, ground := Ground.data }, { on := 22, ground := Ground.data }], guard := none }) (v := .agg #[.string t1, .string t2, .string t3, .slice ja JL.length jc, .slice ua B.length uc]) rfl (by kernel_rfl) (by kernel_rfl) (by kernel_rfl) (fun _ _ _ h => h) (Or.inl ⟨by rfl, (by intro w hSw; (try dsimp only at hSw); go_simp)⟩) hHeld ?_
              try simp only [Act.put, List.setIfInBounds_toArray, List.set_cons_zero, List.set_cons_succ]
              refine wpAnyH_ready (rs := [25]) (by kernel_rfl) (by simp) ?_
              refine AllReadyH.cons (o := { dst := none, op := Op.store 25 (Operand.tmp 9) (Operand.tmp 56), type := 0, pos := "fields.go:27", after := #[{ on := 24, ground := Ground.data }, { on := 23, ground := Ground.data }, { on := 22, ground := Ground.chain }, { on := 0, ground := Ground.phase }, { on := 1, ground := Ground.phase }, { on := 2, ground := Ground.phase }, { on := 3, ground := Ground.phase }, { on := 4, ground := Ground.phase }, { on := 5, ground := Ground.phase }, { on := 6, ground := Ground.phase }, { on := 7, ground := Ground.phase }, { on := 8, ground := Ground.phase }, { on := 9, ground := Ground.phase }, { on := 10, ground := Ground.phase }, { on := 11, ground := Ground.phase }, { on := 12, ground := Ground.phase }, { on := 13, ground := Ground.phase }, { on := 14, ground := Ground.phase }, { on := 15, ground := Ground.phase }, { on := 16, ground := Ground.phase }, { on := 17, ground := Ground.phase }, { on := 18, ground := Ground.phase }, { on := 19, ground := Ground.phase }, { on := 20, ground := Ground.phase }, { on := 21, ground := Ground.phase }, { on := 22, ground := Ground.phase }, { on := 23, ground := Ground.phase }, { on := 24, ground := Ground.phase }], guard := none }) rfl (fun K hK => ?_) AllReadyH.nil
              have hq7 : Below w3.heap.size w3 (w6.setRow w4.heap.size #[.string t1, .string t2, .string t3, .slice ja JL.length jc, .slice ua B.length uc]) := below_grown hq6 (row_grown _ _ _) hs6 (fun k hk => by cases hk; exact hs4)
              refine step_rqstore rfl _ _ rfl w4.heap.size _ _ _ t1 t2 t3 _ _ (.slice ja JL.length jc) (.slice ua B.length uc) rfl rfl RB6.out rfl rfl ?_
              refine hK.out _ _ (HKP.out _ hq7) (fun hHeld => ?_)
              clear hK K
              try simp only [Act.put]
              refine wpAnyH_done (by kernel_rfl) ?_ _
              refine NoPanic.normal ?_
              have HFN := vl (ask_fin2 (t1 := t1) (t2 := t2) (t3 := t3) (NL := NL) hq7 hs4 RB6.out HO6.out HU6.out HE5.out NE6.out (rq_row RB6.out) (row_grown _ _ _))
              obtain ⟨w7, hw7⟩ : ∃ x, x = w6.setRow w4.heap.size #[.string t1, .string t2, .string t3, .slice ja JL.length jc, .slice ua B.length uc] := ⟨_, rfl⟩
              rw [← hw7] at HFN ⊢
              clear hw7 hq7 hHeld HKP HXW HXK HXC
              go_wp2
              go_meet
              exact HFN.out
          · go_simp
            refine hK.out _ _ (HKP.out _ hq0a) (fun hHeld => ?_)
            clear hK K
            try simp only [Act.put, List.setIfInBounds_toArray, List.set_cons_zero, List.set_cons_succ]
            refine wpAnyH_ready (rs := [19]) (by kernel_rfl) (by simp) ?_
            refine AllReadyH.cons (o := { dst := some 52, op := Op.call { callee := Callee.value (Operand.func 50), args := #[Operand.tmp 51, Operand.func 51], argTypes := #[22, 99] }, type := 22, pos := "fields.go:31", after := #[{ on := 18, ground := Ground.data }], guard := none }) rfl (fun K hK => ?_) AllReadyH.nil
            go_simp
            go_at_call 50
            refine (HXW.out _ hq0a).mono ?_
            rintro e w4 ⟨fa, fc, rfl, hq4, HO4, hs4, HZ4⟩
            have RB4 : RB w4 w3.heap.size ⟨#[]⟩ ⟨#[]⟩ ⟨#[]⟩ (.slice none 0 0) (.slice none 0 0) := HZ4.out _ RB0
            clear HZ4
            go_wp2_with fail
            refine hK.out _ _ (HKP.out _ hq4) (fun hHeld => ?_)
            clear hK K
            try simp only [Act.put, List.setIfInBounds_toArray, List.set_cons_zero, List.set_cons_succ]
            refine wpAnyH_ready (rs := [20]) (by kernel_rfl) (by simp) ?_
            refine AllReadyH.cons (o := { dst := some 53, op := Op.call { callee := Callee.value (Operand.func 49), args := #[Operand.tmp 52], argTypes := #[22] }, type := 22, pos := "fields.go:31", after := #[{ on := 19, ground := Ground.data }, { on := 19, ground := Ground.chain }], guard := none }) rfl (fun K hK => ?_) AllReadyH.nil
            go_simp
            go_at_call 49
            refine (HXK.out _ _ _ hq4 HO4.out).mono ?_
            rintro e w5 ⟨ja, jc, JL, rfl, hq5, HO5, HE5, hs5, HZ5⟩
            have RB5 : RB w5 w3.heap.size ⟨#[]⟩ ⟨#[]⟩ ⟨#[]⟩ (.slice none 0 0) (.slice none 0 0) := HZ5.out _ RB4
            clear HZ5
            go_wp2_with fail
            refine hK.out _ _ (HKP.out _ hq5) (fun hHeld => ?_)
            clear hK K
            try simp only [Act.put, List.setIfInBounds_toArray, List.set_cons_zero, List.set_cons_succ]
            refine wpAnyH_ready (rs := [22]) (by kernel_rfl) (by simp) ?_
            refine AllReadyH.cons (o := { dst := some 55, op := Op.call { callee := Callee.value (Operand.func 52), args := #[Operand.tmp 54], argTypes := #[23] }, type := 23, pos := "fields.go:32", after := #[{ on := 21, ground := Ground.data }, { on := 20, ground := Ground.chain }], guard := none }) rfl (fun K hK => ?_) AllReadyH.nil
            go_simp
            go_at_call 52
            refine (HXC.out _ _ _ hq5 HO5.out).mono ?_
            rintro e w6 ⟨ua, uc, rfl, hq6, HU6, HO6, hs6, HZ6, HL6⟩
            have RN6 : RB w6 w3.heap.size ⟨#[]⟩ ⟨#[]⟩ ⟨#[]⟩ (.slice none 0 0) (.slice none 0 0) ∧ ∀ g, (Value.slice ua B.length uc).ownBlock = some g → g ≠ w3.heap.size := HZ6.out _ RB5
            have RB6 := vl RN6.1
            have NE6 := vl RN6.2
            clear RN6
            clear HZ6
            go_wp2_with fail
            refine hK.out _ _ (HKP.out _ hq6) (fun hHeld => ?_)
            clear hK K
            try simp only [Act.put, List.setIfInBounds_toArray, List.set_cons_zero, List.set_cons_succ]
            refine wpAnyH_take (i := 23) (oi := { dst := some 56, op := Op.build 25 #[(0, Operand.tmp 38), (1, Operand.tmp 44), (2, Operand.tmp 50), (3, Operand.tmp 53), (4, Operand.tmp 55)], type := 25, pos := "fields.go:27", after := #[{ on := 5, ground := Ground.data }, { on := 11, ground := Ground.data }, { on := 17, ground := Ground.data }, { on := 20, ground := Ground.data }, { on := 22, ground := Ground.data }], guard := none }) (v := .agg #[.string t1, .string t2, .string t3, .slice ja JL.length jc, .slice ua B.length uc]) rfl (by kernel_rfl) (by kernel_rfl) (by kernel_rfl) (fun _ _ _ h => h) (Or.inl ⟨by rfl, (by intro w hSw; (try dsimp only at hSw); go_simp)⟩) hHeld ?_
            try simp only [Act.put, List.setIfInBounds_toArray, List.set_cons_zero, List.set_cons_succ]
            refine wpAnyH_ready (rs := [25]) (by kernel_rfl) (by simp) ?_
            refine AllReadyH.cons (o := { dst := none, op := Op.store 25 (Operand.tmp 9) (Operand.tmp 56), type := 0, pos := "fields.go:27", after := #[{ on := 24, ground := Ground.data }, { on := 23, ground := Ground.data }, { on := 22, ground := Ground.chain }, { on := 0, ground := Ground.phase }, { on := 1, ground := Ground.phase }, { on := 2, ground := Ground.phase }, { on := 3, ground := Ground.phase }, { on := 4, ground := Ground.phase }, { on := 5, ground := Ground.phase }, { on := 6, ground := Ground.phase }, { on := 7, ground := Ground.phase }, { on := 8, ground := Ground.phase }, { on := 9, ground := Ground.phase }, { on := 10, ground := Ground.phase }, { on := 11, ground := Ground.phase }, { on := 12, ground := Ground.phase }, { on := 13, ground := Ground.phase }, { on := 14, ground := Ground.phase }, { on := 15, ground := Ground.phase }, { on := 16, ground := Ground.phase }, { on := 17, ground := Ground.phase }, { on := 18, ground := Ground.phase }, { on := 19, ground := Ground.phase }, { on := 20, ground := Ground.phase }, { on := 21, ground := Ground.phase }, { on := 22, ground := Ground.phase }, { on := 23, ground := Ground.phase }, { on := 24, ground := Ground.phase }], guard := none }) rfl (fun K hK => ?_) AllReadyH.nil
            have hq7 : Below w3.heap.size w3 (w6.setRow w3.heap.size #[.string t1, .string t2, .string t3, .slice ja JL.length jc, .slice ua B.length uc]) := below_grown hq6 (row_grown _ _ _) hs6 (fun k hk => by cases hk; exact (Nat.le_refl _))
            refine step_rqstore rfl _ _ rfl w3.heap.size _ _ _ t1 t2 t3 _ _ (.slice ja JL.length jc) (.slice ua B.length uc) rfl rfl RB6.out rfl rfl ?_
            refine hK.out _ _ (HKP.out _ hq7) (fun hHeld => ?_)
            clear hK K
            try simp only [Act.put]
            refine wpAnyH_done (by kernel_rfl) ?_ _
            refine NoPanic.normal ?_
            have HFN := vl (ask_fin2 (t1 := t1) (t2 := t2) (t3 := t3) (NL := NL) hq7 (Nat.le_refl _) RB6.out HO6.out HU6.out HE5.out NE6.out (rq_row RB6.out) (row_grown _ _ _))
            obtain ⟨w7, hw7⟩ : ∃ x, x = w6.setRow w3.heap.size #[.string t1, .string t2, .string t3, .slice ja JL.length jc, .slice ua B.length uc] := ⟨_, rfl⟩
            rw [← hw7] at HFN ⊢
            clear hw7 hq7 hHeld HKP HXW HXK HXC
            go_wp2
            go_meet
            exact HFN.out
      case rest =>
      unfold AskR at hcut
      obtain ⟨n, ja, jc, JL, ua, uc, rfl, HR7, HF7, HU7, HE7, HB7, hn7⟩ := hcut
      obtain ⟨w7, hw7⟩ : ∃ x, x = wc := ⟨_, rfl⟩
      subst hw7
      have HBW7 := vl (HB3.out.trans (HB7.out.mono (Nat.le_of_lt hsw3)))
      have HPP7 := vl (HPP3.out.on HB7.out)
      have HJV := vl (join_vok HNV.out hnl HE7.out)
      have HBY := vl (HBB.out.bytes)
      have hbl : B.length ≤ 140737488351232 := by have := HBL.out; omega
      have hjl : JL.length ≤ 4194304 := HJV.out.1
      have HIN : Vl (RqIn w7 ⟨t1, t2, t3, ja, JL.length, jc, ua, B.length, uc, JL, B⟩) := vl ⟨(nfrow_of HF7.out).2, UOwn.arg HU7.out HBY.out, uown_none HU7.out, ⟨by show JL.length ≤ _; omega, hbl⟩, ⟨by show t1.size ≤ _; omega, by show t2.size ≤ _; omega, by show t3.size ≤ _; omega⟩, HJV.out.2⟩
      have HK := vl (nask_any ⟨t1, t2, t3, ja, JL.length, jc, ua, B.length, uc, JL, B⟩ w7 (HD.out.1.below HBW7.out) HIN.out)
      have HQR : Vl ((⟨t1, t2, t3, ja, JL.length, jc, ua, B.length, uc, JL, B⟩ : RqM).rq = askR (fdsOf L) B) := vl (by
        show (⟨unums t1, unums t2, unums t3, fdsOf JL, B⟩ : Rq) = askR (fdsOf L) B
        unfold askR
        rw [HE7.out, HNF.out, ← HV1.out, ← HV2.out, ← HV3.out]
        have e : (fdsOf L).drop 3 = fdsOf (L.drop 3) := by simp [fdsOf]
        rw [e]
        rfl)
      have HYW := vl (ask_yes HOK.out HANY.out)
      rw [HQR.out] at HK
      obtain ⟨te, hte⟩ : ∃ x, askE (askR (fdsOf L) B) = x := ⟨_, rfl⟩
      rw [hte] at HYW HK
      unfold RqM.val at HK
      have HFN : Vl (∀ g off, ja = some ⟨g, off, none⟩ → g ≠ w.heap.size) := vl (fun g off e => by
        have := (HF7.out.lt g (by rw [e]; rfl)).1
        omega)
      have HBN : Vl (∀ g off, ua = some ⟨g, off, none⟩ → g ≠ w.heap.size) := vl (fun g off e => by
        have := (HU7.out.base g (by rw [e]; rfl)).1
        omega)
      obtain ⟨x0, x1, x2, x3, x4⟩ := HR7.out.cells
      clear HXW HXK HXC HKP hte HB7 HB3 HPP3 HNV HJV HE7 HV1 HV2 HV3 HNF
      clear RB0 hq0 hq0a
      go_wp2_with fail
      refine HK.out.mono ?_
      rintro e w8 ⟨v8, rfl, _, hb8⟩
      have HB8 := vl (HBW7.out.trans (hb8.mono HBW7.out.size))
      have HPP8 := vl (HPP7.out.on hb8)
      have HR8 := vl (HR7.out.on hb8)
      have HIN8 := vl (HIN.out.below hb8)
      have hsw8 : w.heap.size ≤ w8.heap.size := HB8.out.size
      clear HK hb8 HBW7 HPP7 HR7 HIN x0 x1 x2 x3 x4
      by_cases ht0 : te = 0
      · subst ht0
        rw [errW_zero]
        rw [if_pos rfl] at HYW
        obtain ⟨y0, y1, y2, y3, y4⟩ := HR8.out.cells
        go_wp2_with (refine wpList_rqstore _ rfl _ _ rfl w.heap.size _ _ _ t1 t2 t3 _ _ (.slice ja JL.length jc) (.slice ua B.length uc) rfl rfl HPP8.out rfl rfl ?_)
        intro w9 hR hg9
        have HB9 : Vl (Below w.heap.size w w9) := vl (below_grown HB8.out hg9 hsw8 (fun k hk => by cases hk; exact Nat.le_refl _))
        obtain ⟨z0, z1, z2, z3, z4⟩ := hR.cells
        have HIN9 : Vl (RqIn w9 ⟨t1, t2, t3, ja, JL.length, jc, ua, B.length, uc, JL, B⟩) := vl (rq_grown HIN8.out hg9 HFN.out HBN.out)
        clear hR hg9 HPP8 HB8
        go_wp2_with fail
        refine bodyPost_ret (v := .tuple #[.agg #[.string t1, .string t2, .string t3, .slice ja JL.length jc, .slice ua B.length uc], .nilIface]) (by simp [results, Tryz.results13, go_sem, z0, z1, z2, z3, z4]; try rfl) rfl ?_
        unfold AskE
        rw [HYW.out]
        exact ⟨⟨t1, t2, t3, ja, JL.length, jc, ua, B.length, uc, JL, B⟩, rfl, HIN9.out, HQR.out, HB9.out⟩
      · have HEW : Vl (errW te = .iface 88 (.int .i64 te)) := vl (if_neg ht0)
        rw [HEW.out]
        rw [if_neg ht0] at HYW
        go_wp2_with (refine wpList_rqstore _ rfl _ _ rfl w.heap.size _ _ _ ⟨#[]⟩ ⟨#[]⟩ ⟨#[]⟩ _ _ (.slice none 0 0) (.slice none 0 0) rfl rfl HPP8.out rfl rfl ?_)
        intro w9 hR hg9
        have HB9 : Vl (Below w.heap.size w w9) := vl (below_grown HB8.out hg9 hsw8 (fun k hk => by cases hk; exact Nat.le_refl _))
        obtain ⟨z0, z1, z2, z3, z4⟩ := hR.cells
        clear hR hg9 HPP8 HB8
        go_wp2_with fail
        refine bodyPost_ret (v := .tuple #[.agg #[.string ⟨#[]⟩, .string ⟨#[]⟩, .string ⟨#[]⟩, .slice none 0 0, .slice none 0 0], .iface 88 (.int .i64 te)]) (by simp [results, Tryz.results13, go_sem, z0, z1, z2, z3, z4]; try rfl) rfl ?_
        unfold AskE
        rw [HYW.out]
        exact ⟨⟨⟨#[]⟩, ⟨#[]⟩, ⟨#[]⟩, none, 0, 0, none, 0, 0, [], []⟩, by rw [HEW.out]; rfl, rq_zero _, rfl, HB9.out⟩
  · have HNO : Vl (¬ LeadOk psd3 (fdsOf L)) := vl hno
    have HB2 := vl (HBW1.out.trans (hb2.mono (Nat.le_of_lt hsL)))
    have HPP := vl (HP1.out.on hb2)
    have hsw : w.heap.size ≤ w2.heap.size := HB2.out.size
    clear hno hb2 hW0 hW1 HL HP1 HP0 HN1 HBW1
    go_wp2_with (refine wpList_rqstore _ rfl _ _ rfl w.heap.size _ _ _ ⟨#[]⟩ ⟨#[]⟩ ⟨#[]⟩ _ _ (.slice none 0 0) (.slice none 0 0) rfl rfl HPP.out rfl rfl ?_)
    intro w3 hR hg3
    have HB3 : Vl (Below w.heap.size w w3) := vl (below_grown HB2.out hg3 hsw (fun k hk => by cases hk; exact Nat.le_refl _))
    obtain ⟨z0, z1, z2, z3, z4⟩ := hR.cells
    clear hR hg3 HPP HB2
    go_wp2_with fail
    refine bodyPost_ret (v := .tuple #[.agg #[.string ⟨#[]⟩, .string ⟨#[]⟩, .string ⟨#[]⟩, .slice none 0 0, .slice none 0 0], .iface 88 (.int .i64 3)]) (by simp [results, Tryz.results13, go_sem, z0, z1, z2, z3, z4]; try rfl) rfl ?_
    have HW : askW (fdsOf L) B = (3, default) := ask_no (Or.inl HNO.out)
    unfold AskE
    rw [HW]
    exact ⟨⟨⟨#[]⟩, ⟨#[]⟩, ⟨#[]⟩, none, 0, 0, none, 0, 0, [], []⟩, rfl, rq_zero _, rfl, HB3.out⟩
end Go.Proofs.YtglmppadhlkkgagGreatDoor
