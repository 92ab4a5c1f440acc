/-
  CONNECTIONS TO PLACES: the Go function asTheyCame of package pool: the Idle ones in the order in which they came back. No claim by itself.
-/
import Derived.Shelf.SlIterI.Nil
import Derived.Shelf.SlSortCmp.NoneTotal
import Derived.Shelf.SlSortCmp.Kit1
import Derived.Sort.KeysCollected
import Derived.BigQuiet
import Derived.Deep.QuietTactic
import Derived.Test.YtibjbdcmhjbndaaDoorOplb0
import Derived.Test.YtibjbdcmhjbndaaDoorLo6X
namespace Go.Proofs.YtibjbdcmhjbndaaDoor
open Go Go.RowKit Go.Maps Go.Sort Go.Shelf
set_option maxRecDepth 100000
/- the keys -/
theorem keys_are {w : World} {b n : Nat} {D : Dat} (h : w.ownsMap Tryd.prog 3 lkElem b n D) : (intKeys D).Nodup ∧ ∀ x, x ∈ intKeys D ↔ Maps.has D (pkK x) = true := by
  obtain ⟨es, hD, hpw, _⟩ := h.entries klaw
  obtain ⟨es', hD', hko⟩ := h.keysOf
  obtain rfl : es = es' := by rw [hD] at hD'; simpa using hD'
  subst hD
  have hk : ∀ p ∈ es, ∃ x, p.1 = pkK x := fun p hp => by
    obtain ⟨v, hv⟩ := hko p hp
    obtain ⟨x, _, hx, _⟩ := Maps.keyOf_int_inv Tryd.underlying3 hv
    exact ⟨x, hx⟩
  constructor
  · show (es.map fun p => Go.intOf p.1).Nodup
    refine List.pairwise_map.2 (hpw.imp_of_mem fun {p q} hp' hq' hne e => hne ?_)
    obtain ⟨a, ha⟩ := hk p hp'
    obtain ⟨b, hb⟩ := hk q hq'
    rw [ha, hb] at e ⊢
    exact congrArg pkK e
  · intro x
    rw [has_eq, List.any_eq_true]
    show x ∈ es.map (fun p => Go.intOf p.1) ↔ _
    rw [List.mem_map]
    constructor
    · rintro ⟨p, hp', rfl⟩
      obtain ⟨a, ha⟩ := hk p hp'
      exact ⟨p, hp', by rw [ha]; show (pkK a).sameKey (pkK a) = true; rw [same_pk]; simp⟩
    · rintro ⟨p, hp', hs⟩
      obtain ⟨a, ha⟩ := hk p hp'
      rw [ha, same_pk] at hs
      exact ⟨p, hp', by rw [ha]; show a = x; simpa using hs⟩
/-- One of the Idle ones. -/
abbrev Idl (S : Po) := {o : Lk // o ∈ S.L ∧ o.busy = false}
def encI {S : Po} (a : Idl S) : Value := encZ a.1.id
def cfI {S : Po} (a b : Idl S) : Int := a.1.turn - b.1.turn
theorem ltI {S : Po} (a b : Idl S) : ltOf (cfI (S := S)) a b = decide (a.1.turn < b.1.turn) := by
  show decide (a.1.turn - b.1.turn < 0) = _
  rw [decide_eq_decide]
  omega
theorem swoI (S : Po) : SWO (ltOf (cfI (S := S))) where
  irrefl x := by rw [ltI]; simp
  trans x y z h1 h2 := by rw [ltI] at *; simp at *; omega
  ntrans x y z h1 h2 := by rw [ltI] at *; simp at *; omega
theorem triI {S : Po} (hI : PoI S) (a b : Idl S) (h1 : ltOf (cfI (S := S)) a b = false) (h2 : ltOf (cfI (S := S)) b a = false) : a = b := by
  rw [ltI] at h1 h2
  simp at h1 h2
  exact Subtype.ext (hI.apart a.1 a.2.1 b.1 b.2.1 a.2.2 b.2.2 (by omega))
theorem oneI {S : Po} : OneCell (encI (S := S)) := fun _ => rfl
def rowI {S : Po} (ss : List (Idl S)) : List (Idl S) := ss.mergeSort fun x y => !(ltOf (cfI (S := S))) y x
theorem rowI_sorted {S : Po} (ss : List (Idl S)) : (rowI ss).Pairwise (fun a b => a.1.turn ≤ b.1.turn) := by
  have h := List.pairwise_mergeSort (le := fun x y : Idl S => !(ltOf (cfI (S := S))) y x) (fun a b c h1 h2 => by
    simp only [ltI, Bool.not_eq_true', decide_eq_false_iff_not] at *; omega) (fun a b => by
    simp only [ltI, Bool.or_eq_true, Bool.not_eq_true', decide_eq_false_iff_not]; omega) ss
  exact h.imp (fun {a b} h => by simp only [ltI, Bool.not_eq_true', decide_eq_false_iff_not] at h; omega)
theorem ids_list {S : Po} : ∀ (ss : List Int), (∀ i ∈ ss, ∃ o ∈ S.L, o.busy = false ∧ o.id = i) → ∃ T : List (Idl S), T.map (fun a => a.1.id) = ss
  | [], _ => ⟨[], rfl⟩
  | i :: r, h => by
    obtain ⟨T, hT⟩ := ids_list r (fun j hj => h j (List.mem_cons_of_mem _ hj))
    obtain ⟨o, ho, hb, hi⟩ := h i (by simp)
    exact ⟨⟨o, ho, hb⟩ :: T, by simp [hi, hT]⟩
/-- What asTheyCame gives. -/
def CameA (w : World) (S : Po) (w' : World) (v : Value) (T : LL) : Prop := T.Nodup ∧ (∀ x, x ∈ T ↔ x ∈ S.L ∧ x.busy = false) ∧ T.Pairwise (fun a b => a.turn < b.turn) ∧ IRow w' v w.heap.size (T.map Lk.id) ∧ Below w.heap.size w w'
theorem sortI_grown {S : Po} [Inhabited (Idl S)] {w : World} {g n : Nat} {os : Array Obj} (d : Array (Idl S)) : w.grownBy (sortWorld encI w g 0 n d os) (some g) := by
  unfold sortWorld
  refine ⟨rfl, rfl, rfl, by simp, fun k hk hne => ?_⟩
  rw [heap_grow_old _ _ (by simpa using hk)]
  have : g ≠ k := fun e => hne (by rw [e])
  simp [putRow, mapBlock, Sort.ahead, Array.getElem?_modify, this]
theorem fld_turn (s : ByteArray) (a b : Int) (w : World) : (Instr.field 65 (.agg #[.string s, .int .i64 a, .int .i64 b]) 1).run Tryd.prog w = .ok (.int .i64 a) w := by kernel_rfl
set_option maxHeartbeats 1000000 in
theorem ocamec_any {w : World} {pb bb ib : Nat} {DB DI : Dat} {S : Po} (h : PoM w pb bb ib DB DI S) (hI : PoI S) (ht1 : S.turn ≤ 1000000000000) (hl1 : S.last ≤ 1000000000000) (bx : Nat) (hbx : w.cell? ⟨bx, 0, none⟩ = some (pptr pb)) (a b : Idl S) :
    Calls Tryd.prog 31 #[.int .i64 a.1.id, .int .i64 b.1.id, .pointer (some ⟨bx, 0, none⟩)] w fun e w' => e = .returned (.int .i64 (cfI a b)) ∧ ∃ n, w' = w.drewN n := by
  have ia : Ix64 a.1.id := by have := hI.each _ a.2.1; unfold Ix64; omega
  have ib' : Ix64 b.1.id := by have := hI.each _ b.2.1; unfold Ix64; omega
  have ta := hI.turns _ a.2.1 a.2.2
  have tb := hI.turns _ b.2.1 b.2.2
  have l1 : ∀ n, (Instr.lookup 54 (.map (some ib)) (.int .i64 a.1.id) false).run Tryd.prog (w.drewN n) = .ok (.agg #[.string a.1.to, .int .i64 a.1.turn, .int .i64 a.1.at_]) (w.drewN n) := fun n => look_v (own_block (w' := w.drewN n) h.ownI rfl) h.relI ia (fI_some (lk_mem hI.nodup a.2.1) a.2.2)
  have l2 : ∀ n, (Instr.lookup 54 (.map (some ib)) (.int .i64 b.1.id) false).run Tryd.prog (w.drewN n) = .ok (.agg #[.string b.1.to, .int .i64 b.1.turn, .int .i64 b.1.at_]) (w.drewN n) := fun n => look_v (own_block (w' := w.drewN n) h.ownI rfl) h.relI ib' (fI_some (lk_mem hI.nodup b.2.1) b.2.2)
  obtain ⟨-, -, -, -, -, c5, -⟩ := h.cells
  have hfd := fld_turn
  unfold pptr at hbx
  obtain ⟨⟨ai, a1, a2, a3, at_⟩, ha⟩ := a
  obtain ⟨⟨bi, b1, b2, b3, bt⟩, hb⟩ := b
  show Calls Tryd.prog 31 #[.int .i64 ai, .int .i64 bi, .pointer (some ⟨bx, 0, none⟩)] w fun e w' => e = .returned (.int .i64 (at_ - bt)) ∧ ∃ n, w' = w.drewN n
  have hwr : IntKind.i64.wrap (at_ - bt) = at_ - bt := by rw [IntKind.wrap_i64]; simp only at ta tb; omega
  clear h hI ia ib'
  simp only at l1 l2 ta tb
  go_enter Tryd.func31, Tryd.ntmps31
  go_wp2_with fail
  go_quiet (fail)
  go_wp2
  go_ret
  exact ⟨rfl, _, rfl⟩
theorem okeysf (mb : Option Nat) (W : World) : Calls Tryd.prog 30 #[.map mb] W fun e w' => e = .returned (.func (.func 47) #[] #[.pointer (some ⟨W.heap.size, 0, none⟩)]) ∧ w' = W.alloc (.cells #[.map mb] 54) :=
  (callsIn_wide (n := 5)).1 (AnyZI.keys_in Tryd.okeys Fence.wide 5 trivial rfl mb W)
set_option maxHeartbeats 1000000 in
theorem ocollect_any (kb b nn : Nat) (D0 : Dat) (w : World) (hk : w.cell? ⟨kb, 0, none⟩ = some (.map (some b))) (hown : w.ownsMap Tryd.prog 3 lkElem b nn D0) (hsz : Maps.size D0 ≤ 1000) :
    Calls Tryd.prog 45 #[.func (.func 47) #[] #[.pointer (some ⟨kb, 0, none⟩)]] w fun e w' => ∃ (v : Value) (ss : List Int), e = .returned v ∧ ss.Perm (intKeys D0) ∧
      w'.ownsRow w.heap.size 3 1 v ss.length (ss.map encZ) ∧ (v = .slice none 0 0 ↔ ss = []) ∧ Below w.heap.size w w' := by
  have hseq : SeqGives Fence.wide 3 Tryd.prog 47 #[.pointer (some ⟨kb, 0, none⟩)] encZ (fun ss => ss.Perm (intKeys D0)) (Maps.size D0) w :=
    AnyZI.keys_gives (ρ := Tryd.okeys_ren) { Tryd.okeys with } Fence.wide _ trivial rfl (by omega) kb b nn D0 _ (blk_of_cell hk) hk hown
  exact (callsIn_wide (n := 5)).1 (AnyZI.collect_in Tryd.ocollect Fence.wide 5 trivial trivial rfl (by omega) 47 #[.pointer (some ⟨kb, 0, none⟩)] trivial (enters_of Tryd.func47 (by kernel_rfl) rfl) _ _ (by unfold maxLen; omega) (by omega) _ hseq)
theorem nodup_of_ids {T : LL} (h : (T.map Lk.id).Nodup) : T.Nodup := by
  have h1 := List.pairwise_map.1 h
  exact h1.imp (fun {a b} hab e => hab (by rw [e]))
set_option maxHeartbeats 4000000 in
theorem osortedf_any {w : World} {pb bb ib : Nat} {DB DI : Dat} {S : Po} (h : PoM w pb bb ib DB DI S) (hI : PoI S) (ht1 : S.turn ≤ 1000000000000) (hl1 : S.last ≤ 1000000000000) (bx kb : Nat) (hbx : w.cell? ⟨bx, 0, none⟩ = some (pptr pb)) (hk : w.cell? ⟨kb, 0, none⟩ = some (.map (some ib))) :
    Calls Tryd.prog 29 #[.func (.func 47) #[] #[.pointer (some ⟨kb, 0, none⟩)], .func (.func 31) #[] #[.pointer (some ⟨bx, 0, none⟩)]] w fun e w' => ∃ v T, e = .returned v ∧ CameA w S w' v T := by
  have hsz : Maps.size DI ≤ 1000 := by
    rw [h.relI.size]
    have h1 : nI S.L ≤ S.L.length := by unfold nI idleL; exact List.length_filter_le _ _
    have := hI.len
    have := hI.many.2
    omega
  have HCOL := vl (ocollect_any kb ib _ DI w hk h.ownI hsz)
  obtain ⟨hnd, hmem⟩ := keys_are h.ownI
  have HM := vl h
  have HI := vl hI
  have HB := vl hbx
  have hmem2 : ∀ x, x ∈ intKeys DI ↔ ∃ o ∈ S.L, o.busy = false ∧ o.id = x := fun x => by
    rw [hmem, h.relI.has]
    constructor
    · intro hs
      obtain ⟨v, hv⟩ := Option.isSome_iff_exists.1 hs
      obtain ⟨o, h1, h2, h3, _⟩ := fI_inv hv
      exact ⟨o, h1, h3, h2⟩
    · rintro ⟨o, h1, h2, rfl⟩
      rw [fI_some (lk_mem hI.nodup h1) h2]
      rfl
  have hsl : (intKeys DI).length ≤ 1000 := by
    have : (intKeys DI).length = Maps.size DI := by cases DI <;> simp [intKeys, Maps.size]
    omega
  have HSL := vl hsl
  have HND := vl hnd
  have HME := vl hmem2
  clear h hI hbx hk hnd hmem hmem2 hsz hsl
  unfold pptr at HB
  go_enter Tryd.func29, Tryd.ntmps29
  go_wp2_with fail
  refine HCOL.out.mono ?_
  rintro _ w2 ⟨v, ss, rfl, hS, hrow, hnil, hb2⟩
  have hsn : ss.Nodup := hS.nodup_iff.2 HND.out
  have hsm : ∀ x, x ∈ ss ↔ ∃ o ∈ S.L, o.busy = false ∧ o.id = x := fun x => (hS.mem_iff.trans (HME.out x))
  have hlen : ss.length ≤ 1000 := by rw [hS.length_eq]; exact HSL.out
  obtain ⟨T, hT⟩ := ids_list ss (fun i hi => (hsm i).1 hi)
  clear HCOL HND HME HSL hS
  by_cases hs : ss = []
  · obtain rfl := hnil.2 hs
    have HN : Vl (∀ W, Calls Tryd.prog 46 #[.slice none 0 0, .func (.func 31) #[] #[.pointer (some ⟨bx, 0, none⟩)]] W fun e w' => e = .returned (.tuple #[]) ∧ w' = W) := vl (fun W => AnyF.slices_SortFunc_none (P := Tryd.prog) (ρ := Tryd.osortf_ren) { Tryd.osortf with } none 0 (.func (.func 31) #[] #[.pointer (some ⟨bx, 0, none⟩)]) W)
    subst hs
    have HFIN : Vl (CameA w S w2 (.slice none 0 0) []) := vl ⟨List.nodup_nil, (fun x => ⟨(fun hx => by cases hx), (fun hx => by have := (hsm x.id).2 ⟨x, hx.1, hx.2, rfl⟩; cases this)⟩), List.Pairwise.nil, Or.inl ⟨rfl, rfl⟩, hb2⟩
    clear hrow hnil hsn hsm hlen hb2 hT T
    go_wp2_with fail
    refine (HN.out _).mono ?_
    rintro _ w3 ⟨rfl, rfl⟩
    go_wp2_with fail
    go_ret
    exact ⟨_, [], rfl, HFIN.out⟩
  · rcases hrow.2 with ⟨hv, _⟩ | ⟨gb, c, cur, hv, hbase, hgb, r1, r2, r3, r4⟩
    · exact absurd (hnil.1 hv) hs
    subst hv
    have hgl : gb < w2.heap.size := (Array.getElem?_eq_some_iff.1 hgb).1
    have hTl : T.length = ss.length := by rw [← hT, List.length_map]
    obtain ⟨a0, r0, hT0⟩ : ∃ a0 r0, T = a0 :: r0 := by
      cases T with
      | nil => exact absurd (by rw [← hT]; rfl) hs
      | cons a r => exact ⟨a, r, rfl⟩
    haveI : Inhabited (Idl S) := ⟨a0⟩
    have hdl : T.toArray.size = ss.length := by rw [List.size_toArray, hTl]
    have hH : Holds (encI (S := S)) w2 gb 0 T.toArray := by
      have hH := holds_of_blockI hgb (by simpa using r4)
      intro j hj
      have hj' : j < T.length := by simpa using hj
      obtain ⟨h1, h2⟩ := hH j (by rw [List.size_toArray]; omega)
      refine ⟨h1.trans ?_, h2⟩
      congr 1
      unfold encI encZ
      congr 1
      have e : ss[j]? = some (T[j]'hj').1.id := by rw [← hT, List.getElem?_map, List.getElem?_eq_getElem hj']; rfl
      simp [hj', e]
    have hcmp : CmpLays1 Tryd.prog 31 #[.pointer (some ⟨bx, 0, none⟩)] (encI (S := S)) cfI gb 0 T.toArray.size w2 := by
      refine CmpReads.lays ?_
      intro m os dk _ x y
      have hgr := (sortI_grown (w := w2) (g := gb) (n := m) (os := os) dk)
      have hbl := blk_of_cell HB.out
      have hlt := HM.out.lt
      have k : ∀ j, j < w.heap.size → (sortWorld (encI (S := S)) w2 gb 0 m dk os).heap[j]? = w.heap[j]? := fun j hj => (grown_old hgr (Nat.lt_of_lt_of_le hj hb2.size) (by omega)).trans (hb2.block j hj)
      exact ocamec_any (HM.out.kept (k _ hlt.1) (k _ hlt.2.1) (k _ hlt.2.2)) HI.out ht1 hl1 bx ((World.cell?_of_block (a := ⟨bx, 0, none⟩) (k bx hbl)).trans HB.out) x y
    have eg : ∀ args w, (callFunc 31 args).run Tryd.prog w = .ok (.enter 31 args) w := enters_of Tryd.func31 (by kernel_rfl) rfl
    have HSO := Any.slices_SortFunc_total Tryd.osortf (encI (S := S)) oneI cfI (swoI S) 31 #[.pointer (some ⟨bx, 0, none⟩)] gb 0 c T.toArray w2 eg hcmp hH hgl (by rw [hdl]; omega) (triI HI.out)
    rw [hdl] at HSO
    have HSR : Vl (Calls Tryd.prog 46 #[.slice (some ⟨gb, 0, none⟩) ss.length c, .func (.func 31) #[] #[.pointer (some ⟨bx, 0, none⟩)]] w2 fun e w' => e = .returned (.tuple #[]) ∧ ∃ n os, w' = sortWorld (encI (S := S)) w2 gb 0 n (rowI T).toArray os) := vl HSO
    have hrl : (rowI T).length = ss.length := by unfold rowI; rw [List.length_mergeSort, hTl]
    have hrp : (rowI T).Perm T := List.mergeSort_perm _ _
    have HFIN : Vl (∀ n os, CameA w S (sortWorld (encI (S := S)) w2 gb 0 n (rowI T).toArray os) (.slice (some ⟨gb, 0, none⟩) ss.length c) ((rowI T).map (·.1))) := vl (fun n os => by
      have hkl : (((rowI T).map (·.1)).map Lk.id).length = ss.length := by rw [List.length_map, List.length_map, hrl]
      have hids : (((rowI T).map (·.1)).map Lk.id).Perm ss := by
        rw [List.map_map, ← hT]
        exact hrp.map _
      have hnd2 : ((rowI T).map (·.1)).Nodup := nodup_of_ids (hids.nodup_iff.2 hsn)
      refine ⟨hnd2, fun x => ?_, ?_, Or.inr ⟨gb, c, by rw [hkl], hbase, Nat.lt_of_lt_of_le hgl (sortI_grown (w := w2) (g := gb) (n := n) (os := os) (rowI T).toArray).size, by rw [hkl]; exact r1, r2, fun t ht => ?_⟩, hb2.grown (sortI_grown _) hb2.size (fun j hj => by cases hj; exact hbase)⟩
      · constructor
        · intro hx
          obtain ⟨a, _, rfl⟩ := List.mem_map.1 hx
          exact a.2
        · rintro ⟨h1, h2⟩
          have h3 := hids.mem_iff.2 ((hsm x.id).2 ⟨x, h1, h2, rfl⟩)
          obtain ⟨y, hy, he⟩ := List.mem_map.1 h3
          obtain ⟨a, ha, rfl⟩ := List.mem_map.1 hy
          rw [lk_eq HI.out.nodup h1 a.2.1 he.symm]
          exact List.mem_map.2 ⟨a, ha, rfl⟩
      · have h1 := (rowI_sorted T)
        have h2 : ((rowI T).map (·.1)).Pairwise (fun a b => a.turn ≤ b.turn) := List.pairwise_map.2 h1
        refine (h2.and hnd2).imp_of_mem (fun {a b} ha hb hab => ?_)
        obtain ⟨x, _, rfl⟩ := List.mem_map.1 ha
        obtain ⟨y, _, rfl⟩ := List.mem_map.1 hb
        have := HI.out.apart x.1 x.2.1 y.1 y.2.1 x.2.2 y.2.2
        rcases Int.lt_or_eq_of_le hab.1 with h | h
        · exact h
        · exact absurd (this h) hab.2
      · rw [hkl] at ht
        have hh := (SW.holds (dk := (rowI T).toArray) ⟨n, os, rfl⟩ hgl hH (by rw [hdl, List.size_toArray, hrl]) t (by rw [List.size_toArray, hrl]; exact ht)).1
        rw [Nat.zero_add] at hh
        rw [hh]
        have ht' : t < (rowI T).length := by rw [hrl]; exact ht
        unfold encI
        simp [List.getD, ht'])
    generalize (rowI T).map (·.1) = R at HFIN
    generalize (rowI T).toArray = RA at HSR HFIN
    clear hrow hnil hsn hsm HSO hcmp hH hdl hb2 hgb r1 r2 r3 r4 hrl hrp hT hT0
    go_wp2_with fail
    refine HSR.out.mono ?_
    rintro _ w3 ⟨rfl, n, os, rfl⟩
    have HF2 := vl (HFIN.out n os)
    obtain ⟨W3, hW3⟩ : ∃ W3, sortWorld (encI (S := S)) w2 gb 0 n RA os = W3 := ⟨_, rfl⟩
    rw [hW3] at HF2 ⊢
    clear hW3 HFIN HSR
    go_wp2_with fail
    go_ret
    exact ⟨_, R, rfl, HF2.out⟩
theorem came_below {w W w' : World} {S : Po} {v : Value} {T : LL} (hb : Below w.heap.size w W) (h : CameA W S w' v T) : CameA w S w' v T := by
  obtain ⟨h1, h2, h3, h4, h5⟩ := h
  refine ⟨h1, h2, h3, ?_, hb.trans (h5.mono hb.size)⟩
  rcases h4 with h4 | ⟨g, c, e1, e2, e3⟩
  · exact Or.inl h4
  · exact Or.inr ⟨g, c, e1, Nat.le_trans hb.size e2, e3⟩
set_option maxHeartbeats 1000000 in
theorem ocame_any {w : World} {pb bb ib : Nat} {DB DI : Dat} {S : Po} (h : PoM w pb bb ib DB DI S) (hI : PoI S) (ht1 : S.turn ≤ 1000000000000) (hl1 : S.last ≤ 1000000000000) :
    Calls Tryd.prog 20 #[pptr pb] w fun e w' => ∃ v T, e = .returned v ∧ CameA w S w' v T := by
  obtain ⟨W1, hW1⟩ : ∃ W1, w.alloc (.cells #[pptr pb] 23) = W1 := ⟨_, rfl⟩
  have hb1 : Below w.heap.size w W1 := by rw [← hW1]; exact (Below.refl _ w).alloc (Nat.le_refl _) _
  have hs1 : W1.heap.size = w.heap.size + 1 := by rw [← hW1]; simp
  have x1 : W1.cell? ⟨w.heap.size, 0, none⟩ = some (pptr pb) := by rw [← hW1]; simp
  have h1 := h.below (Nat.le_refl _) hb1
  obtain ⟨-, -, -, -, -, c5, -⟩ := h1.cells
  have HK := vl (okeysf (some ib) W1)
  obtain ⟨W2, hW2⟩ : ∃ W2, W1.alloc (.cells #[.map (some ib)] 54) = W2 := ⟨_, rfl⟩
  have hb2 : Below W1.heap.size W1 W2 := by rw [← hW2]; exact (Below.refl _ W1).alloc (Nat.le_refl _) _
  have HS := vl (osortedf_any (h1.below (Nat.le_refl _) hb2) hI ht1 hl1 w.heap.size W1.heap.size ((hb2.cell (p := ⟨w.heap.size, 0, none⟩) (by show w.heap.size < W1.heap.size; omega)).trans x1) (by rw [← hW2]; simp))
  have HB : Vl (Below w.heap.size w W2) := vl (hb1.trans (hb2.mono hb1.size))
  have HW1 := vl hW1
  have HW2 := vl hW2
  unfold pptr at *
  have c5' : (w.alloc (.cells #[.pointer (some ⟨pb, 0, none⟩)] 23)).cell? ⟨pb, 5, none⟩ = some (.map (some ib)) := by rw [hW1]; exact c5
  rw [← hW1] at HK
  clear hW1 hW2 h h1 hI hb1 hb2 c5 x1 hs1
  go_enter Tryd.func20, Tryd.ntmps20
  go_wp2_with fail
  refine HK.out.mono ?_
  rintro _ w3 ⟨rfl, rfl⟩
  rw [HW1.out, HW2.out]
  clear HK c5'
  go_wp2_with fail
  refine HS.out.mono ?_
  rintro _ w4 ⟨v, T, rfl, hA⟩
  have HA := vl (came_below HB.out hA)
  have hr := hA.2.2.2.1
  clear hA HS HW1 HW2
  rcases hr with ⟨rfl, _⟩ | ⟨g, c, rfl, _⟩
  · go_wp2_with fail
    go_ret
    exact ⟨_, T, rfl, HA.out⟩
  · rw [List.length_map] at HA ⊢
    go_wp2_with fail
    go_ret
    exact ⟨_, T, rfl, HA.out⟩
end Go.Proofs.YtibjbdcmhjbndaaDoor
