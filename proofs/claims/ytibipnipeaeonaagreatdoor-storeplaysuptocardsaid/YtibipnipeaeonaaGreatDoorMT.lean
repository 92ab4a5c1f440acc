/-
  WHAT WAS ANSWERED: the developers' store and the document's, side by side. No claim by itself.
-/
import Derived.Test.YtibipnipeaeonaaGreatDoorMS
import Derived.Test.YtibipnipeaeonaaGreatDoorZprX
import Derived.Test.YtibipnipeaeonaaGreatDoorMI
import Derived.Test.YtibipnipeaeonaaGreatDoorMN
import Derived.Test.YtibipnipeaeonaaGreatDoorNopnX
namespace Go.Proofs.YtibipnipeaeonaaGreatDoor
open Go Go.RowKit
set_option maxRecDepth 100000
/-- One kept reply as both keep it. -/
structure LkD (k : KpM) (d : DK) : Prop where
  host : k.host = d.q.h
  path : k.path = d.q.p
  L0 : k.L0 = d.q.FL
  code : k.rp.code = d.r.code
  FL : k.rp.FL = d.r.FL
  B : k.rp.B = d.r.B
  at_ : k.at_ = d.at_
theorem LkD.fit {k : KpM} {d : DK} (h : LkD k d) (q : RqM) : fitP k q ↔ fitD d q := by
  unfold fitP fitD
  rw [h.host, h.path, h.L0, h.FL, same_sby]
theorem LkD.lives {k : KpM} {d : DK} (h : LkD k d) (now : Int) : livesP k now ↔ d.at_ ≤ now ∧ now - d.at_ < (lifeR (fdsOf d.r.FL) : Nat) := by
  unfold livesP
  rw [h.at_, h.FL]
theorem LkD.hit {k : KpM} {d : DK} (h : LkD k d) {q : RqM} {now : Int} (hq : unums q.m = getM) : hitP q now k ↔ hitD q now d := by
  unfold hitP hitD
  rw [h.fit, h.lives]
  constructor
  · rintro ⟨h1, h2⟩; exact ⟨hq, h1, h2⟩
  · rintro ⟨_, h1, h2⟩; exact ⟨h1, h2⟩
theorem lk_of {w : World} {q : RqM} {a : RpM} {now : Int} {k : KpM} (h : KeptOf w q a now k) : LkD k ⟨q, a, now⟩ := ⟨h.host, h.path, h.L0, h.rep.code, h.rep.FL, h.rep.B, h.at_⟩
inductive RelL : List KpM → List DK → Prop
  | nil : RelL [] []
  | cons {k d ks D} : LkD k d → RelL ks D → RelL (k :: ks) (d :: D)
theorem RelL.len {ks : List KpM} {D : List DK} (h : RelL ks D) : ks.length = D.length := by
  induction h with
  | nil => rfl
  | cons _ _ ih => simp [ih]
theorem RelL.at_ {ks : List KpM} {D : List DK} (h : RelL ks D) : ∀ t, t < D.length → LkD (ks.getD t kz) (dnth D t) := by
  induction h with
  | nil => intro t ht; cases ht
  | cons h0 _ ih =>
    intro t ht
    cases t with
    | zero => exact h0
    | succ t => exact ih t (by simpa using ht)
theorem RelL.app {ks ks' : List KpM} {D D' : List DK} (h : RelL ks D) (h' : RelL ks' D') : RelL (ks ++ ks') (D ++ D') := by
  induction h with
  | nil => exact h'
  | cons h0 _ ih => exact .cons h0 ih
open Classical in
theorem RelL.filt {ks : List KpM} {D : List DK} (h : RelL ks D) {p : KpM → Prop} {p' : DK → Prop} (hp : ∀ k d, LkD k d → (p k ↔ p' d)) : RelL (kf p ks) (D.filter fun d => decide (¬ p' d)) := by
  unfold kf
  induction h with
  | nil => exact .nil
  | @cons k d ks D h0 _ ih =>
    by_cases hk : p k
    · rw [List.filter_cons_of_neg (by simpa using hk), List.filter_cons_of_neg (by simpa using (hp k d h0).1 hk)]
      exact ih
    · rw [List.filter_cons_of_pos (by simpa using hk), List.filter_cons_of_pos (by simpa using fun e => hk ((hp k d h0).2 e))]
      exact .cons h0 ih
theorem RelL.tail {k : KpM} {ks : List KpM} {D : List DK} (h : RelL (k :: ks) D) : RelL ks (D.drop 1) := by
  cases h with
  | cons _ h => exact h
theorem rel_put {ks : List KpM} {D : List DK} (h : RelL ks D) {w : World} {q : RqM} {a : RpM} {now : Int} {k : KpM} (hk : KeptOf w q a now k) : RelL (kf (fun x => fitP x q) ks ++ [k]) (keepD q D ++ [⟨q, a, now⟩]) :=
  (h.filt (fun _ _ hl => hl.fit q)).app (.cons (lk_of hk) .nil)
/-- Both stores. -/
structure SP (w0 W X : World) (F : Nat → Prop) (sb : Nat) (v : Value) (ks : List KpM) (ab : Nat) (dv : Value) (D : List DK) : Prop where
  old : Below w0.heap.size w0 W
  st : StM W sb v ks
  ds : DSt W ab dv w0.heap.size D
  din : ∀ d ∈ D, DIn w0 d
  hsb : ∀ b, StS sb v b → w0.heap.size ≤ b
  apS : ∀ b, StS sb v b → b ≠ ab
  apK : ∀ k ∈ ks, ∀ b, KpB k b → b ≠ ab
  apD : ∀ b, StS sb v b → dv.ownBlock ≠ some b
  fl : ∀ i, F i → i < W.heap.size
  fs : ∀ i, F i → ¬ StS sb v i ∧ i ≠ ab
  fx : ∀ i, F i → W.heap[i]? = X.heap[i]?
  fk : ∀ i, F i → ∀ k ∈ ks, ¬ KpB k i
  fd : ∀ i, F i → dv.ownBlock ≠ some i
theorem DSt.kept {w w' : World} {ab lo : Nat} {v : Value} {D : List DK} (h : DSt w ab v lo D) (hs : w.heap.size ≤ w'.heap.size) (h1 : w'.heap[ab]? = w.heap[ab]?) (h2 : ∀ k, v.ownBlock = some k → w'.heap[k]? = w.heap[k]?) : DSt w' ab v lo D := by
  refine ⟨h1.trans h.box, ?_, h.abs, h.far⟩
  rcases h.row with hr | ⟨g, off, cap, e1, e2, e3, e4, e5, e6⟩
  · exact Or.inl hr
  · exact Or.inr ⟨g, off, cap, e1, e2, by omega, e4, e5, fun t ht => (e6 t ht).kept (h2 g (by rw [e1]; rfl))⟩
section
variable {w0 W w' X X' : World} {F F' : Nat → Prop} {sb : Nat} {v v' : Value} {ks ks' : List KpM} {ab : Nat} {dv dv' : Value} {D D' : List DK} (h : SP w0 W X F sb v ks ab dv D)
include h
theorem SP.slt : ∀ b, StS sb v b → b < W.heap.size := by
  rintro b (rfl | hb)
  · exact h.st.lt
  · exact (h.st.own.lt b hb).2
theorem SP.dlt : ∀ k, dv.ownBlock = some k → k < W.heap.size := fun k hk => (h.ds.row.own k hk).2
theorem SP.klt : ∀ k ∈ ks, ∀ b, KpB k b → b < W.heap.size := fun k hk _ hb => (h.st.each k hk).lt hb
theorem SP.cell {i j : Nat} {x : Value} (hf : F i) (hx : X.cell? ⟨i, j, none⟩ = some x) : W.cell? ⟨i, j, none⟩ = some x := (World.cell?_of_block (a := ⟨i, j, none⟩) (h.fx i hf)).trans hx
theorem SP.wider (hb : Below W.heap.size W w') (hF : ∀ i, F' i → F i ∨ (W.heap.size ≤ i ∧ i < w'.heap.size)) (hX : ∀ i, F' i → w'.heap[i]? = X'.heap[i]?) : SP w0 w' X' F' sb v ks ab dv D :=
  ⟨h.old.trans (hb.mono h.old.size), h.st.below hb, h.ds.kept hb.size (hb.block _ h.ds.lt) (fun k hk => hb.block k (h.dlt k hk)), h.din, h.hsb, h.apS, h.apK, h.apD,
    fun i hi => (hF i hi).elim (fun k => Nat.lt_of_lt_of_le (h.fl i k) hb.size) (fun k => k.2),
    fun i hi => (hF i hi).elim (fun k => h.fs i k) (fun k => ⟨fun e => by have := h.slt i e; omega, by have := h.ds.lt; omega⟩), hX,
    fun i hi k hk e => (hF i hi).elim (fun hf => h.fk i hf k hk e) (fun hf => by have := h.klt k hk i e; omega),
    fun i hi e => (hF i hi).elim (fun hf => h.fd i hf e) (fun hf => by have := h.dlt i e; omega)⟩
theorem SP.below (hb : Below W.heap.size W w') : SP w0 w' X F sb v ks ab dv D := h.wider hb (fun _ hi => Or.inl hi) (fun i hi => (hb.block i (h.fl i hi)).trans (h.fx i hi))
theorem SP.doc (hd : DSt w' ab dv' w0.heap.size D') (hT : Tn (fun k => k = ab) W w') (hn : ∀ k, dv'.ownBlock = some k → W.heap.size ≤ k) (hin : ∀ d ∈ D', DIn w0 d) : SP w0 w' X F sb v ks ab dv' D' :=
  ⟨Tn.below h.old hT h.old.size (fun k e => by have e' : k = ab := e; rw [e']; exact h.ds.abs), h.st.tn hT (fun k hk e => h.apS k hk e) (fun k hk b hb e => h.apK k hk b hb e), hd, hin, h.hsb, h.apS, h.apK,
    fun b hb e => by have := hn b e; have := h.slt b hb; omega, fun i hi => Nat.lt_of_lt_of_le (h.fl i hi) hT.size, h.fs, fun i hi => (hT.block i (h.fl i hi) (h.fs i hi).2).trans (h.fx i hi), h.fk, fun i hi e => by have := hn i e; have := h.fl i hi; omega⟩
theorem SP.dev (hs : StM w' sb v' ks') (hT : Tn (StS sb v) W w') (hv : ∀ b, StS sb v' b → StS sb v b ∨ W.heap.size ≤ b) (hk : ∀ k ∈ ks', ∀ b, KpB k b → (∃ k0 ∈ ks, KpB k0 b) ∨ W.heap.size ≤ b) : SP w0 w' X F sb v' ks' ab dv D :=
  ⟨Tn.below h.old hT h.old.size h.hsb, hs, h.ds.kept hT.size (hT.block _ h.ds.lt (fun e => h.apS _ e rfl)) (fun k e => hT.block k (h.dlt k e) (fun e2 => h.apD k e2 e)), h.din,
    fun b hb => (hv b hb).elim (h.hsb b) (fun e => Nat.le_trans h.old.size e), fun b hb => (hv b hb).elim (h.apS b) (fun e => by have := h.ds.lt; omega),
    fun k hk' b hb => (hk k hk' b hb).elim (fun ⟨k0, h0, h1⟩ => h.apK k0 h0 b h1) (fun e => by have := h.ds.lt; omega),
    fun b hb e => (hv b hb).elim (fun k => h.apD b k e) (fun k => by have := h.dlt b e; omega),
    fun i hi => Nat.lt_of_lt_of_le (h.fl i hi) hT.size, fun i hi => ⟨fun e => (hv i e).elim (h.fs i hi).1 (fun k => by have := h.fl i hi; omega), (h.fs i hi).2⟩,
    fun i hi => (hT.block i (h.fl i hi) (h.fs i hi).1).trans (h.fx i hi),
    fun i hi k hk' e => (hk k hk' i e).elim (fun ⟨k0, h0, h1⟩ => h.fk i hi k0 h0 h1) (fun hge => by have := h.fl i hi; omega), h.fd⟩
/-- The law's own cells are turned. -/
theorem SP.turn {S : Nat → Prop} (hT : Tn S W w') (hS : ∀ i, S i → F i) (hlo : ∀ i, S i → w0.heap.size ≤ i) : SP w0 w' w' F sb v ks ab dv D :=
  ⟨Tn.below h.old hT h.old.size hlo, h.st.tn hT (fun k hk e => (h.fs k (hS k e)).1 hk) (fun k hk b hb e => h.fk b (hS b e) k hk hb), h.ds.kept hT.size (hT.block _ h.ds.lt (fun e => (h.fs _ (hS _ e)).2 rfl)) (fun k e => hT.block k (h.dlt k e) (fun e2 => h.fd k (hS k e2) e)), h.din, h.hsb, h.apS, h.apK, h.apD,
    fun i hi => Nat.lt_of_lt_of_le (h.fl i hi) hT.size, h.fs, fun _ _ => rfl, h.fk, h.fd⟩
end
end Go.Proofs.YtibipnipeaeonaaGreatDoor
/-
  WHAT WAS ANSWERED: both stores, call by call. No claim by itself.
-/
namespace Go.Proofs.YtibipnipeaeonaaGreatDoor
open Go Go.RowKit
set_option maxRecDepth 100000
theorem getM_N : getM = getN := rfl
open Classical in
noncomputable def cutD (p' : DK → Prop) (D : List DK) : List DK := D.filter fun d => decide (¬ p' d)
/-- Those of another path. -/
noncomputable def dropP (s : ByteArray) (D : List DK) : List DK := cutD (fun d => unums d.q.p = unums s) D
theorem drop_len (s : ByteArray) (D : List DK) : (dropP s D).length ≤ D.length := List.length_filter_le _ _
theorem drop_mem {s : ByteArray} {D : List DK} : ∀ d ∈ dropP s D, d ∈ D := fun _ hd => (List.mem_filter.1 hd).1
theorem drop_no {s : ByteArray} {D : List DK} {k : Nat} (h : k < D.length) (hf : unums (dnth D k).q.p = unums s) : dropP s (D.take (k + 1)) = dropP s (D.take k) := by
  rw [dtake_nth D k h]
  unfold dropP cutD
  rw [List.filter_append, List.filter_cons_of_neg (by simpa using hf)]
  simp
theorem drop_yes {s : ByteArray} {D : List DK} {k : Nat} (h : k < D.length) (hf : ¬ unums (dnth D k).q.p = unums s) : dropP s (D.take (k + 1)) = dropP s (D.take k) ++ [dnth D k] := by
  rw [dtake_nth D k h]
  unfold dropP cutD
  rw [List.filter_append, List.filter_cons_of_pos (by simpa using hf)]
  simp
theorem din_new {w : World} {q : RqM} {a : RpM} {now : Int} (hq : RqIn w q) (hqs : RqS q) (ha : RpIn w a) (has : RpS a) (hn : 0 ≤ now ∧ now ≤ 1000000) : DIn w ⟨q, a, now⟩ :=
  ⟨hq.fields, ha.fields, by have := hqs.fn; show q.fn ≤ _; omega, by have := has.fn; show a.fn ≤ _; omega, fun t => (ha.each t).2, hn, ha⟩
theorem after_mem {D : List DK} {q : RqM} {a : RpM} {now : Int} : ∀ d ∈ afterP D q a now, d ∈ D ∨ d = ⟨q, a, now⟩ := by
  intro d hd
  have h1 : d ∈ keepD q D ++ [(⟨q, a, now⟩ : DK)] := by
    unfold afterP at hd
    split at hd
    · exact List.mem_of_mem_drop hd
    · exact hd
  rcases List.mem_append.1 h1 with h2 | h2
  · exact Or.inl (List.mem_filter.1 h2).1
  · exact Or.inr (List.mem_singleton.1 h2)
section
variable {w0 W X : World} {F : Nat → Prop} {sb : Nat} {v : Value} {ks : List KpM} {ab : Nat} {dv : Value} {D : List DK} (h : SP w0 W X F sb v ks ab dv D)
include h
theorem SP.dinW : ∀ d ∈ D, DIn W d := fun d hd => (h.din d hd).below h.old
theorem SP.mput (hl : D.length ≤ 21) {q : RqM} {a : RpM} {now : Int} (hq : RqIn w0 q) (hqs : RqS q) (ha : RpIn w0 a) (has : RpS a) (hn : 0 ≤ now ∧ now ≤ 1000000) :
    Calls Tryz.prog 5 #[.pointer (some ⟨ab, 0, none⟩), q.val, a.val, .int .i64 now] W fun e w' =>
      (¬ okD q a ∧ e = .returned (.bool false) ∧ SP w0 w' X F sb v ks ab dv D) ∨ (okD q a ∧ e = .returned (.bool true) ∧ ∃ dv', SP w0 w' X F sb v ks ab dv' (afterP D q a now)) := by
  have hqW := hq.below h.old
  have haW := ha.below h.old
  refine (rput_any h.ds hl q a now h.dinW ⟨hqW.fields, by have := hqs.fn; omega⟩ haW.fields (by have := has.fn; omega) (fun t => (ha.each t).2)).mono ?_
  rintro e w' (⟨h1, h2, h3⟩ | ⟨h1, h2, dv', h3, h4, h5⟩)
  · exact Or.inl ⟨h1, h2, h.below h3⟩
  · refine Or.inr ⟨h1, h2, dv', h.doc h3 h4 h5 fun d hd => ?_⟩
    rcases after_mem d hd with hd | rfl
    · exact h.din d hd
    · exact din_new hq hqs ha has hn
theorem SP.offG (hgl : 9 ≤ w0.heap.size) : OffG (StS sb v) := fun k hk => Nat.le_trans hgl (h.hsb k hk)
theorem SP.dput {D0 : List DK} (rel : RelL ks D0) (hlen : ks.length ≤ 20) {q : RqM} {a : RpM} {now : Int} (hq : RqIn w0 q) (hqs : RqS q) (ha : RpIn w0 a) (has : RpS a) (hn : 0 ≤ now ∧ now ≤ 1000000) (hm : QOk w0) (hgl : 9 ≤ w0.heap.size) :
    Calls Tryz.prog 6 #[.pointer (some ⟨sb, 0, none⟩), q.val, a.val, .int .i64 now] W fun e w' =>
      (¬ okD q a ∧ e = .returned (.tuple #[.bool false, .nilIface]) ∧ SP w0 w' X F sb v ks ab dv D) ∨
      (okD q a ∧ e = .returned (.tuple #[.bool true, .nilIface]) ∧ ∃ v' ks', SP w0 w' X F sb v' ks' ab dv D ∧ RelL ks' (afterP D0 q a now) ∧ ks'.length ≤ 20) := by
  have hqW := hq.below h.old
  have haW := ha.below h.old
  have hmW := hm.below h.old
  have hqo : ∀ b, RqB q b → ¬ StS sb v b := fun b hb e => by have := h.hsb b e; have := hq.lt hb; omega
  have hao : ∀ b, RpB a b → ¬ StS sb v b := fun b hb e => by have := h.hsb b e; have := ha.lt hb; omega
  by_cases hok : okD q a
  · obtain ⟨h1, h2, h3⟩ := hok
    have hkl := kf_len (fun k => fitP k q) ks
    have hr := rel.filt (p := fun k => fitP k q) (p' := fun d => fitD d q) (fun _ _ hl => hl.fit q)
    have hrl := hr.len
    have hkd : (keepD q D0).length = (kf (fun k => fitP k q) ks).length := by rw [hrl]; rfl
    by_cases hlow : (kf (fun k => fitP k q) ks).length < 20
    · refine (zput_yes sb v ks q a now W h.st hqW haW hqs has hmW hn h1 h2 h3 hlow (h.offG hgl) hqo hao).mono ?_
      rintro e w' ⟨he, v', k, hs, hK, hT, hN⟩
      refine Or.inr ⟨⟨h1, h2, h3⟩, he, v', _, h.dev hs hT hN fun k' hk' b hb => ?_, ?_, by rw [List.length_append]; simp; omega⟩
      · rcases List.mem_append.1 hk' with hk' | hk'
        · exact Or.inl ⟨k', kf_sub hk', hb⟩
        · rw [List.mem_singleton.1 hk'] at hb
          exact Or.inr (hK.new b hb)
      · have := rel_put rel hK
        unfold afterP
        rw [if_neg (by rw [List.length_append]; simp; omega)]
        exact this
    · refine (zput_full sb v ks q a now W h.st hqW haW hqs has hmW hn h1 h2 h3 (by omega) (h.offG hgl) hqo hao).mono ?_
      rintro e w' ⟨he, v', k, k0, E, hE, hs, hK, hT, hN⟩
      have hmem : ∀ x ∈ E, x ∈ kf (fun k => fitP k q) ks ++ [k] := fun x hx => by rw [hE]; exact List.mem_cons_of_mem _ hx
      refine Or.inr ⟨⟨h1, h2, h3⟩, he, v', E, h.dev hs hT hN fun k' hk' b hb => ?_, ?_, ?_⟩
      · rcases List.mem_append.1 (hmem k' hk') with hk' | hk'
        · exact Or.inl ⟨k', kf_sub hk', hb⟩
        · rw [List.mem_singleton.1 hk'] at hb
          exact Or.inr (hK.new b hb)
      · have := rel_put rel hK
        unfold afterP
        rw [if_pos (by rw [List.length_append]; simp; omega)]
        rw [hE] at this
        exact this.tail
      · have := congrArg List.length hE
        rw [List.length_append, List.length_cons] at this
        simp at this
        omega
  · refine (zput_no sb q a now W haW has hmW hn hok).mono ?_
    rintro e w' ⟨he, hb⟩
    exact Or.inl ⟨hok, he, h.below hb⟩
theorem SP.mget (hl : D.length ≤ 21) {q : RqM} {now : Int} (hq : RqIn w0 q) (hqs : RqS q) (hn : 0 ≤ now ∧ now ≤ 1000000) :
    Calls Tryz.prog 9 #[.pointer (some ⟨ab, 0, none⟩), q.val, .int .i64 now] W fun e w' => ∃ i, e = .returned (.int .i64 i) ∧ GetI D q now i ∧ SP w0 w' X F sb v ks ab dv D := by
  have hqW := hq.below h.old
  refine (rget_any h.ds hl q now h.dinW ⟨hqW.fields, by have := hqs.fn; omega⟩ hn).mono ?_
  rintro e w' ⟨i, he, hi, hb⟩
  exact ⟨i, he, hi, h.below hb⟩
/-- What the developers' Get tells, in the words of the document's. -/
def TellE (D : List DK) (q : RqM) (now : Int) (e : Ending) (w' : World) : Prop :=
  (∃ t p, t < D.length ∧ hitD q now (dnth D t) ∧ (∀ s, t < s → s < D.length → ¬ hitD q now (dnth D s)) ∧ e = .returned (.tuple #[p.val, .int .i64 (now - (dnth D t).at_), .nilIface]) ∧ RpIn w' p ∧ p.rp = (dnth D t).r.rp) ∨
  ((∀ s, s < D.length → ¬ hitD q now (dnth D s)) ∧ e = .returned (.tuple #[.agg #[.int .i64 0, .slice none 0 0, .slice none 0 0], .int .i64 0, .iface 60 (.int .i64 5)]))
theorem SP.dget (rel : RelL ks D) {q : RqM} {now : Int} (hq : RqIn w0 q) (hqs : RqS q) (hn : 0 ≤ now ∧ now ≤ 1000000) (hm : QOk w0) (hgl : 9 ≤ w0.heap.size) :
    Calls Tryz.prog 10 #[.pointer (some ⟨sb, 0, none⟩), q.val, .int .i64 now] W fun e w' => TellE D q now e w' ∧ SP w0 w' X F sb v ks ab dv D ∧ Below W.heap.size W w' := by
  by_cases hg : unums q.m = getM
  · refine (zget_any sb v ks q now W h.st (hq.below h.old) hqs (hm.below h.old) hn hg (Nat.le_trans hgl h.old.size)).mono ?_
    rintro e w' ⟨hE, hb⟩
    refine ⟨?_, h.below hb, hb⟩
    have hlen := rel.len
    rcases hE with ⟨t, p, h1, h2, h3, h4, h5, h6⟩ | ⟨h1, h2⟩
    · have hl := rel.at_ t (by omega)
      refine Or.inl ⟨t, p, by omega, (hl.hit hg).1 h2, fun s hs1 hs2 hh => h3 s hs1 (by omega) (((rel.at_ s hs2).hit hg).2 hh), by rw [h4, hl.at_], h5, ?_⟩
      unfold RpM.rp
      rw [h6.code, h6.FL, h6.B, hl.code, hl.FL, hl.B]
    · exact Or.inr ⟨fun s hs hh => h1 s (by omega) (((rel.at_ s hs).hit hg).2 hh), h2⟩
  · refine (zget_not sb q now W hn hg).mono ?_
    rintro e w' ⟨he, hb⟩
    exact ⟨Or.inr ⟨fun s hs hh => hg hh.1, he⟩, h.below hb, hb⟩
theorem SP.len : Calls Tryz.prog 12 #[.pointer (some ⟨sb, 0, none⟩)] W fun e w' => e = .returned (.int .i64 (ks.length : Nat)) ∧ W = w' := zlen_any sb v ks W h.st
theorem SP.drop {D0 : List DK} (rel : RelL ks D0) (hlen : ks.length ≤ 20) (s : ByteArray) : Calls Tryz.prog 8 #[.pointer (some ⟨sb, 0, none⟩), .string s] W fun e w' =>
    ∃ v' ks', e = .returned (.int .i64 ((D0.length : Int) - ((dropP s D0).length : Int))) ∧ SP w0 w' X F sb v' ks' ab dv D ∧ RelL ks' (dropP s D0) ∧ ks'.length ≤ 20 := by
  refine (zdrop_any sb v ks s W h.st).mono ?_
  rintro e w' ⟨he, v', hs, hT, hN⟩
  have hr : RelL (kf (fun k => unums k.path = unums s) ks) (dropP s D0) := rel.filt (p := fun k => unums k.path = unums s) (p' := fun d => unums d.q.p = unums s) (fun k d hl => by rw [hl.path])
  refine ⟨v', _, ?_, h.dev hs hT (fun b hb => Or.inl (hN b hb)) (fun k hk b hb => Or.inl ⟨k, kf_sub hk, hb⟩), hr, Nat.le_trans (kf_len _ _) hlen⟩
  rw [he, rel.len, hr.len]
end
end Go.Proofs.YtibipnipeaeonaaGreatDoor
/-
  WHAT WAS ANSWERED: rows of requests and of replies that are handed in. No claim by itself.
-/
namespace Go.Proofs.YtibipnipeaeonaaGreatDoor
open Go Go.RowKit
set_option maxRecDepth 100000
theorem blk_cell {w : World} {g o : Nat} {v : Value} (h : w.cell? ⟨g, o, none⟩ = some v) : g < w.heap.size := by
  rcases Nat.lt_or_ge g w.heap.size with h1 | h1
  · exact h1
  · simp [World.cell?, Array.getElem?_eq_none h1] at h
/-- Requests, and replies, that are handed in. -/
structure AsksIn (w : World) (a : Option Addr) (len cap : Nat) (Q : Nat → RqM) : Prop where
  cap : len ≤ cap ∧ cap ≤ maxLen
  each : ∀ t, t < len → ∃ g off, a = some ⟨g, off, none⟩ ∧ (w.cell? ⟨g, off + t * 5, none⟩ = some (.string (Q t).m) ∧ w.cell? ⟨g, off + t * 5 + 1, none⟩ = some (.string (Q t).p) ∧ w.cell? ⟨g, off + t * 5 + 2, none⟩ = some (.string (Q t).h) ∧ w.cell? ⟨g, off + t * 5 + 3, none⟩ = some (.slice (Q t).fa (Q t).fn (Q t).fc) ∧ w.cell? ⟨g, off + t * 5 + 4, none⟩ = some (.slice (Q t).ba (Q t).bn (Q t).bc)) ∧ RqIn w (Q t) ∧ RqS (Q t)
structure TellsIn (w : World) (a : Option Addr) (len cap : Nat) (Q : Nat → RpM) : Prop where
  cap : len ≤ cap ∧ cap ≤ maxLen
  each : ∀ t, t < len → ∃ g off, a = some ⟨g, off, none⟩ ∧ (w.cell? ⟨g, off + t * 3, none⟩ = some (.int .i64 (Q t).code) ∧ w.cell? ⟨g, off + t * 3 + 1, none⟩ = some (.slice (Q t).fa (Q t).fn (Q t).fc) ∧ w.cell? ⟨g, off + t * 3 + 2, none⟩ = some (.slice (Q t).ba (Q t).bn (Q t).bc)) ∧ RpIn w (Q t) ∧ RpS (Q t)
theorem three_set {w : World} {n : Nat} {t : TypeId} {x y z : Value} (h : w.heap[n]? = some (.cells #[.int .i64 0, .slice none 0 0, .slice none 0 0] t (0, 0))) : (((w.setCell ⟨n, 0, none⟩ x).setCell ⟨n, 1, none⟩ y).setCell ⟨n, 2, none⟩ z).heap[n]? = some (.cells #[x, y, z] t (0, 0)) := gbox_set3 h
theorem three_tn (w : World) (n : Nat) (x y z : Value) : Tn (fun i => i = n) w (((w.setCell ⟨n, 0, none⟩ x).setCell ⟨n, 1, none⟩ y).setCell ⟨n, 2, none⟩ z) :=
  Tn.trans' (Tn.trans' (tn_set (S := fun i => i = n) (a := ⟨n, 0, none⟩) rfl) (tn_set (S := fun i => i = n) (a := ⟨n, 1, none⟩) rfl)) (tn_set (S := fun i => i = n) (a := ⟨n, 2, none⟩) rfl)
def q00 : RqM := ⟨⟨#[]⟩, ⟨#[]⟩, ⟨#[]⟩, none, 0, 0, none, 0, 0, [], []⟩
def p00 : RpM := ⟨0, none, 0, 0, none, 0, 0, [], []⟩
end Go.Proofs.YtibipnipeaeonaaGreatDoor
