/-
  CONTRACT of the method readNumber of head.Coder. No claim by itself.
-/
import Derived.Test.YtkjfhgoddhigmacDoorM31
namespace Go.Proofs.YtkjfhgoddhigmacDoor
open Go.RowKit
set_option maxRecDepth 100000
/-- What is known of a box for a field's two texts, and of stores into it. -/
theorem box_rules {w : World} {B : Nat} {n v : Value} (h : w.heap[B]? = some (.cells #[n, v] 33 (0, 0))) :
    (w.cell? ⟨B, 0, none⟩ = some n ∧ w.cell? ⟨B, 1, none⟩ = some v ∧ w.frozen? ⟨B, 0, none⟩ = false ∧ w.frozen? ⟨B, 1, none⟩ = false) ∧
    (∀ a, (w.setCell ⟨B, 0, none⟩ a).cell? ⟨B, 0, none⟩ = some a ∧ (w.setCell ⟨B, 0, none⟩ a).cell? ⟨B, 1, none⟩ = some v) ∧
    ∀ a b, ((w.setCell ⟨B, 0, none⟩ a).setCell ⟨B, 1, none⟩ b).heap[B]? = some (.cells #[a, b] 33 (0, 0)) := by
  have h1 : ∀ a, (w.setCell ⟨B, 0, none⟩ a).heap[B]? = some (.cells #[a, v] 33 (0, 0)) := fun a => by rw [heap_set h]; rfl
  refine ⟨⟨(cell_at h 0).trans rfl, (cell_at h 1).trans rfl, frozen_at h 0, frozen_at h 1⟩, fun a => ⟨(cell_at (h1 a) 0).trans rfl, (cell_at (h1 a) 1).trans rfl⟩, fun a b => by rw [heap_set (h1 a)]; rfl⟩
theorem box_at {w : World} {B : Nat} {n v : Value} (h : w.heap[B]? = some (.cells #[n, v] 33 (0, 0))) : w.cell? ⟨B, 0, none⟩ = some n ∧ w.cell? ⟨B, 1, none⟩ = some v := ⟨(cell_at h 0).trans rfl, (cell_at h 1).trans rfl⟩
/-- Get of bytes that are handed in. -/
theorem get_arg (a : Option Addr) (len cap : Nat) (Z : List Int) (b : Int) (w : World) (hA : Arg w a len cap Z) (h1 : 1 ≤ b) (h2 : b ≤ 8) : ∃ x, Err (getF Z b).2.2 x ∧
    Calls Tryd.prog 36 #[.slice a len cap, .int .i64 b] w fun e w' => e = .returned (.tuple #[.int .i64 (getF Z b).1, .int .i64 (getF Z b).2.1, x]) ∧ w = w' := by
  obtain ⟨n, u, k, hg⟩ : ∃ n u k, getF Z b = (n, u, k) := ⟨_, _, _, rfl⟩
  obtain ⟨x, hx⟩ : ∃ x, Err k x := by
    by_cases hk : k = 0
    · exact ⟨_, Or.inl ⟨hk, rfl⟩⟩
    · exact ⟨_, Or.inr ⟨hk, rfl⟩⟩
  rw [hg]
  refine ⟨x, hx, ?_⟩
  have key : Calls Tryd.prog 36 #[.slice a len cap, .int .i64 b] w fun e w' => (∃ n u x, e = .returned (.tuple #[.int .i64 n, .int .i64 u, x]) ∧ Told3 (getF Z b) n u x) ∧ w = w' := by
    rcases hA with ⟨rfl, rfl⟩ | ⟨g, off, rfl, hr⟩
    · exact get_nil a cap b w h1 h2
    · exact get_row g off len cap Z b w hr
  refine key.mono ?_
  rintro e w' ⟨⟨n', u', x', rfl, hg'⟩, rfl⟩
  rw [hg] at hg'
  rcases hg' with ⟨h, rfl⟩ | ⟨k', hk', h, rfl⟩
  · cases h
    rcases hx with ⟨_, rfl⟩ | ⟨h, _⟩
    · exact ⟨rfl, rfl⟩
    · exact absurd rfl h
  · cases h
    rcases hx with ⟨h, _⟩ | ⟨_, rfl⟩
    · exact absurd h hk'
    · exact ⟨rfl, rfl⟩
/-- What reading a field gives. -/
def FldTold (t : (ByteArray × ByteArray) × Int × Int) (e : Ending) : Prop := ∃ x, e = .returned (.tuple #[.agg #[.string t.1.1, .string t.1.2], .int .i64 t.2.1, x]) ∧ Err t.2.2 x
theorem fld_told {t : (ByteArray × ByteArray) × Int × Int} {n v : ByteArray} {u k : Int} {x : Value} (h : t = ((n, v), u, k)) (hx : Err k x) : FldTold t (.returned (.tuple #[.agg #[.string n, .string v], .int .i64 u, x])) := ⟨x, by rw [h], by rw [h]; exact hx⟩
/-- A coder that may read: its table. -/
theorem HCod.inn {w : World} {cb : Nat} {st : CSt} {S : Nat → Prop} (h : HCod w cb st S) (hb : st.bad = false) : ∃ ti SI, w.cell? ⟨cb, 3, none⟩ = some (.pointer (some ⟨ti, 0, none⟩)) ∧ TabP w ti st.mi st.AI SI ∧ (∀ k, SI k → S k ∧ k ≠ cb) := by
  obtain ⟨to, SO, vi, hh, _, _, h1 | ⟨_, ti, SI, rfl, hT, hd⟩⟩ := h.cells
  · rw [hb] at h1; exact absurd h1.1 (by decide)
  · exact ⟨ti, SI, (cell_at hh 3).trans rfl, hT, fun k hk => ⟨(hd k hk).1, (hd k hk).2.1⟩⟩
set_option maxHeartbeats 4000000 in
theorem hnum_any (cb : Nat) (st : CSt) (S : Nat → Prop) (a : Option Addr) (len cap : Nat) (Z : List Int) (w : World) (hC : HCod w cb st S) (hF : HFit st) (hbad : st.bad = false) (hA : Arg w a len cap Z) :
    Calls Tryd.prog 37 #[.pointer (some ⟨cb, 0, none⟩), .slice a len cap] w fun e w' => FldTold (numF st.AI Z) e ∧ Below w.heap.size w w' := by
  obtain ⟨w0, hw0⟩ : ∃ w0, w0 = w.alloc (.cells #[.string ⟨#[]⟩, .string ⟨#[]⟩] 33) := ⟨_, rfl⟩
  have hb0 : Below w.heap.size w w0 := by rw [hw0]; exact (Below.refl _ _).alloc (Nat.le_refl _) _
  have hsz0 : w.heap.size + 1 ≤ w0.heap.size := by rw [hw0]; simp
  have hbx : w0.heap[w.heap.size]? = some (.cells #[.string ⟨#[]⟩, .string ⟨#[]⟩] 33 (0, 0)) := by rw [hw0]; exact Array.getElem?_push_size
  have hcl := hC.hlt cb hC.hcb
  obtain ⟨ti, SI, c3, hT, hS⟩ := (hC.below hb0).inn hbad
  obtain ⟨x, hx, hget⟩ := get_arg a len cap Z 7 w0 (hA.below hb0) (by decide) (by decide)
  have HN : Hid (numF st.AI Z = if (getF Z 7).2.2 ≠ 0 then (fnone, 0, (getF Z 7).2.2) else if 1 ≤ (getF Z 7).1 ∧ (getF Z 7).1 ≤ ((12 + st.AI.length : Nat) : Int) then ((alwaysL ++ st.AI).getD ((getF Z 7).1 - 1).toNat fnone, (getF Z 7).2.1, 0) else (fnone, 0, 5)) := rfl
  generalize numF st.AI Z = N at *
  generalize (getF Z 7).2.2 = k at *
  generalize (getF Z 7).2.1 = u at *
  generalize (getF Z 7).1 = n at *
  have htg := tget ti st.mi st.AI SI n w0 hT hF.inn
  have hL : (alwaysL ++ st.AI).length = 12 + st.AI.length := by rw [List.length_append, always_len]
  have HX := hide hx
  have HBX := hide hbx
  clear hx hT hC hF hA
  by_cases hk : k = 0
  · subst hk
    have hxn : x = .nilIface := by
      rcases HX.out with h | h
      · exact h.2
      · exact absurd rfl h.1
    subst hxn
    clear hbx
    go_enter Tryd.func37, Tryd.ntmps37
    go_wp2_with fail
    rw [← hw0]
    clear hw0
    refine hget.mono ?_
    rintro e w' ⟨rfl, rfl⟩
    clear hget
    go_wp2_with fail
    refine htg.mono ?_
    rintro e w1 ⟨v, rfl, hgot, hb1⟩
    have hB1 := hb0.trans (hb1.mono (by omega))
    have h1x : w1.heap[w.heap.size]? = some (.cells #[.string ⟨#[]⟩, .string ⟨#[]⟩] 33 (0, 0)) := (hb1.block _ (by omega)).trans HBX.out
    obtain ⟨⟨q0, q1, f0, f1⟩, qa, qb⟩ := box_rules h1x
    have qa0 := fun a => (qa a).1
    have qa1 := fun a => (qa a).2
    have qc := fun a b => (box_at (qb a b)).1
    have qd := fun a b => (box_at (qb a b)).2
    have qbr := fun a b => box_rules (qb a b)
    have qe := fun a b c => ((qbr a b).2.1 c).1
    have qf := fun a b c => ((qbr a b).2.1 c).2
    have qg := fun a b c d => (box_at ((qbr a b).2.2 c d)).1
    have qh := fun a b c d => (box_at ((qbr a b).2.2 c d)).2
    have HG := hide hgot
    clear htg hgot qa qb qbr h1x
    rcases HG.out with ⟨g1, g2, rfl⟩ | ⟨gn, rfl⟩
    · have HE : Hid (N = ((alwaysL ++ st.AI).getD (n - 1).toNat fnone, u, 0)) := by
        show N = _
        rw [HN.out, if_neg (by simp), if_pos (by rw [hL] at g2; omega)]
      clear HG HN g1 g2
      generalize (alwaysL ++ st.AI).getD (n - 1).toNat fnone = f at *
      obtain ⟨fn, fv⟩ := f
      unfold fval
      go_wp2
      (try simp only [Exit.inBlock, Exit.then])
      refine bodyPost_ret (by simp [results, Tryd.results37, go_sem, qg, qh]; try rfl) rfl ?_
      refine ⟨fld_told HE.out (Or.inl ⟨rfl, rfl⟩), ?_⟩
      repeat (first | exact hB1 | refine Below.setCell ?_ (by simp) _)
    · have HE : Hid (N = ((⟨#[]⟩, ⟨#[]⟩), 0, 5)) := by
        show N = _
        rw [HN.out, if_neg (by simp), if_neg (by rw [hL] at gn; exact gn)]; rfl
      clear HG HN gn
      unfold fval
      go_wp2
      (try simp only [Exit.inBlock, Exit.then])
      refine bodyPost_ret (by simp [results, Tryd.results37, go_sem, qg, qh]; try rfl) rfl ?_
      refine ⟨fld_told HE.out (Or.inr ⟨by decide, rfl⟩), ?_⟩
      repeat (first | exact hB1 | refine Below.setCell ?_ (by simp) _)
  · have HE : Hid (N = ((⟨#[]⟩, ⟨#[]⟩), 0, k)) := by
      show N = _
      rw [HN.out, if_pos hk]; rfl
    have hxn : x = .iface 49 (.int .i64 k) := by
      rcases HX.out with h | h
      · exact absurd h.1 hk
      · exact h.2
    subst hxn
    obtain ⟨⟨q0, q1, f0, f1⟩, qa, qb⟩ := box_rules hbx
    have qa0 := fun a => (qa a).1
    have qa1 := fun a => (qa a).2
    have qc := fun a b => (box_at (qb a b)).1
    have qd := fun a b => (box_at (qb a b)).2
    clear htg HN hbx qa qb
    go_enter Tryd.func37, Tryd.ntmps37
    go_wp2_with fail
    rw [← hw0]
    clear hw0
    refine hget.mono ?_
    rintro e w' ⟨rfl, rfl⟩
    clear hget
    go_wp2
    (try simp only [Exit.inBlock, Exit.then])
    refine bodyPost_ret (by simp [results, Tryd.results37, go_sem, qc, qd]; try rfl) rfl ?_
    refine ⟨fld_told HE.out (Or.inr ⟨hk, rfl⟩), ?_⟩
    repeat (first | exact hb0 | refine Below.setCell ?_ (by simp) _)
end Go.Proofs.YtkjfhgoddhigmacDoor
/-
  CONTRACT of the method readName of head.Coder. No claim by itself.
-/
namespace Go.Proofs.YtkjfhgoddhigmacDoor
open Go.RowKit
set_option maxRecDepth 100000
/-- What lies behind so many bytes, wherever the cut lays it. -/
theorem tail_row {w : World} {g off len cap : Nat} {Z : List Int} (h : Row w g off len cap Z) (u : Nat) (hu : u ≤ len) :
    ∃ o, (if cap = u then some (⟨g, off, none⟩ : Addr) else some ⟨g, off + u, none⟩) = some ⟨g, o, none⟩ ∧ Row w g o (len - u) (cap - u) (Z.drop u) := by
  obtain ⟨o, ho, hr⟩ := cut_row h u (len - u) (by omega)
  have e : (Z.drop u).take (len - u) = Z.drop u := List.take_of_length_le (by rw [List.length_drop, h.hlen]; omega)
  rw [e] at hr
  exact ⟨o, ho, hr⟩
theorem rtF_zero (Z : List Int) (h : (rtF Z).2.2 ≠ 0) : (rtF Z).2.1 = 0 := by
  unfold rtF at h ⊢
  split
  · rfl
  · rename_i h1
    rw [if_neg h1] at h
    split
    · rfl
    · rename_i h2
      rw [if_neg h2] at h
      split
      · rfl
      · rename_i h3
        rw [if_neg h3] at h
        unfold rtB at h ⊢
        generalize (if 127 < Z.getD 0 0 then decF ((Z.drop (getF Z 7).2.1.toNat).take (getF Z 7).1.toNat) else some ((Z.drop (getF Z 7).2.1.toNat).take (getF Z 7).1.toNat)) = d at h ⊢
        match d with
        | none => rfl
        | some s =>
          by_cases q1 : 400 < s.length
          · rw [rtE_long _ _ _ q1]
          · by_cases q2 : txtL s = Z.take ((getF Z 7).2.1.toNat + (getF Z 7).1.toNat)
            · rw [rtE_ok _ _ _ (by omega) q2] at h; exact absurd rfl h
            · rw [rtE_bad _ _ _ (by omega) q2]
/-- A name, by its number or as a text: the name, how many bytes, the fault. -/
def nmF (A : List (ByteArray × ByteArray)) (Z : List Int) (b : Int) : ByteArray × Int × Int :=
  if (getF Z b).2.2 ≠ 0 then (⟨#[]⟩, 0, (getF Z b).2.2)
  else if 0 < (getF Z b).1 then (if (getF Z b).1 ≤ ((12 + A.length : Nat) : Int) then (((alwaysL ++ A).getD ((getF Z b).1 - 1).toNat fnone).1, (getF Z b).2.1, 0) else (⟨#[]⟩, (getF Z b).2.1, 5))
  else (strOfNums (rtF (Z.drop (getF Z b).2.1.toNat)).1, (getF Z b).2.1 + (rtF (Z.drop (getF Z b).2.1.toNat)).2.1, (rtF (Z.drop (getF Z b).2.1.toNat)).2.2)
theorem lit_nm (A : List (ByteArray × ByteArray)) (Z : List Int) (b : Int) (h1 : 1 ≤ b) (h2 : b ≤ 8) : litF A Z b = if (nmF A Z b).2.2 ≠ 0 then (fnone, 0, (nmF A Z b).2.2) else litV Z (nmF A Z b).1 (nmF A Z b).2.1.toNat := by
  have hb := getF_bd Z b h1 h2
  have hr := rtF_bd (Z.drop (getF Z b).2.1.toNat)
  unfold litF nmF
  by_cases hk : (getF Z b).2.2 ≠ 0
  · rw [if_pos hk, if_pos hk]
    simp only [if_pos hk]
  · rw [if_neg hk, if_neg hk]
    have hb' := hb (by simpa using hk)
    by_cases hn : 0 < (getF Z b).1
    · by_cases hl : (getF Z b).1 ≤ ((12 + A.length : Nat) : Int)
      · rw [if_neg (by omega), if_pos hn, if_pos hn, if_pos hl, if_neg (by simp)]
      · rw [if_pos (by omega), if_pos hn, if_neg hl, if_pos (by simp)]
    · rw [if_neg (by omega), if_neg hn, if_neg hn]
      by_cases hq : (rtF (Z.drop (getF Z b).2.1.toNat)).2.2 ≠ 0
      · rw [if_pos hq]
        simp only [if_pos hq]
      · have hr' := hr (by simpa using hq)
        rw [if_neg hq]
        simp only [if_neg hq]
        congr 1
        omega
theorem nm_bd (A : List (ByteArray × ByteArray)) (Z : List Int) (b : Int) (h1 : 1 ≤ b) (h2 : b ≤ 8) (h : (nmF A Z b).2.2 = 0) : 1 ≤ (nmF A Z b).2.1 ∧ (nmF A Z b).2.1 ≤ Z.length := by
  have hb := getF_bd Z b h1 h2
  have hr := rtF_bd (Z.drop (getF Z b).2.1.toNat)
  unfold nmF at h ⊢
  by_cases hk : (getF Z b).2.2 ≠ 0
  · rw [if_pos hk] at h; exact absurd h hk
  · rw [if_neg hk] at h ⊢
    have hb' := hb (by simpa using hk)
    by_cases hn : 0 < (getF Z b).1
    · rw [if_pos hn] at h ⊢
      by_cases hl : (getF Z b).1 ≤ ((12 + A.length : Nat) : Int)
      · rw [if_pos hl]; exact hb'.2
      · rw [if_neg hl] at h; simp at h
    · rw [if_neg hn] at h ⊢
      have hr' := hr h
      rw [List.length_drop] at hr'
      show 1 ≤ _ + _ ∧ _ + _ ≤ _
      omega
/-- What readName gives. -/
def NmTold (t : ByteArray × Int × Int) (e : Ending) : Prop := ∃ x, e = .returned (.tuple #[.string t.1, .int .i64 t.2.1, x]) ∧ Err t.2.2 x
theorem nm_told {t : ByteArray × Int × Int} {n : ByteArray} {u k : Int} {x : Value} (h : t = (n, u, k)) (hx : Err k x) : NmTold t (.returned (.tuple #[.string n, .int .i64 u, x])) := ⟨x, by rw [h], by rw [h]; exact hx⟩
set_option maxHeartbeats 4000000 in
theorem hname_any (cb : Nat) (st : CSt) (S : Nat → Prop) (a : Option Addr) (len cap : Nat) (Z : List Int) (b : Int) (w : World) (hC : HCod w cb st S) (hF : HFit st) (hbad : st.bad = false) (hA : Arg w a len cap Z) (hb1 : 1 ≤ b) (hb2 : b ≤ 8) (hlm : len ≤ 140737488351232) :
    Calls Tryd.prog 49 #[.pointer (some ⟨cb, 0, none⟩), .slice a len cap, .int .i64 b] w fun e w' => NmTold (nmF st.AI Z b) e ∧ Below w.heap.size w w' := by
  have hcl := hC.hlt cb hC.hcb
  obtain ⟨ti, SI, c3, hT, hS⟩ := hC.inn hbad
  obtain ⟨x, hx, hget⟩ := get_arg a len cap Z b w hA hb1 hb2
  have hbd := getF_bd Z b hb1 hb2
  have HX := hide hx
  by_cases hk : (getF Z b).2.2 = 0
  · have hbd' := hbd hk
    rcases hA with ⟨rfl, rfl⟩ | ⟨g, off, rfl, hr⟩
    · have := hbd'.2; simp at this; omega
    have hxn : x = .nilIface := by
      rcases HX.out with h | h
      · exact h.2
      · exact absurd hk h.1
    subst hxn
    have hl := hr.hlen
    rw [hl] at hbd'
    have hcap := hr.hcap
    have hmx := hr.hmax
    unfold maxLen at hmx
    by_cases hn : 0 < (getF Z b).1
    · have htg := tget ti st.mi st.AI SI (getF Z b).1 w hT hF.inn
      have hL : (alwaysL ++ st.AI).length = 12 + st.AI.length := by rw [List.length_append, always_len]
      have HN : Hid (nmF st.AI Z b = if (getF Z b).1 ≤ ((12 + st.AI.length : Nat) : Int) then (((alwaysL ++ st.AI).getD ((getF Z b).1 - 1).toNat fnone).1, (getF Z b).2.1, 0) else (⟨#[]⟩, (getF Z b).2.1, 5)) := by
        show nmF st.AI Z b = _
        unfold nmF; rw [if_neg (by simpa using hk), if_pos hn]
      generalize nmF st.AI Z b = N at *
      generalize (getF Z b).2.1 = u at *
      generalize (getF Z b).1 = n at *
      clear hT hC hF hr hbd HX hx hk
      have hd : decide (0 < n) = true := by simpa using hn
      go_enter Tryd.func49, Tryd.ntmps49
      go_wp2_with fail
      refine hget.mono ?_
      rintro e w' ⟨rfl, rfl⟩
      clear hget
      go_wp2_with fail
      refine htg.mono ?_
      rintro e w1 ⟨v, rfl, hgot, hbe1⟩
      have hs1 := hbe1.size
      have HG := hide hgot
      clear htg hgot
      rcases HG.out with ⟨g1, g2, rfl⟩ | ⟨gn, rfl⟩
      · have HE : Hid (N = (((alwaysL ++ st.AI).getD (n - 1).toNat fnone).1, u, 0)) := by
          show N = _
          rw [HN.out, if_pos (by rw [hL] at g2; omega)]
        clear HG HN g1 g2
        generalize (alwaysL ++ st.AI).getD (n - 1).toNat fnone = f at *
        obtain ⟨fn, fv⟩ := f
        unfold fval
        go_wp2
        go_ret3
        exact ⟨nm_told HE.out (Or.inl ⟨rfl, rfl⟩), hbe1.alloc hs1 _⟩
      · have HE : Hid (N = (⟨#[]⟩, u, 5)) := by
          show N = _
          rw [HN.out, if_neg (by rw [hL] at gn; omega)]
        clear HG HN gn
        unfold fval
        go_wp2
        go_ret3
        exact ⟨nm_told HE.out (Or.inr ⟨by decide, rfl⟩), hbe1.alloc hs1 _⟩
    · have HN : Hid (nmF st.AI Z b = (strOfNums (rtF (Z.drop (getF Z b).2.1.toNat)).1, (getF Z b).2.1 + (rtF (Z.drop (getF Z b).2.1.toNat)).2.1, (rtF (Z.drop (getF Z b).2.1.toNat)).2.2)) := by
        show nmF st.AI Z b = _
        unfold nmF; rw [if_neg (by simpa using hk), if_neg hn]
      obtain ⟨u, hu⟩ := Int.eq_ofNat_of_zero_le (show 0 ≤ (getF Z b).2.1 by omega)
      have hn0 : (getF Z b).1 = 0 := by omega
      rw [hn0] at hget
      rw [hu] at hget HN hbd'
      rw [Int.toNat_natCast] at HN
      obtain ⟨o, ho, hrow⟩ := tail_row hr u (by omega)
      have hrd := hread_any (some ⟨g, o, none⟩) (len - u) (cap - u) (Z.drop u) w (Or.inr ⟨g, o, rfl, hrow⟩) (by omega)
      have b1 : (0 : Int) ≤ (u : Int) := by omega
      have b2 : (u : Int) ≤ (len : Int) := by omega
      have b3 : (u : Int) ≤ (cap : Int) := by omega
      have hrb := rtF_bd (Z.drop u)
      have hru : 0 ≤ (rtF (Z.drop u)).2.1 ∧ (rtF (Z.drop u)).2.1 ≤ len := by
        by_cases h : (rtF (Z.drop u)).2.2 = 0
        · have := hrb h
          rw [List.length_drop, hl] at this
          omega
        · have e := rtF_zero _ h
          omega
      generalize nmF st.AI Z b = N at *
      clear hT hC hF hr hbd HX hx hk hrb hn0 hn hu hrow
      go_enter Tryd.func49, Tryd.ntmps49
      go_wp2_with fail
      refine hget.mono ?_
      rintro e w' ⟨rfl, rfl⟩
      clear hget
      go_wp2_with fail
      refine hrd.mono ?_
      rintro e w1 ⟨⟨x1, rfl, hx1⟩, hbe1⟩
      have HX1 := hide hx1
      clear hrd hx1
      generalize rtF (Z.drop u) = R at *
      obtain ⟨r1, r2, r3⟩ := R
      simp only at hru HX1 HN
      go_wp2
      go_ret3
      exact ⟨nm_told HN.out HX1.out, hbe1⟩
  · have HN : Hid (nmF st.AI Z b = (⟨#[]⟩, 0, (getF Z b).2.2)) := by
      show nmF st.AI Z b = _
      unfold nmF; rw [if_pos hk]
    have hxn : x = .iface 49 (.int .i64 (getF Z b).2.2) := by
      rcases HX.out with h | h
      · exact absurd h.1 hk
      · exact h.2
    subst hxn
    generalize nmF st.AI Z b = N at *
    generalize (getF Z b).2.2 = k at *
    generalize (getF Z b).2.1 = u at *
    generalize (getF Z b).1 = n at *
    clear hT hC hF hbd HX hx hA
    go_enter Tryd.func49, Tryd.ntmps49
    go_wp2_with fail
    refine hget.mono ?_
    rintro e w' ⟨rfl, rfl⟩
    clear hget
    go_wp2
    go_ret3
    exact ⟨nm_told HN.out (Or.inr ⟨hk, rfl⟩), Below.refl _ _⟩
end Go.Proofs.YtkjfhgoddhigmacDoor
