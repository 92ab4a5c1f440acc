/-
  CONTRACT of the method readNumber of head.Coder. No claim by itself.
-/
import Derived.Test.YtkjfhgoddhigmacDoorDcod7
namespace Go.Proofs.YtkjfhgoddhigmacDoor
open Go.RowKit
set_option maxRecDepth 100000
/-- What is known of a box for a field's two texts, and of stores into it. -/
theorem box_rules {w : World} {B : Nat} {n v : Value} (h : w.heap[B]? = some (.cells #[n, v] 33 (0, 0))) :
    (w.cell? ⟨B, 0, none⟩ = some n ∧ w.cell? ⟨B, 1, none⟩ = some v ∧ w.frozen? ⟨B, 0, none⟩ = false ∧ w.frozen? ⟨B, 1, none⟩ = false) ∧
    (∀ a, (w.setCell ⟨B, 0, none⟩ a).cell? ⟨B, 0, none⟩ = some a ∧ (w.setCell ⟨B, 0, none⟩ a).cell? ⟨B, 1, none⟩ = some v) ∧
    ∀ a b, ((w.setCell ⟨B, 0, none⟩ a).setCell ⟨B, 1, none⟩ b).heap[B]? = some (.cells #[a, b] 33 (0, 0)) := by
  have h1 : ∀ a, (w.setCell ⟨B, 0, none⟩ a).heap[B]? = some (.cells #[a, v] 33 (0, 0)) := fun a => by rw [heap_set h]; rfl
  refine ⟨⟨(cell_at h 0).trans rfl, (cell_at h 1).trans rfl, frozen_at h 0, frozen_at h 1⟩, fun a => ⟨(cell_at (h1 a) 0).trans rfl, (cell_at (h1 a) 1).trans rfl⟩, fun a b => by rw [heap_set (h1 a)]; rfl⟩
theorem box_at {w : World} {B : Nat} {n v : Value} (h : w.heap[B]? = some (.cells #[n, v] 33 (0, 0))) : w.cell? ⟨B, 0, none⟩ = some n ∧ w.cell? ⟨B, 1, none⟩ = some v := ⟨(cell_at h 0).trans rfl, (cell_at h 1).trans rfl⟩
/-- Get of bytes that are handed in. -/
theorem get_arg (a : Option Addr) (len cap : Nat) (Z : List Int) (b : Int) (w : World) (hA : Arg w a len cap Z) (h1 : 1 ≤ b) (h2 : b ≤ 8) : ∃ x, Err (getF Z b).2.2 x ∧
    Calls Tryd.prog 36 #[.slice a len cap, .int .i64 b] w fun e w' => e = .returned (.tuple #[.int .i64 (getF Z b).1, .int .i64 (getF Z b).2.1, x]) ∧ w = w' := by
  obtain ⟨n, u, k, hg⟩ : ∃ n u k, getF Z b = (n, u, k) := ⟨_, _, _, rfl⟩
  obtain ⟨x, hx⟩ : ∃ x, Err k x := by
    by_cases hk : k = 0
    · exact ⟨_, Or.inl ⟨hk, rfl⟩⟩
    · exact ⟨_, Or.inr ⟨hk, rfl⟩⟩
  rw [hg]
  refine ⟨x, hx, ?_⟩
  have key : Calls Tryd.prog 36 #[.slice a len cap, .int .i64 b] w fun e w' => (∃ n u x, e = .returned (.tuple #[.int .i64 n, .int .i64 u, x]) ∧ Told3 (getF Z b) n u x) ∧ w = w' := by
    rcases hA with ⟨rfl, rfl⟩ | ⟨g, off, rfl, hr⟩
    · exact get_nil a cap b w h1 h2
    · exact get_row g off len cap Z b w hr
  refine key.mono ?_
  rintro e w' ⟨⟨n', u', x', rfl, hg'⟩, rfl⟩
  rw [hg] at hg'
  rcases hg' with ⟨h, rfl⟩ | ⟨k', hk', h, rfl⟩
  · cases h
    rcases hx with ⟨_, rfl⟩ | ⟨h, _⟩
    · exact ⟨rfl, rfl⟩
    · exact absurd rfl h
  · cases h
    rcases hx with ⟨h, _⟩ | ⟨_, rfl⟩
    · exact absurd h hk'
    · exact ⟨rfl, rfl⟩
/-- What reading a field gives. -/
def FldTold (t : (ByteArray × ByteArray) × Int × Int) (e : Ending) : Prop := ∃ x, e = .returned (.tuple #[.agg #[.string t.1.1, .string t.1.2], .int .i64 t.2.1, x]) ∧ Err t.2.2 x
theorem fld_told {t : (ByteArray × ByteArray) × Int × Int} {n v : ByteArray} {u k : Int} {x : Value} (h : t = ((n, v), u, k)) (hx : Err k x) : FldTold t (.returned (.tuple #[.agg #[.string n, .string v], .int .i64 u, x])) := ⟨x, by rw [h], by rw [h]; exact hx⟩
/-- A coder that may read: its table. -/
theorem HCod.inn {w : World} {cb : Nat} {st : CSt} {S : Nat → Prop} (h : HCod w cb st S) (hb : st.bad = false) : ∃ ti SI, w.cell? ⟨cb, 3, none⟩ = some (.pointer (some ⟨ti, 0, none⟩)) ∧ TabP w ti st.mi st.AI SI ∧ (∀ k, SI k → S k ∧ k ≠ cb) := by
  obtain ⟨to, SO, vi, hh, _, _, h1 | ⟨_, ti, SI, rfl, hT, hd⟩⟩ := h.cells
  · rw [hb] at h1; exact absurd h1.1 (by decide)
  · exact ⟨ti, SI, (cell_at hh 3).trans rfl, hT, fun k hk => ⟨(hd k hk).1, (hd k hk).2.1⟩⟩
set_option maxHeartbeats 4000000 in
theorem hnum_any (cb : Nat) (st : CSt) (S : Nat → Prop) (a : Option Addr) (len cap : Nat) (Z : List Int) (w : World) (hC : HCod w cb st S) (hF : HFit st) (hbad : st.bad = false) (hA : Arg w a len cap Z) :
    Calls Tryd.prog 37 #[.pointer (some ⟨cb, 0, none⟩), .slice a len cap] w fun e w' => FldTold (numF st.AI Z) e ∧ Below w.heap.size w w' := by
  obtain ⟨w0, hw0⟩ : ∃ w0, w0 = w.alloc (.cells #[.string ⟨#[]⟩, .string ⟨#[]⟩] 33) := ⟨_, rfl⟩
  have hb0 : Below w.heap.size w w0 := by rw [hw0]; exact (Below.refl _ _).alloc (Nat.le_refl _) _
  have hsz0 : w.heap.size + 1 ≤ w0.heap.size := by rw [hw0]; simp
  have hbx : w0.heap[w.heap.size]? = some (.cells #[.string ⟨#[]⟩, .string ⟨#[]⟩] 33 (0, 0)) := by rw [hw0]; exact Array.getElem?_push_size
  have hcl := hC.hlt cb hC.hcb
  obtain ⟨ti, SI, c3, hT, hS⟩ := (hC.below hb0).inn hbad
  obtain ⟨x, hx, hget⟩ := get_arg a len cap Z 7 w0 (hA.below hb0) (by decide) (by decide)
  have HN : Hid (numF st.AI Z = if (getF Z 7).2.2 ≠ 0 then (fnone, 0, (getF Z 7).2.2) else if 1 ≤ (getF Z 7).1 ∧ (getF Z 7).1 ≤ ((12 + st.AI.length : Nat) : Int) then ((alwaysL ++ st.AI).getD ((getF Z 7).1 - 1).toNat fnone, (getF Z 7).2.1, 0) else (fnone, 0, 5)) := rfl
  generalize numF st.AI Z = N at *
  generalize (getF Z 7).2.2 = k at *
  generalize (getF Z 7).2.1 = u at *
  generalize (getF Z 7).1 = n at *
  have htg := tget ti st.mi st.AI SI n w0 hT hF.inn
  have hL : (alwaysL ++ st.AI).length = 12 + st.AI.length := by rw [List.length_append, always_len]
  have HX := hide hx
  have HBX := hide hbx
  clear hx hT hC hF hA
  by_cases hk : k = 0
  · subst hk
    have hxn : x = .nilIface := by
      rcases HX.out with h | h
      · exact h.2
      · exact absurd rfl h.1
    subst hxn
    clear hbx
    go_enter Tryd.func37, Tryd.ntmps37
    go_wp2_with fail
    rw [← hw0]
    clear hw0
    refine hget.mono ?_
    rintro e w' ⟨rfl, rfl⟩
    clear hget
    go_wp2_with fail
    refine htg.mono ?_
    rintro e w1 ⟨v, rfl, hgot, hb1⟩
    have hB1 := hb0.trans (hb1.mono (by omega))
    have h1x : w1.heap[w.heap.size]? = some (.cells #[.string ⟨#[]⟩, .string ⟨#[]⟩] 33 (0, 0)) := (hb1.block _ (by omega)).trans HBX.out
    obtain ⟨⟨q0, q1, f0, f1⟩, qa, qb⟩ := box_rules h1x
    have qa0 := fun a => (qa a).1
    have qa1 := fun a => (qa a).2
    have qc := fun a b => (box_at (qb a b)).1
    have qd := fun a b => (box_at (qb a b)).2
    have qbr := fun a b => box_rules (qb a b)
    have qe := fun a b c => ((qbr a b).2.1 c).1
    have qf := fun a b c => ((qbr a b).2.1 c).2
    have qg := fun a b c d => (box_at ((qbr a b).2.2 c d)).1
    have qh := fun a b c d => (box_at ((qbr a b).2.2 c d)).2
    have HG := hide hgot
    clear htg hgot qa qb qbr h1x
    rcases HG.out with ⟨g1, g2, rfl⟩ | ⟨gn, rfl⟩
    · have HE : Hid (N = ((alwaysL ++ st.AI).getD (n - 1).toNat fnone, u, 0)) := by
        show N = _
        rw [HN.out, if_neg (by simp), if_pos (by rw [hL] at g2; omega)]
      clear HG HN g1 g2
      generalize (alwaysL ++ st.AI).getD (n - 1).toNat fnone = f at *
      obtain ⟨fn, fv⟩ := f
      unfold fval
      go_wp2
      (try simp only [Exit.inBlock, Exit.then])
      refine bodyPost_ret (by simp [results, Tryd.results37, go_sem, qg, qh]; try rfl) rfl ?_
      refine ⟨fld_told HE.out (Or.inl ⟨rfl, rfl⟩), ?_⟩
      repeat (first | exact hB1 | refine Below.setCell ?_ (by simp) _)
    · have HE : Hid (N = ((⟨#[]⟩, ⟨#[]⟩), 0, 5)) := by
        show N = _
        rw [HN.out, if_neg (by simp), if_neg (by rw [hL] at gn; exact gn)]; rfl
      clear HG HN gn
      unfold fval
      go_wp2
      (try simp only [Exit.inBlock, Exit.then])
      refine bodyPost_ret (by simp [results, Tryd.results37, go_sem, qg, qh]; try rfl) rfl ?_
      refine ⟨fld_told HE.out (Or.inr ⟨by decide, rfl⟩), ?_⟩
      repeat (first | exact hB1 | refine Below.setCell ?_ (by simp) _)
  · have HE : Hid (N = ((⟨#[]⟩, ⟨#[]⟩), 0, k)) := by
      show N = _
      rw [HN.out, if_pos hk]; rfl
    have hxn : x = .iface 49 (.int .i64 k) := by
      rcases HX.out with h | h
      · exact absurd h.1 hk
      · exact h.2
    subst hxn
    obtain ⟨⟨q0, q1, f0, f1⟩, qa, qb⟩ := box_rules hbx
    have qa0 := fun a => (qa a).1
    have qa1 := fun a => (qa a).2
    have qc := fun a b => (box_at (qb a b)).1
    have qd := fun a b => (box_at (qb a b)).2
    clear htg HN hbx qa qb
    go_enter Tryd.func37, Tryd.ntmps37
    go_wp2_with fail
    rw [← hw0]
    clear hw0
    refine hget.mono ?_
    rintro e w' ⟨rfl, rfl⟩
    clear hget
    go_wp2
    (try simp only [Exit.inBlock, Exit.then])
    refine bodyPost_ret (by simp [results, Tryd.results37, go_sem, qc, qd]; try rfl) rfl ?_
    refine ⟨fld_told HE.out (Or.inr ⟨hk, rfl⟩), ?_⟩
    repeat (first | exact hb0 | refine Below.setCell ?_ (by simp) _)
end Go.Proofs.YtkjfhgoddhigmacDoor
