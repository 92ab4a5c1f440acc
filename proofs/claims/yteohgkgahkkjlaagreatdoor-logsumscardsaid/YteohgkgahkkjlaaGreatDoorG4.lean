/-
  WHAT WAS DONE: within, isCount, isPath, check. No claim by itself.
-/
import Derived.Test.YteohgkgahkkjlaaGreatDoorG10
import Derived.Test.YteohgkgahkkjlaaGreatDoorNitoa
import Derived.Test.YteohgkgahkkjlaaGreatDoorZat
namespace Go.Proofs.YteohgkgahkkjlaaGreatDoor
open Go Go.RowKit
set_option maxRecDepth 100000
def betB (n lo hi : Int) : Bool := decide (lo ≤ n) && decide (n ≤ hi)
theorem gwithin_any (n lo hi : Int) (w : World) : Calls Tryz.prog 29 #[.int .i64 n, .int .i64 lo, .int .i64 hi] w fun e w' => e = .returned (.bool (betB n lo hi)) ∧ w = w' := by
  unfold betB
  by_cases h1 : lo ≤ n
  · by_cases h2 : n ≤ hi
    · rw [decide_eq_true h1, decide_eq_true h2]
      go_enter Tryz.func29, Tryz.ntmps29
      go_wp2_with fail
      go_ret
      exact ⟨rfl, rfl⟩
    · rw [decide_eq_true h1, decide_eq_false h2]
      go_enter Tryz.func29, Tryz.ntmps29
      go_wp2_with fail
      go_ret
      exact ⟨rfl, rfl⟩
  · rw [decide_eq_false h1]
    go_enter Tryz.func29, Tryz.ntmps29
    go_wp2_with fail
    go_ret
    exact ⟨rfl, rfl⟩
def cntB (n : Int) : Bool := betB n 0 1000000
theorem gisc_any (n : Int) (w : World) : Calls Tryz.prog 41 #[.int .i64 n] w fun e w' => e = .returned (.bool (cntB n)) ∧ w = w' := by
  have H := vl (gwithin_any n 0 1000000 w)
  unfold cntB
  generalize betB n 0 1000000 = b at *
  go_enter Tryz.func41, Tryz.ntmps41
  go_wp2_with fail
  refine H.out.mono ?_
  rintro _ _ ⟨rfl, rfl⟩
  go_wp2_with fail
  go_ret
  exact ⟨rfl, rfl⟩
theorem word_is (s : List Int) : wordL s = (!s.isEmpty && (plainL s && !hasBl s)) := by
  unfold wordL hasBl
  have : s.all (fun c => !decide (c = 32)) = !decide ((32 : Int) ∈ s) := by
    rw [Bool.eq_iff_iff]
    simp only [List.all_eq_true, Bool.not_eq_true', decide_eq_false_iff_not]
    exact ⟨fun h hm => h 32 hm rfl, fun h x hx e => h (e ▸ hx)⟩
  rw [this]
  cases s.isEmpty <;> cases plainL s <;> cases decide ((32 : Int) ∈ s) <;> rfl
theorem word_at (s : ByteArray) : wordL (unums s) = (!(s.toList == []) && (plainL (unums s) && !hasBl (unums s))) := by
  rw [word_is, un_beqlit]
  cases unums s <;> rfl
set_option maxHeartbeats 1000000 in
theorem gisp_any (s : ByteArray) (w : World) (hs : s.size ≤ 140737488351232) : Calls Tryz.prog 43 #[.string s] w fun e w' => e = .returned (.bool (wordL (unums s))) ∧ Below w.heap.size w w' := by
  have H1 := vl (nplain_any0 s w hs)
  have H2 := vl (fun W => scont_any s W)
  rw [word_at]
  by_cases q : s.toList = []
  · have q' : (s.toList == []) = true := by simpa using q
    rw [q']
    go_enter Tryz.func43, Tryz.ntmps43
    go_wp2_with fail
    go_ret
    exact ⟨rfl, Below.refl _ _⟩
  · have q' : (s.toList == []) = false := by simpa using q
    rw [q']
    generalize plainL (unums s) = b1 at *
    generalize hasBl (unums s) = b2 at *
    cases b1
    · go_enter Tryz.func43, Tryz.ntmps43
      go_wp2_with fail
      refine H1.out.mono ?_
      rintro _ w1 ⟨rfl, hb⟩
      have HB := vl hb
      clear hb
      go_wp2_with fail
      go_ret
      exact ⟨rfl, HB.out⟩
    · go_enter Tryz.func43, Tryz.ntmps43
      go_wp2_with fail
      refine H1.out.mono ?_
      rintro _ w1 ⟨rfl, hb⟩
      have HB := vl hb
      clear hb
      go_wp2_with fail
      refine (H2.out _).mono ?_
      rintro _ _ ⟨rfl, rfl⟩
      go_wp2_with fail
      go_ret
      exact ⟨rfl, HB.out⟩
/-- An entry as a value. -/
def entV (t c b k : Int) (m p : ByteArray) : Value := .agg #[.int .i64 t, .int .i64 c, .int .i64 b, .int .i64 k, .string m, .string p]
/-- What is wrong with an entry. -/
def chkE (t c b k : Int) (M P : List Int) : Int := if (cntB t && (cntB b && (cntB k && betB c 100 599))) = true then (if (tokL M && wordL P) = true then 0 else 2) else 1
/-- An entry's cells. -/
def EnC (w : World) (g : Nat) (t c b k : Int) (m p : ByteArray) : Prop := w.cell? ⟨g, 0, none⟩ = some (.int .i64 t) ∧ w.cell? ⟨g, 1, none⟩ = some (.int .i64 c) ∧ w.cell? ⟨g, 2, none⟩ = some (.int .i64 b) ∧ w.cell? ⟨g, 3, none⟩ = some (.int .i64 k) ∧ w.cell? ⟨g, 4, none⟩ = some (.string m) ∧ w.cell? ⟨g, 5, none⟩ = some (.string p)
theorem EnC.below {w w' : World} {g B : Nat} {t c b k : Int} {m p : ByteArray} (h : EnC w g t c b k m p) (hb : Below B w w') (hg : g < B) : EnC w' g t c b k m p :=
  ⟨(hb.cell (p := ⟨g, 0, none⟩) hg).trans h.1, (hb.cell (p := ⟨g, 1, none⟩) hg).trans h.2.1, (hb.cell (p := ⟨g, 2, none⟩) hg).trans h.2.2.1, (hb.cell (p := ⟨g, 3, none⟩) hg).trans h.2.2.2.1, (hb.cell (p := ⟨g, 4, none⟩) hg).trans h.2.2.2.2.1, (hb.cell (p := ⟨g, 5, none⟩) hg).trans h.2.2.2.2.2⟩
theorem enc_new (w : World) (t c b k : Int) (m p : ByteArray) (T : TypeId) : EnC (w.alloc (.cells #[.int .i64 t, .int .i64 c, .int .i64 b, .int .i64 k, .string m, .string p] T)) w.heap.size t c b k m p := by
  have h := heap_alloc_new w (.cells #[.int .i64 t, .int .i64 c, .int .i64 b, .int .i64 k, .string m, .string p] T)
  unfold EnC
  simp only [World.cell?, h]
  exact ⟨rfl, rfl, rfl, rfl, rfl, rfl⟩
set_option maxHeartbeats 4000000 in
theorem gchk_any (t c b k : Int) (m p : ByteArray) (w : World) (hm : m.size ≤ 140737488351232) (hp : p.size ≤ 140737488351232) :
    Calls Tryz.prog 19 #[entV t c b k m p] w fun e w' => e = .returned (errW (chkE t c b k (unums m) (unums p))) ∧ Below w.heap.size w w' := by
  unfold entV
  obtain ⟨W1, hW1⟩ : ∃ W1, W1 = w.alloc (.cells #[.int .i64 t, .int .i64 c, .int .i64 b, .int .i64 k, .string m, .string p] 23) := ⟨_, rfl⟩
  have HB1 : Vl (Below w.heap.size w W1) := by rw [hW1]; exact (Below.refl _ w).alloc (Nat.le_refl _) _
  have HBX : Vl (EnC W1 w.heap.size t c b k m p) := by rw [hW1]; exact enc_new w t c b k m p _
  have hsz : w.heap.size < W1.heap.size := by rw [hW1]; simp
  obtain ⟨d0, d1, d2, d3, d4, d5⟩ := HBX.out
  have H1 := vl (gisc_any t W1)
  have H2 := vl (gisc_any b W1)
  have H3 := vl (gisc_any k W1)
  have H4 := vl (gwithin_any c 100 599 W1)
  have H5 := vl (ntoken_any m W1 hm)
  have H6 := vl (fun W => gisp_any p W hp)
  have HE : Vl (chkE t c b k (unums m) (unums p) = if (cntB t && (cntB b && (cntB k && betB c 100 599))) = true then (if (tokL (unums m) && wordL (unums p)) = true then 0 else 2) else 1) := rfl
  rw [HE.out]
  clear HE
  generalize cntB t = x1 at *
  generalize cntB b = x2 at *
  generalize cntB k = x3 at *
  generalize betB c 100 599 = x4 at *
  generalize tokL (unums m) = x5 at *
  generalize wordL (unums p) = x6 at *
  have K2 : ∀ w2, Below W1.heap.size W1 w2 → Below w.heap.size w w2 := fun w2 hb => HB1.out.trans (hb.mono HB1.out.size)
  have K5 : ∀ w2, Below W1.heap.size W1 w2 → w2.cell? ⟨w.heap.size, 5, none⟩ = some (.string p) := fun w2 hb => (hb.cell (p := ⟨w.heap.size, 5, none⟩) hsz).trans d5
  have HK2 := vl K2
  have HK5 := vl K5
  clear K2 K5 hsz hm hp HBX
  cases x1 <;> cases x2 <;> cases x3 <;> cases x4
  case true.true.true.true =>
    cases x5
    · go_enter Tryz.func19, Tryz.ntmps19
      go_wp2_with fail
      rw [← hW1]
      clear hW1
      refine H1.out.mono ?_
      rintro _ _ ⟨rfl, rfl⟩
      go_wp2_with fail
      refine H2.out.mono ?_
      rintro _ _ ⟨rfl, rfl⟩
      go_wp2_with fail
      refine H3.out.mono ?_
      rintro _ _ ⟨rfl, rfl⟩
      go_wp2_with fail
      refine H4.out.mono ?_
      rintro _ _ ⟨rfl, rfl⟩
      go_wp2_with fail
      refine H5.out.mono ?_
      rintro _ w2 ⟨rfl, hb⟩
      have HB2 := vl (HK2.out w2 hb)
      clear hb HK5
      go_wp2_with fail
      go_ret
      exact ⟨rfl, HB2.out⟩
    · go_enter Tryz.func19, Tryz.ntmps19
      go_wp2_with fail
      rw [← hW1]
      clear hW1
      refine H1.out.mono ?_
      rintro _ _ ⟨rfl, rfl⟩
      go_wp2_with fail
      refine H2.out.mono ?_
      rintro _ _ ⟨rfl, rfl⟩
      go_wp2_with fail
      refine H3.out.mono ?_
      rintro _ _ ⟨rfl, rfl⟩
      go_wp2_with fail
      refine H4.out.mono ?_
      rintro _ _ ⟨rfl, rfl⟩
      go_wp2_with fail
      refine H5.out.mono ?_
      rintro _ w2 ⟨rfl, hb⟩
      have HB2 := vl (HK2.out w2 hb)
      have e5 := HK5.out w2 hb
      clear hb HK5 d0 d1 d2 d3 d4 d5
      go_wp2_with fail
      refine (H6.out _).mono ?_
      rintro _ w3 ⟨rfl, hb3⟩
      have HB3 : Vl (Below w.heap.size w w3) := vl (HB2.out.trans (hb3.mono HB2.out.size))
      clear hb3 e5
      cases x6
      · go_wp2_with fail
        go_ret
        exact ⟨rfl, HB3.out⟩
      · go_wp2_with fail
        go_ret
        exact ⟨rfl, HB3.out⟩
  all_goals
    clear H5 H6 HK2 HK5
    go_enter Tryz.func19, Tryz.ntmps19
    go_wp2_with fail
    rw [← hW1]
    clear hW1
    refine H1.out.mono ?_
    rintro _ _ ⟨rfl, rfl⟩
    go_wp2_with fail
    repeat ((first | refine H2.out.mono ?_ | refine H3.out.mono ?_ | refine H4.out.mono ?_); rintro _ _ ⟨rfl, rfl⟩; go_wp2_with fail)
    go_ret
    exact ⟨rfl, HB1.out⟩
end Go.Proofs.YteohgkgahkkjlaaGreatDoor
