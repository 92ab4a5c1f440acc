/-
  THE LAST THAT CAME BACK GOES FIRST: the law PoolLast, walked. No claim by itself.
-/
import Derived.Test.YtibjbdcmhjbndaaLo12
namespace Go.Proofs.Ytibjbdcmhjbndaa
open Go Go.RowKit Go.Maps
set_option maxRecDepth 100000
def xB : ByteArray := ⟨#[120]⟩
def yB : ByteArray := ⟨#[121]⟩
def s1 : Po := ⟨8, 1, 0, 0, [⟨1, xB, true, 0, 0⟩]⟩
def s2 : Po := ⟨8, 2, 0, 0, [⟨1, xB, true, 0, 0⟩, ⟨2, xB, true, 0, 0⟩]⟩
def s3 : Po := ⟨8, 3, 0, 0, [⟨1, xB, true, 0, 0⟩, ⟨2, xB, true, 0, 0⟩, ⟨3, yB, true, 0, 0⟩]⟩
def s4 : Po := ⟨8, 3, 0, 1, [⟨1, xB, false, 0, 1⟩, ⟨2, xB, true, 0, 0⟩, ⟨3, yB, true, 0, 0⟩]⟩
def s5 : Po := ⟨8, 3, 0, 2, [⟨1, xB, false, 0, 1⟩, ⟨2, xB, false, 0, 2⟩, ⟨3, yB, true, 0, 0⟩]⟩
def s6 : Po := ⟨8, 3, 0, 2, [⟨1, xB, false, 0, 1⟩, ⟨2, xB, false, 0, 2⟩]⟩
def s7 : Po := ⟨8, 3, 0, 2, [⟨1, xB, false, 0, 1⟩, ⟨2, xB, true, 0, 2⟩]⟩
def s8 (now : Int) : Po := ⟨8, 3, now, 2, [⟨1, xB, false, 0, 1⟩, ⟨2, xB, true, 0, 2⟩]⟩
def s9 (now : Int) : Po := ⟨8, 3, now, 3, [⟨1, xB, false, 0, 1⟩, ⟨2, xB, false, now, 3⟩]⟩
theorem t1 : takeT (po0 8) xB = (1, true, 0, s1) := by rfl
theorem t2 : takeT s1 xB = (2, true, 0, s2) := by rfl
theorem t3 : takeT s2 yB = (3, true, 0, s3) := by rfl
theorem b4 : backF s3 1 true = (0, s4) := by rfl
theorem b5 : backF s4 2 true = (0, s5) := by rfl
theorem b6 : backF s5 3 false = (0, s6) := by rfl
theorem t7 : takeT s6 xB = (2, false, 0, s7) := by rfl
theorem i7 : idleTo s7.L yB = 0 := by rfl
theorem e8 {now : Int} (h : 0 ≤ now ∧ now ≤ 100000) : tickE s7 now 100000 = 0 := by
  unfold tickE
  rw [if_neg (by omega), if_neg (by show ¬ now < 0; omega)]
theorem k8 {now : Int} (h : 0 ≤ now ∧ now ≤ 100000) : tickS s7 now 100000 = s8 now := by
  have : decide (100000 < now - 0) = false := by simp; omega
  simp [tickS, s7, s8, goesB]
  omega
theorem b9 (now : Int) : backF (s8 now) 2 true = (0, s9 now) := by rfl
theorem e9 {now later old : Int} (h : 0 ≤ now ∧ now ≤ 100000) (h2 : 0 ≤ later ∧ later ≤ 100000) (h3 : 0 ≤ old ∧ old ≤ 100000) : tickE (s9 now) (now + later) old = 0 := by
  unfold tickE
  rw [if_neg (by omega), if_neg (by show ¬ now + later < now; omega)]
def wantN (now later old : Int) : Nat := (if old < now + later then 1 else 0) + (if old < later then 1 else 0)
theorem g9 (now later old : Int) : (goneL (s9 now).L (now + later) old).length = wantN now later old := by
  unfold goneL wantN
  rw [List.length_map]
  have a1 : (goesB (now + later) old ⟨1, xB, false, 0, 1⟩) = decide (old < now + later) := by simp [goesB]
  have a2 : (goesB (now + later) old ⟨2, xB, false, now, 3⟩) = decide (old < later) := by simp only [goesB, Bool.not_false, Bool.true_and]; congr 1; rw [show now + later - now = later by omega]
  simp only [s9, List.filter_cons, List.filter_nil, a1, a2]
  by_cases c1 : old < now + later <;> by_cases c2 : old < later <;> simp [c1, c2]
theorem i9 (now later old : Int) : idleTo (tickS (s9 now) (now + later) old).L xB = 2 - wantN now later old := by
  unfold idleTo wantN tickS
  have a1 : (goesB (now + later) old ⟨1, xB, false, 0, 1⟩) = decide (old < now + later) := by simp [goesB]
  have a2 : (goesB (now + later) old ⟨2, xB, false, now, 3⟩) = decide (old < later) := by simp only [goesB, Bool.not_false, Bool.true_and]; congr 1; rw [show now + later - now = later by omega]
  have i1 : isTo xB ⟨1, xB, false, 0, 1⟩ = true := by rfl
  have i2 : isTo xB ⟨2, xB, false, now, 3⟩ = true := by rfl
  simp only [s9, List.filter_cons, List.filter_nil, a1, a2]
  by_cases c1 : old < now + later <;> by_cases c2 : old < later <;> simp [c1, c2, i1, i2]
end Go.Proofs.Ytibjbdcmhjbndaa
