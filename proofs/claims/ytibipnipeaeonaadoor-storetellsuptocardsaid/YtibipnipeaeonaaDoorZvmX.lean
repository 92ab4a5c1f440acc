/-
  WHAT DIFFERS IS KEPT APART: the mathematics. No claim by itself.
-/
import Derived.Test.YtibipnipeaeonaaDoorZyh2X
namespace Go.Proofs.YtibipnipeaeonaaDoor
open Go Go.RowKit
def typeN : List Int := [116, 121, 112, 101]
def vrFL : List FB := [(⟨#[99, 97, 99, 104, 101]⟩, ⟨#[109, 97, 120, 45, 57]⟩), (⟨#[118, 97, 114, 121]⟩, ⟨#[116, 121, 112, 101]⟩)]
theorem vr_fds : fdsOf vrFL = [(cacheN, [109, 97, 120, 45, 57]), (varyN, typeN)] := by decide +kernel
theorem vr_vary : fstV (fdsOf vrFL) varyN = typeN := by rw [vr_fds]; decide +kernel
theorem vr_cache : fstV (fdsOf vrFL) cacheN = [109, 97, 120, 45, 57] := by rw [vr_fds]; decide +kernel
theorem vr_names : namesL (fdsOf vrFL) = [typeN] := by
  unfold namesL
  rw [vr_vary]
  decide +kernel
theorem vr_life : lifeR (fdsOf vrFL) = 9 := by
  unfold lifeR
  rw [vr_cache]
  exact life_yes (k := 9) (by omega) (by decide +kernel)
theorem vr_fits {a b n : ByteArray} : Sby nmK ([(n, a)] : List FB) [(n, b)] ↔ a = b := by
  constructor
  · intro h
    have := h (nmK (n, a))
    have e : nmK (n, a) = nmK (n, b) := rfl
    simp [List.filter] at this
    rw [e] at this
    simpa using this
  · rintro rfl; exact Sby.refl _
theorem vr_one {n x a o : ByteArray} (hn : unums n = typeN) (hx : unums x ≠ typeN) : [(n, a), (x, o)].filter (inVary (namesL (fdsOf vrFL))) = [(n, a)] ∧ [(n, a)].filter (inVary (namesL (fdsOf vrFL))) = [(n, a)] := by
  rw [vr_names]
  have h1 : ∀ a : ByteArray, inVary [typeN] (n, a) = true := fun a => by unfold inVary nmK; simp [hn]
  have h2 : inVary [typeN] (x, o) = false := by unfold inVary nmK; simp [List.count_cons]; exact fun e => hx e.symm
  exact ⟨by simp [List.filter, h1, h2], by simp [List.filter, h1]⟩
end Go.Proofs.YtibipnipeaeonaaDoor
