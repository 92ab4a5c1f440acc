/-
  CONTRACT of the Go function chunk.appendPiece. No claim by itself.
-/
import Derived.Test.YtglmppadhlkkgagGreatDoorUd1X
namespace Go.Proofs.YtglmppadhlkkgagGreatDoor
open Go Go.RowKit
set_option maxRecDepth 100000
theorem ne_of_len {M : List Int} (h : 1 ≤ M.length) (e : M = []) : False := by rw [e] at h; simp at h
set_option maxHeartbeats 2000000 in
theorem uappp_any (w0 : World) (base : Nat) (v : Value) (L : List Int) (a : Option Addr) (len cap : Nat) (B : List Int) (w : World) (hu : ULaid w0) (hA : Arg w0 a len cap B) (hnil : a = none → cap = 0) (hw0 : w0.heap.size ≤ base) (hbel : Below w0.heap.size w0 w) (ho : UOwn w base v L) (hne : L = [] → v.ownBlock = none) (hlen : len ≤ 8000) (hL : L.length ≤ 100000) (hb : base ≤ w.heap.size) :
    Calls Tryz.prog 180 #[v, .slice a len cap] w fun e w' => ∃ v', e = .returned v' ∧ UOwn w' base v' (L ++ piece B) ∧ Below base w w' ∧ KeepsOthers w w' := by
  have HL := hA.len
  have H := vl (sappi_16 base v L len w (hu.below hbel) ho hne (by omega) (by omega) hb)
  have HA := vl hA
  have HN := vl hnil
  have HBL := vl hbel
  clear hu hA hnil hbel ho hne
  have h0 := hexL_pos len
  have h4 := hexL_four (show len < 65536 by omega)
  go_enter Tryz.func180, Tryz.ntmps180
  go_wp2_with fail
  refine H.out.mono ?_
  rintro e w1 ⟨v1, rfl, ho1, hb1, hk1⟩
  have HK1 := vl hk1
  have HO1 := vl ho1
  have HB1 := vl hb1
  have hs1 : base ≤ w1.heap.size := Nat.le_trans hb hb1.size
  clear H ho1 hb1 hk1
  go_wp2_with (at_builtin; refine wpList_uapps _ rfl _ _ rfl base _ _ rfl HO1.out _ rfl [13, 10] rfl (by simp; omega) hs1 ?_)
  intro v2 w2 ho2 hg2
  have HO2 := vl ho2
  have HB2 := vl (u_below_grown HB1.out hg2 hs1 (fun k hk => (HO1.out.base k hk).1))
  have hs2 : base ≤ w2.heap.size := Nat.le_trans hb HB2.out.size
  have HA2 := vl (HA.out.below (HBL.out.trans (HB2.out.mono hw0)))
  have HK2 := vl (HK1.out.trans (HO1.out.others (fun e => (ne_of_len (by simp; omega) e).elim) hg2))
  clear ho2 hg2 HO1 HB1 HK1
  go_wp2_with (at_builtin; refine wpList_uapp _ rfl _ _ rfl base _ _ rfl HO2.out a len cap B rfl HA2.out HN.out (by simp; omega) hs2 ?_)
  intro v3 w3 ho3 hg3
  have HO3 := vl ho3
  have HB3 := vl (u_below_grown HB2.out hg3 hs2 (fun k hk => (HO2.out.base k hk).1))
  have hs3 : base ≤ w3.heap.size := Nat.le_trans hb HB3.out.size
  have HK3 := vl (HK2.out.trans (HO2.out.others (fun e => (ne_of_len (by simp; omega) e).elim) hg3))
  clear ho3 hg3 HO2 HB2 HA2 HK2
  go_wp2_with (at_builtin; refine wpList_uapps _ rfl _ _ rfl base _ _ rfl HO3.out _ rfl [13, 10] rfl (by simp; omega) hs3 ?_)
  intro v4 w4 ho4 hg4
  have HO4 := vl ho4
  have HB4 := vl (u_below_grown HB3.out hg4 hs3 (fun k hk => (HO3.out.base k hk).1))
  have HK4 := vl (HK3.out.trans (HO3.out.others (fun e => (ne_of_len (by simp; omega) e).elim) hg4))
  clear ho4 hg4 HO3 HB3 HK3
  go_wp2
  go_ret
  refine ⟨_, rfl, ?_, HB4.out, HK4.out⟩
  have := HO4.out
  unfold piece
  rw [HL]
  simpa using this
end Go.Proofs.YtglmppadhlkkgagGreatDoor
