/-
  MESSAGES AS LINES: the developers' reader: body, rest. No claim by itself.
-/
import Derived.Test.YtgjolljhjagngafDoorNdv9
import Derived.Test.YtgjolljhjagngafDoorNclone
namespace Go.Proofs.YtgjolljhjagngafDoor
open Go Go.RowKit Go.Shelf
set_option maxRecDepth 100000
theorem body_no (lb : Nat) (a : Option Addr) (len cap : Nat) (p bad n : Int) (w : World) (h : RM w lb a len cap p bad) (hb : bad ≠ 0) (hn : -4611686018427387904 ≤ n ∧ n ≤ 4611686018427387904) (hp : 0 ≤ p ∧ p ≤ 281474976710656) (hl : len ≤ ULim) :
    Calls Tryd.prog 60 #[rptr lb, .int .i64 n] w fun e w' => e = .returned (.slice none 0 0) ∧ Below w.heap.size w w' := by
  have c0 := h.c0
  have c1 := h.c1
  have c2 := h.c2
  rw [errW_ne hb] at c2
  unfold ULim at hl
  have HF : Vl (∀ m, Calls Tryd.prog 97 #[rptr lb, errW 8] (w.drewN m) fun x w' => x = .returned (.tuple #[]) ∧ (w.drewN m) = w') := fun m => nfail_no lb a len cap p bad 8 (w.drewN m) (h.kept ((n_drew w m).block _ h.lt)) hb
  have HC : Vl (∀ m, (w.drewN m).cell? ⟨lb, 2, none⟩ = some (.iface 58 (.int .i64 bad))) := fun m => by
    have := (h.kept ((n_drew w m).block _ h.lt)).c2
    rw [errW_ne hb] at this
    exact this
  rw [show errW 8 = .iface 58 (.int .i64 8) from errW_ne (by omega)] at HF
  unfold rptr at HF ⊢
  clear h
  by_cases hg : (len : Int) - p < n
  · go_enter Tryd.func60, Tryd.ntmps60
    go_wp2_with fail
    go_quiet (fail)
    go_wp2_with fail
    refine (HF.out nq).mono ?_
    rintro e w1 ⟨rfl, rfl⟩
    have d2 := HC.out nq
    go_wp2
    go_ret
    exact ⟨rfl, n_drew w nq⟩
  · have hg' : decide ((len : Int) - p < n) = false := decide_eq_false hg
    go_enter Tryd.func60, Tryd.ntmps60
    go_wp2_with fail
    go_quiet (fail)
    have d2 := HC.out nq
    go_wp2
    go_ret
    exact ⟨rfl, n_drew w nq⟩
/-- What body answers where nothing was wrong. -/
def BodyT (w0 wx w' : World) (lb : Nat) (a : Option Addr) (len cap : Nat) (Z : List Int) (q n : Nat) (e : Ending) : Prop :=
  (q + n ≤ len ∧ ∃ v, e = .returned v ∧ UOwn w' wx.heap.size v ((Z.drop q).take n) ∧ RS w0 w' lb a len cap Z (q + n) 0) ∨ (len < q + n ∧ e = .returned (.slice none 0 0) ∧ RS w0 w' lb a len cap Z q 8)
set_option maxHeartbeats 2000000 in
theorem body_go (w0 : World) (lb : Nat) (a : Option Addr) (len cap : Nat) (Z : List Int) (q n : Nat) (wx : World) (h : RS w0 wx lb a len cap Z q 0) (hnil : a = none → len = 0) (hn : n ≤ 140737488355328) :
    Calls Tryd.prog 60 #[rptr lb, .int .i64 (n : Int)] wx fun e w' => BodyT w0 wx w' lb a len cap Z q n e ∧ Tr lb wx w' := by
  have c0 := h.mem.c0
  have c1 := h.mem.c1
  have c2 := h.mem.c2
  rw [errW_0] at c2
  have hle := h.le
  have hm := h.most
  unfold ULim at hm
  have hcap := h.arg.cap
  by_cases hg : len < q + n
  · have hg' : (len : Int) - (q : Int) < (n : Int) := by omega
    have HF : Vl (∀ m, Calls Tryd.prog 97 #[rptr lb, .iface 58 (.int .i64 8)] (wx.drewN m) fun x w' => x = .returned (.tuple #[]) ∧ RS w0 w' lb a len cap Z q 8 ∧ Tr lb (wx.drewN m) w') := fun m => by simpa using fail_rs w0 lb a len cap Z q 0 8 (wx.drewN m) (h.on (n_drew wx m)) (by omega)
    unfold rptr at HF ⊢
    clear h
    go_enter Tryd.func60, Tryd.ntmps60
    go_wp2_with fail
    go_quiet (fail)
    go_wp2_with fail
    refine (HF.out nq).mono ?_
    rintro e w1 ⟨rfl, hs, ht⟩
    have d2 := hs.mem.c2
    rw [errW_ne (by omega)] at d2
    have HS := vl hs
    have HT : Vl (Tr lb wx w1) := (Tr.of (n_drew wx nq)).trans ht
    clear hs ht HF c0 c1 c2
    go_wp2
    go_ret
    exact ⟨Or.inr ⟨hg, rfl, HS.out⟩, HT.out⟩
  · have hg' : ¬ (len : Int) - (q : Int) < (n : Int) := by omega
    have hg2 : decide ((len : Int) - (q : Int) < (n : Int)) = false := decide_eq_false hg'
    have HS := vl h
    unfold rptr
    clear h
    go_enter Tryd.func60, Tryd.ntmps60
    go_wp2_with fail
    go_quiet (fail)
    have hS1 := HS.out.on (n_drew wx nq)
    have HT1 : Vl (Tr lb wx (wx.drewN nq)) := Tr.of (n_drew wx nq)
    obtain ⟨W1, hW1⟩ : ∃ W1, wx.drewN nq = W1 := ⟨_, rfl⟩
    rw [hW1] at hS1 HT1 ⊢
    clear hW1 c0 c1 c2
    have d1 := hS1.mem.c1
    have d2 := hS1.mem.c2
    rw [errW_0] at d2
    have f1 := hS1.mem.f1
    have hS2 := hS1.at (q := q + n) (by omega)
    have HT2 : Vl (Tr lb wx (W1.setCell ⟨lb, 1, none⟩ (.int .i64 ((q + n : Nat) : Int)))) := HT1.out.set
    rw [show ((q + n : Nat) : Int) = (q : Int) + n by omega] at hS2 HT2
    have HS2 := vl hS2
    have e0 := hS2.mem.c0
    have e1 := hS2.mem.c1
    rw [show ((q + n : Nat) : Int) = (q : Int) + n by omega] at e1
    clear hS1 HT1 hS2
    go_wp2_with fail
    obtain ⟨W2, hW2⟩ : ∃ W2, W1.setCell ⟨lb, 1, none⟩ (.int .i64 ((q : Int) + n)) = W2 := ⟨_, rfl⟩
    rw [hW2] at HS2 HT2 e0 e1 ⊢
    clear hW2 d1 d2 f1
    have hA2 := (HS2.out.on (Below.refl _ W2).drew).now.part q n (by omega)
    have HCL := vl (clone_arg (cutA a cap q) n (cap - q) ((Z.drop q).take n) W2.drew hA2 (fun hx => by
      unfold cutA at hx
      have : a = none := by
        split at hx
        · exact hx
        · cases a with
          | none => rfl
          | some x => cases hx
      have := hnil this
      omega) hn)
    have hct := run_cut a len cap q (q + n) (by omega) (by omega)
    rw [show q + n - q = n by omega, show ((q + n : Nat) : Int) = (q : Int) + n by omega] at hct
    have hsub : IntKind.i64.wrap ((q : Int) + (n : Int) - (n : Int)) = (q : Int) := by rw [IntKind.wrap_i64]; omega
    have hsub2 : IntKind.i64.wrap (q : Int) = (q : Int) := by rw [IntKind.wrap_i64]; omega
    have hlt : lb < W2.heap.size := HS2.out.lt
    have HZ : Vl (∀ w1, Below W2.drew.heap.size W2.drew w1 → w1.cell? ⟨lb, 0, none⟩ = some (.slice a len cap) ∧ w1.cell? ⟨lb, 1, none⟩ = some (.int .i64 ((q : Int) + n))) := fun w1 hb => ⟨(hb.cell (p := ⟨lb, 0, none⟩) hlt).trans e0, (hb.cell (p := ⟨lb, 1, none⟩) hlt).trans e1⟩
    generalize cutA a cap q = ca at *
    clear hA2
    go_region_held3 (fun w1 => w1.cell? ⟨lb, 0, none⟩ = some (.slice a len cap) ∧ w1.cell? ⟨lb, 1, none⟩ = some (.int .i64 ((q : Int) + n)))
      (first | go_keep | (exact HZ.out _ hb))
      ((go_at_call 99; refine HCL.out.mono ?_; rintro e w3 ⟨v, rfl, ho, hb⟩))
    have HS3 := vl ((HS2.out.on ((Below.refl _ W2).drew.trans hb)))
    have HT3 : Vl (Tr lb wx w3) := HT2.out.on ((Below.refl _ W2).drew.trans hb)
    have HO := vl (ho.mono (b := wx.heap.size) (HT2.out.size))
    clear HCL HZ hb ho hct e0 e1 hsub hsub2 hg2 hg'
    go_wp2
    go_ret
    exact ⟨Or.inl ⟨by omega, v, rfl, HO.out, HS3.out⟩, HT3.out⟩
end Go.Proofs.YtgjolljhjagngafDoor
