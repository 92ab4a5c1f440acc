/-
  CONTRACT of the Go function frame.Check at a head's frames. No claim by itself.
-/
import Derived.Test.YtdlaaollamgplacDoorSfr
namespace Go.Proofs.YtdlaaollamgplacDoor
open Go.RowKit
set_option maxRecDepth 100000
set_option maxHeartbeats 4000000 in
theorem wstream_12 (k fl : Int) (a : Option Addr) (len cap : Nat) (w : World) (hk : k = 1 ∨ k = 2) :
    Calls Tryd.prog 43 #[.agg #[.int .i64 k, .int .i64 fl, .int .i64 3, .slice a len cap]] w fun e w' => e = .returned (.bool false) ∧ Below w.heap.size w w' := by
  have HW := hide (show Below w.heap.size w (w.alloc (.cells #[.int .i64 k, .int .i64 fl, .int .i64 3, .slice a len cap] 43)) from (Below.refl _ _).alloc (Nat.le_refl _) _)
  rcases hk with rfl | rfl
  · go_enter Tryd.func43, Tryd.ntmps43
    go_wp2
    go_ret
    exact ⟨rfl, HW.out⟩
  · go_enter Tryd.func43, Tryd.ntmps43
    go_wp2
    go_ret
    exact ⟨rfl, HW.out⟩
set_option maxHeartbeats 4000000 in
theorem wsize_12 (k fl : Int) (a : Option Addr) (len cap : Nat) (w : World) (hk : k = 1 ∨ k = 2) :
    Calls Tryd.prog 44 #[.agg #[.int .i64 k, .int .i64 fl, .int .i64 3, .slice a len cap]] w fun e w' => e = .returned (.bool false) ∧ Below w.heap.size w w' := by
  have HW := hide (show Below w.heap.size w (w.alloc (.cells #[.int .i64 k, .int .i64 fl, .int .i64 3, .slice a len cap] 43)) from (Below.refl _ _).alloc (Nat.le_refl _) _)
  rcases hk with rfl | rfl
  · go_enter Tryd.func44, Tryd.ntmps44
    go_wp2
    go_ret
    exact ⟨rfl, HW.out⟩
  · go_enter Tryd.func44, Tryd.ntmps44
    go_wp2
    go_ret
    exact ⟨rfl, HW.out⟩
set_option maxHeartbeats 4000000 in
/-- Nothing is wrong with a head's frame of stream 3. -/
theorem check_12 (k fl : Int) (a : Option Addr) (len cap : Nat) (w : World) (hk : k = 1 ∨ k = 2) :
    Calls Tryd.prog 20 #[.agg #[.int .i64 k, .int .i64 fl, .int .i64 3, .slice a len cap]] w fun e w' => e = .returned (.int .i64 0) ∧ Below w.heap.size w w' := by
  obtain ⟨w0, hw0⟩ : ∃ w0, w0 = w.alloc (.cells #[.int .i64 k, .int .i64 fl, .int .i64 3, .slice a len cap] 43) := ⟨_, rfl⟩
  have hb0 : Below w.heap.size w w0 := by rw [hw0]; exact (Below.refl _ _).alloc (Nat.le_refl _) _
  have hsz0 : w.heap.size + 1 ≤ w0.heap.size := by rw [hw0]; simp
  have hx : w0.heap[w.heap.size]? = some (.cells #[.int .i64 k, .int .i64 fl, .int .i64 3, .slice a len cap] 43 (0, 0)) := by rw [hw0]; exact Array.getElem?_push_size
  have HX : Hid (∀ wx i u, Below w0.heap.size w0 wx → (#[Value.int .i64 k, .int .i64 fl, .int .i64 3, .slice a len cap] : Array Value)[i]? = some u → wx.cell? ⟨w.heap.size, i, none⟩ = some u) := fun wx i u hb hu => by
    rw [hb.cell (p := ⟨w.heap.size, i, none⟩) (by show w.heap.size < _; omega), cell_of_row w0 w.heap.size i _ _ _ hx]; exact hu
  have B0 := hide hb0
  have HW0 := hide hw0
  have n4 : ¬ (k = 4) := by omega
  have n7 : ¬ (k = 7) := by omega
  have HS := hide (wstream_12 k fl a len cap w0 hk)
  have HK := hide hk
  clear hb0 hx hw0 hk
  go_enter Tryd.func20, Tryd.ntmps20
  go_wp2_with fail
  rw [← HW0.out]
  refine HS.out.mono ?_
  rintro e w1 ⟨rfl, hb1⟩
  have s1 := hb1.size
  have c0 := HX.out w1 0 _ hb1 rfl
  have c1 := HX.out w1 1 _ hb1 rfl
  have c2 := HX.out w1 2 _ hb1 rfl
  have c3 := HX.out w1 3 _ hb1 rfl
  have B1 := hide hb1
  have HZ := hide (wsize_12 k fl a len cap w1 HK.out)
  clear hb1 HS
  go_wp2_with fail
  refine HZ.out.mono ?_
  rintro e w2 ⟨rfl, hb2⟩
  have s2 := hb2.size
  have hb02 : Below w0.heap.size w0 w2 := B1.out.trans (hb2.mono (by omega))
  have d0 := HX.out w2 0 _ hb02 rfl
  have B2 := hide (B0.out.trans (hb02.mono (by omega)))
  clear hb2 hb02 c0 c1 c2 c3 HZ
  go_wp2
  go_ret
  exact ⟨rfl, B2.out⟩
end Go.Proofs.YtdlaaollamgplacDoor
