/-
  CONNECTIONS TO PLACES: the Go function Busy of package pool. No claim by itself.
-/
import Derived.Test.YtibjbdcmhjbndaaDoorLo2
namespace Go.Proofs.YtibjbdcmhjbndaaDoor
open Go.RowKit Go.Maps
set_option maxRecDepth 100000
theorem obusy_any {w : World} {pb bb ib : Nat} {DB DI : Dat} {S : Po} (h : PoM w pb bb ib DB DI S) : Calls Tryd.prog 14 #[pptr pb] w fun e w' => e = .returned (.int .i64 (nB S.L : Nat)) ∧ w = w' := by
  obtain ⟨c0, c1, c2, c3, c4, c5, _⟩ := h.cells
  have hz := h.relB.size
  have hsz : nB S.L ≤ S.L.length := by unfold nB busyL; exact List.length_filter_le _ _
  have HO := vl h.ownB
  clear h c0 c1 c2 c3 c5
  unfold pptr
  go_enter Tryd.func14, Tryd.ntmps14
  go_wp2_with (first | (at_len; refine wpList_len_own _ rfl _ 54 rfl 3 65 Tryd.underlying54 _ bb (nB S.L) DB rfl HO.out ?_) | go_in)
  go_ret
  exact ⟨rfl, rfl⟩
end Go.Proofs.YtibjbdcmhjbndaaDoor
