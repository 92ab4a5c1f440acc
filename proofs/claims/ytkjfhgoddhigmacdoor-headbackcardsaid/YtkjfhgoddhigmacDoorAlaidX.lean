/-
  WHAT THE TIED VARIABLES GIVE A WALK: the cells of table.always. No claim by itself.
-/
import Derived.Test.YtkjfhgoddhigmacDoorRows
import Derived.Test.YtkjfhgoddhigmacDoorM02
import Derived.LaidLaws
import Derived.OpenShut
import Derived.ChangeSame
import Derived.ChangeArms
import Derived.FnData
namespace Go.Proofs.YtkjfhgoddhigmacDoor
open Go.RowKit Go.ChangeShapes Go.WideShapes
theorem alw_datum : (Rows.laid_tollgate_table_always : DataW Unit) = .agg (alwaysL.map fun f => .agg [.lit (.string f.1.data.toList), .lit (.string f.2.data.toList)]) := rfl
theorem bytes_eq {a b : ByteArray} (h : a.data.toList = b.data.toList) : a = b := by
  cases a; cases b
  simp at h
  rw [h]
theorem take_one {l : List Value} {i : Nat} {v : Value} (h : (l.drop i).take 1 = [v]) : l[i]? = some v := by
  have h1 : ((l.drop i).take 1)[0]? = some v := by rw [h]; rfl
  simpa [List.getElem?_take, List.getElem?_drop] using h1
theorem alw_of_laid {W : World} (h : laidMet Tryd.prog [("tollgate/table.always", Rows.laid_tollgate_table_always)] W) : Alw W := by
  obtain ⟨ps, ⟨g0, t0, cs0, f0, p0, q0, hg0, ht0, hv0, hd0, _, _⟩, _, _⟩ := h
  obtain rfl := Option.some.inj ((show Tryd.prog.globalNamed "tollgate/table.always" = some 0 by kernel_rfl).symm.trans hg0)
  obtain rfl := Option.some.inj ((show (Tryd.prog.globals[0]?).map (·.type) = some 78 by kernel_rfl).symm.trans ht0)
  have c36 : Tryd.prog.cellsOf 33 = 2 := by kernel_rfl
  have c9 : Tryd.prog.cellsOf 9 = 1 := by kernel_rfl
  obtain ⟨xs, m, rfl, hx, hl, hn, hel⟩ := DataW.trod_array Tryd.underlying78 hd0
  rw [alw_datum] at hx
  simp only [Prod.mk.injEq, DataW.agg.injEq] at hx
  intro t ht
  have h1 := hel t ht
  have hlen : t < xs.length := by omega
  rw [List.getElem?_eq_getElem hlen, c36] at h1
  obtain ⟨y0, y1, n', hy, _, k0, k1⟩ := trod_struct2 Tryd.underlying33 h1
  obtain ⟨s0, e0, x0, _⟩ := DataW.trod_string Tryd.underlying9 k0
  obtain ⟨s1, e1, x1, _⟩ := DataW.trod_string Tryd.underlying9 k1
  have hm : (alwaysL.map fun f => (DataW.agg [.lit (.string f.1.data.toList), .lit (.string f.2.data.toList)] : DataW Unit))[t]? = some (.agg [y0.1, y1.1]) := by
    rw [hx.1, List.getElem?_map, List.getElem?_eq_getElem hlen, hy]; rfl
  rw [List.getElem?_map] at hm
  have ha : alwaysL[t]? = some (alwaysL.getD t fnone) := by
    have hh : t < alwaysL.length := by rw [always_len]; exact ht
    generalize alwaysL = L at hh
    simp [List.getD, List.getElem?_eq_getElem hh]
  rw [ha, x0, x1] at hm
  simp only [Option.map_some, Option.some.injEq, DataW.agg.injEq, List.cons.injEq, DataW.lit.injEq, Lit.string.injEq] at hm
  have q0 := bytes_eq hm.1
  have q1 := bytes_eq hm.2.1
  rw [q0, q1]
  have e0' : List.take (Tryd.prog.cellsOf 9) (List.drop 0 (List.take 2 (List.drop (t * 2) cs0.toList))) = [.string s0] := e0
  have e1' : List.take (Tryd.prog.cellsOf 9) (List.drop 1 (List.take 2 (List.drop (t * 2) cs0.toList))) = [.string s1] := e1
  rw [c9] at e0' e1'
  have j0 := take_one e0'
  have j1 := take_one e1'
  constructor
  · rw [World.var?_cell hg0 hv0, ← Array.getElem?_toList]
    simpa [List.getElem?_take, List.getElem?_drop] using j0
  · rw [World.var?_cell hg0 hv0, ← Array.getElem?_toList]
    simpa [List.getElem?_take, List.getElem?_drop] using j1
end Go.Proofs.YtkjfhgoddhigmacDoor
