/-
  WHAT THE TIED VARIABLES GIVE A WALK: the one place of the table of package bits that is read. No claim by itself.
-/
import Derived.LaidLaws
import Derived.OpenShut
import Derived.ChangeSame
import Derived.ChangeArms
import Derived.FnData
import Derived.Lib.LaidTab
import Derived.Test.YtibipnipeaeonaaGreatDoorRows
import Derived.Test.YtibipnipeaeonaaGreatDoorMB
import Derived.Test.YtibipnipeaeonaaGreatDoorNitoaX
import Derived.Test.YtibipnipeaeonaaGreatDoorZatX
namespace Go.Proofs.YtibipnipeaeonaaGreatDoor
set_option maxRecDepth 100000
open Go.RowKit Go.ChangeShapes Go.WideShapes
theorem utake_one {l : List Value} {i : Nat} {v : Value} (h : (l.drop i).take 1 = [v]) : l[i]? = some v := by
  have h1 : ((l.drop i).take 1)[0]? = some v := by rw [h]; rfl
  simpa [List.getElem?_take, List.getElem?_drop] using h1
theorem ulaid_of_laid {W : World} {r : List (String × DataW Unit)} (h : laidMet Tryz.prog (("math/bits.deBruijn32tab", Rows.laid_math_bits_deBruijn32tab) :: ("math/bits.deBruijn64tab", Rows.laid_math_bits_deBruijn64tab) :: r) W) : ULaid W := by
  obtain ⟨ps, ⟨_, _, _, _, _, _, _, _, _, _, ⟨g0, t0, cs0, f0, p0, q0, hg0, ht0, hv0, hd0, _, _⟩, _⟩, _, _⟩ := h
  obtain rfl := Option.some.inj ((show Tryz.prog.globalNamed "math/bits.deBruijn64tab" = some 6 by kernel_rfl).symm.trans hg0)
  obtain rfl := Option.some.inj ((show (Tryz.prog.globals[6]?).map (·.type) = some 175 by kernel_rfl).symm.trans ht0)
  have c5 : Tryz.prog.cellsOf 5 = 1 := by kernel_rfl
  obtain ⟨xs, m, rfl, hx, hl, hn, hel⟩ := DataW.trod_array Tryz.underlying175 hd0
  unfold Rows.laid_math_bits_deBruijn64tab at hx
  simp only [Prod.mk.injEq, DataW.agg.injEq] at hx
  have h1 := hel 15 (by decide)
  have hlen : 15 < xs.length := by omega
  rw [List.getElem?_eq_getElem hlen, c5] at h1
  obtain ⟨n, e0, x0, _⟩ := DataW.trod_int Tryz.underlying5 h1
  have hm := congrArg (fun l => l[15]?) hx.1
  simp only [List.getElem?_map, List.getElem?_eq_getElem hlen, Option.map_some] at hm
  rw [x0] at hm
  simp at hm
  subst hm
  have j0 := utake_one e0
  unfold ULaid
  rw [World.var?_cell hg0 hv0, ← Array.getElem?_toList]
  simpa using j0
end Go.Proofs.YtibipnipeaeonaaGreatDoor
/-
  WHAT THE TIED VARIABLES GIVE A WALK: the table of powers of ten. No claim by itself.
-/
namespace Go.Proofs.YtibipnipeaeonaaGreatDoor
set_option maxRecDepth 100000
open Go Go.RowKit Go.ChangeShapes Go.WideShapes
theorem laid_ten : (Rows.laid_internal_strconv_uint64pow10 : DataW Unit) = Lib.tabData .u64 Lib.pow10Tab := by kernel_rfl
theorem nlaid_of_laid {W : World} {r : List (String × DataW Unit)} (h : laidMet Tryz.prog (("math/bits.deBruijn32tab", Rows.laid_math_bits_deBruijn32tab) :: ("math/bits.deBruijn64tab", Rows.laid_math_bits_deBruijn64tab) :: ("internal/strconv.uint64pow10", Rows.laid_internal_strconv_uint64pow10) :: r) W) : NLaid W := by
  refine ⟨ulaid_of_laid h, ?_⟩
  obtain ⟨ps, ⟨_, _, _, _, _, _, _, _, _, _, ⟨_, _, _, _, _, _, _, _, _, _, ⟨g0, t0, cs0, f0, p0, q0, hg0, ht0, hv0, hd0, _, _⟩, _⟩, _⟩, _, _⟩ := h
  obtain rfl := Option.some.inj ((show Tryz.prog.globalNamed "internal/strconv.uint64pow10" = some 4 by kernel_rfl).symm.trans hg0)
  obtain rfl := Option.some.inj ((show (Tryz.prog.globals[4]?).map (·.type) = some 166 by kernel_rfl).symm.trans ht0)
  rw [laid_ten] at hd0
  unfold Lib.TabIs
  rw [hv0, ← Lib.cells_of_tab Tryz.underlying166 Tryz.underlying140 (by kernel_rfl) (by kernel_rfl) hd0]
end Go.Proofs.YtibipnipeaeonaaGreatDoor
/-
  WHAT THE TIED VARIABLES GIVE A WALK: the tables that strconv reads, and its two errors. No claim by itself.
-/
namespace Go.Proofs.YtibipnipeaeonaaGreatDoor
set_option maxRecDepth 100000
open Go Go.RowKit Go.ChangeShapes Go.WideShapes
theorem xlaid_of_laid {W : World} {r : List (String × DataW Unit)} (h : laidMet Tryz.prog (("math/bits.deBruijn32tab", Rows.laid_math_bits_deBruijn32tab) :: ("math/bits.deBruijn64tab", Rows.laid_math_bits_deBruijn64tab) :: ("internal/strconv.uint64pow10", Rows.laid_internal_strconv_uint64pow10) :: ("unicode/utf8.acceptRanges", Rows.laid_unicode_utf8_acceptRanges) :: ("strconv.ErrRange", Rows.laid_strconv_ErrRange) :: ("strconv.ErrSyntax", Rows.laid_strconv_ErrSyntax) :: r) W) : NLaid W ∧ erP W := by
  refine ⟨nlaid_of_laid h, ?_⟩
  obtain ⟨ps, ⟨_, _, _, _, _, _, _, _, _, _, ⟨_, _, _, _, _, _, _, _, _, _, ⟨_, _, _, _, _, _, _, _, _, _, ⟨_, _, _, _, _, _, _, _, _, _, ⟨g0, t0, cs0, f0, p0, q0, hg0, ht0, hv0, hd0, ⟨g1, t1, cs1, f1, p1, q1, hg1, ht1, hv1, hd1, _, _⟩, _⟩, _⟩, _⟩, _⟩, _⟩, _, _⟩ := h
  obtain rfl := Option.some.inj ((show Tryz.prog.globalNamed "strconv.ErrRange" = some 2 by kernel_rfl).symm.trans hg0)
  obtain rfl := Option.some.inj ((show Tryz.prog.globalNamed "strconv.ErrSyntax" = some 1 by kernel_rfl).symm.trans hg1)
  obtain rfl := Option.some.inj ((show (Tryz.prog.globals[2]?).map (·.type) = some 41 by kernel_rfl).symm.trans ht0)
  obtain rfl := Option.some.inj ((show (Tryz.prog.globals[1]?).map (·.type) = some 41 by kernel_rfl).symm.trans ht1)
  obtain ⟨_, u0, v0, e0, _, _⟩ := iface_of_trod Tryz.underlying41 hd0
  obtain ⟨_, u1, v1, e1, _, _⟩ := iface_of_trod Tryz.underlying41 hd1
  refine ⟨⟨u1, v1, ?_⟩, ⟨u0, v0, ?_⟩⟩
  · rw [World.var?_cell hg1 hv1, ← Array.getElem?_toList, e1]
    rfl
  · rw [World.var?_cell hg0 hv0, ← Array.getElem?_toList, e0]
    rfl
end Go.Proofs.YtibipnipeaeonaaGreatDoor
