/-
  WHAT THE TIED VARIABLES GIVE A WALK: the tables that strconv reads, and its two errors. No claim by itself.
-/
import Derived.Test.YteohgkgahkkjlaaDoorNlaid
import Derived.Test.YteohgkgahkkjlaaDoorZat
namespace Go.Proofs.YteohgkgahkkjlaaDoor
set_option maxRecDepth 100000
open Go Go.RowKit Go.ChangeShapes Go.WideShapes
theorem xlaid_of_laid {W : World} {r : List (String × DataW Unit)} (h : laidMet Tryd.prog (("math/bits.deBruijn32tab", Rows.laid_math_bits_deBruijn32tab) :: ("math/bits.deBruijn64tab", Rows.laid_math_bits_deBruijn64tab) :: ("internal/strconv.uint64pow10", Rows.laid_internal_strconv_uint64pow10) :: ("unicode/utf8.acceptRanges", Rows.laid_unicode_utf8_acceptRanges) :: ("strconv.ErrRange", Rows.laid_strconv_ErrRange) :: ("strconv.ErrSyntax", Rows.laid_strconv_ErrSyntax) :: r) W) : NLaid W ∧ erP W := by
  refine ⟨nlaid_of_laid h, ?_⟩
  obtain ⟨ps, ⟨_, _, _, _, _, _, _, _, _, _, ⟨_, _, _, _, _, _, _, _, _, _, ⟨_, _, _, _, _, _, _, _, _, _, ⟨_, _, _, _, _, _, _, _, _, _, ⟨g0, t0, cs0, f0, p0, q0, hg0, ht0, hv0, hd0, ⟨g1, t1, cs1, f1, p1, q1, hg1, ht1, hv1, hd1, _, _⟩, _⟩, _⟩, _⟩, _⟩, _⟩, _, _⟩ := h
  obtain rfl := Option.some.inj ((show Tryd.prog.globalNamed "strconv.ErrRange" = some 1 by kernel_rfl).symm.trans hg0)
  obtain rfl := Option.some.inj ((show Tryd.prog.globalNamed "strconv.ErrSyntax" = some 0 by kernel_rfl).symm.trans hg1)
  obtain rfl := Option.some.inj ((show (Tryd.prog.globals[1]?).map (·.type) = some 27 by kernel_rfl).symm.trans ht0)
  obtain rfl := Option.some.inj ((show (Tryd.prog.globals[0]?).map (·.type) = some 27 by kernel_rfl).symm.trans ht1)
  obtain ⟨_, u0, v0, e0, _, _⟩ := iface_of_trod Tryd.underlying27 hd0
  obtain ⟨_, u1, v1, e1, _, _⟩ := iface_of_trod Tryd.underlying27 hd1
  refine ⟨⟨u1, v1, ?_⟩, ⟨u0, v0, ?_⟩⟩
  · rw [World.var?_cell hg1 hv1, ← Array.getElem?_toList, e1]
    rfl
  · rw [World.var?_cell hg0 hv0, ← Array.getElem?_toList, e0]
    rfl
end Go.Proofs.YteohgkgahkkjlaaDoor
