/-
  From what the rows list (three tables) to what the contracts ask.
-/
import Derived.PinnedBridge
import Derived.Lib.LaidU8
import Derived.ProofKit
import Derived.OpenShut
import Derived.Test.YtmldgfplnacecaaDoorRows
import Derived.Test.YtmldgfplnacecaaDoorCol
namespace Go.Proofs.YtmldgfplnacecaaDoor
open Go.ChangeShapes Go.WideShapes Go.ChangeAt Go.RowKit Go.Shelf
open Go.Lib

theorem own : ownKnob Tryd.prog.godebug = none := by kernel_rfl
theorem laidOut : laidOutB Tryd.prog = true := by kernel_rfl
theorem cells5 : Tryd.prog.cellsOf 5 = 1 := by kernel_rfl
theorem cells37 : Tryd.prog.cellsOf 37 = 1 := by kernel_rfl
def laid3 : List (String × DataW Unit) := [("math/bits.deBruijn32tab", Rows.laid_math_bits_deBruijn32tab), ("math/bits.deBruijn64tab", Rows.laid_math_bits_deBruijn64tab), ("internal/strconv.uint64pow10", Rows.laid_internal_strconv_uint64pow10)]
theorem pow_eq : (Rows.laid_internal_strconv_uint64pow10 : DataW Unit) = tabData .u64 Lib.pow10Tab := by kernel_rfl
theorem cells167 : Tryd.prog.cellsOf 167 = 20 := by kernel_rfl
theorem yPow : (Tryd.prog.globals[1]?).map (·.type) = some 167 := by kernel_rfl
theorem pw_of_reads {w : World} (h : VarReads Tryd.prog w "internal/strconv.uint64pow10" Rows.laid_internal_strconv_uint64pow10) : PW w := by
  rw [pow_eq] at h
  obtain ⟨g, t, cs, fuel, p, hg, hty, hvar, hd⟩ := h
  obtain rfl := Option.some.inj (gPow.symm.trans hg)
  obtain rfl := Option.some.inj (yPow.symm.trans hty)
  have hcs := cells_of_tab Tryd.underlying167 Tryd.underlying37 cells37 cells167 hd
  unfold PW Lib.TabIs
  rw [hvar, ← hcs]
end Go.Proofs.YtmldgfplnacecaaDoor
