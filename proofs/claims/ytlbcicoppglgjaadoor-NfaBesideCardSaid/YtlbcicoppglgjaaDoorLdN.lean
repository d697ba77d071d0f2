/-
  From what the rows list (the table of math/bits) to what the contracts ask.
-/
import Derived.PinnedBridge
import Derived.Lib.LaidU8
import Derived.ProofKit
import Derived.OpenShut
import Derived.Test.YtlbcicoppglgjaaDoorRows
import Derived.Test.YtlbcicoppglgjaaDoorOne
namespace Go.Proofs.YtlbcicoppglgjaaDoor
open Go.ChangeShapes Go.WideShapes Go.ChangeAt Go.RowKit Go.Shelf
open Go.Lib

theorem own : ownKnob Tryd.prog.godebug = none := by kernel_rfl
theorem laidOut : laidOutB Tryd.prog = true := by kernel_rfl
theorem cells5 : Tryd.prog.cellsOf 5 = 1 := by kernel_rfl
def laidBits : List (String × DataW Unit) := [("math/bits.deBruijn64tab", Rows.laid_math_bits_deBruijn64tab)]
def bruijn64 : List Int := Lib.deBruijn64tab.map fun (n : Nat) => (n : Int)
theorem bruijn_eq : (Rows.laid_math_bits_deBruijn64tab : DataW Unit) = tabData .u8 bruijn64 := by kernel_rfl
theorem gBruijn : Tryd.prog.globalNamed "math/bits.deBruijn64tab" = some 0 := by kernel_rfl
theorem yBruijn : (Tryd.prog.globals[0]?).map (·.type) = some 88 := by kernel_rfl
theorem cells88 : Tryd.prog.cellsOf 88 = 64 := by kernel_rfl
theorem tz_of_reads {w : World} (h : VarReads Tryd.prog w "math/bits.deBruijn64tab" Rows.laid_math_bits_deBruijn64tab) : TZ w := by
  rw [bruijn_eq] at h
  obtain ⟨g, t, cs, fuel, p, hg, hty, hvar, hd⟩ := h
  obtain rfl := Option.some.inj (gBruijn.symm.trans hg)
  obtain rfl := Option.some.inj (yBruijn.symm.trans hty)
  have hcs := cells_of_tab Tryd.underlying88 Tryd.underlying5 cells5 cells88 hd
  intro j hj
  have h1 := World.var?_cell hg hvar j
  rw [← Array.getElem?_toList, hcs] at h1
  rw [h1]
  unfold bruijn64
  simp only [List.getElem?_map, List.getD_eq_getElem?_getD]
  rw [List.getElem?_eq_getElem hj]
  rfl
end Go.Proofs.YtlbcicoppglgjaaDoor
