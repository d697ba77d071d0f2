/-
  From what the rows list to what the digits of base 16 ask.
-/
import Derived.Test.YtpimadgcojgjaaaDoorLae
import Derived.Test.YtpimadgcojgjaaaDoorSHx1
import Derived.Lib.TrailingZeros
namespace Go.Proofs.YtpimadgcojgjaaaDoor
open Go.ChangeShapes Go.WideShapes Go.ChangeAt Go.RowKit Go.Shelf
open Go.Lib

def bruijn64 : List Int := Lib.deBruijn64tab.map fun (n : Nat) => (n : Int)
theorem bruijn_eq : (Rows.laid_math_bits_deBruijn64tab : DataW Unit) = tabData .u8 bruijn64 := by kernel_rfl
theorem gBruijn : Tryd.prog.globalNamed "math/bits.deBruijn64tab" = some 5 := by kernel_rfl
theorem yBruijn : (Tryd.prog.globals[5]?).map (·.type) = some 145 := by kernel_rfl
theorem cells145 : Tryd.prog.cellsOf 145 = 64 := by kernel_rfl
theorem tz_of_reads {w : World} (h : VarReads Tryd.prog w "math/bits.deBruijn64tab" Rows.laid_math_bits_deBruijn64tab) : S.TZ w := by
  rw [bruijn_eq] at h
  obtain ⟨g, t, cs, fuel, p, hg, hty, hvar, hd⟩ := h
  obtain rfl := Option.some.inj (gBruijn.symm.trans hg)
  obtain rfl := Option.some.inj (yBruijn.symm.trans hty)
  have hcs := cells_of_tab Tryd.underlying145 Tryd.underlying5 cells5 cells145 hd
  have h1 := World.var?_cell hg hvar 15
  rw [← Array.getElem?_toList, hcs] at h1
  have h2 : w.cell? ⟨5, 15, none⟩ = some (.int .u8 4) := h1.trans rfl
  exact ⟨h2, block_lt_of_cell h2⟩
end Go.Proofs.YtpimadgcojgjaaaDoor
