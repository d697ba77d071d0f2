/-
  From what the rows of the entity laws list to what the contracts ask.
-/
import Derived.Test.YtpimadgcojgjaaaDoorLaz
import Derived.Test.YtpimadgcojgjaaaDoorSNx
import Derived.Lib.LaidTab
namespace Go.Proofs.YtpimadgcojgjaaaDoor
open Go.ChangeShapes Go.WideShapes Go.ChangeAt Go.RowKit Go.Shelf
open Go.Lib

def laidAll7 : List (String × DataW Unit) := [("math/bits.deBruijn32tab", Rows.laid_math_bits_deBruijn32tab), ("math/bits.deBruijn64tab", Rows.laid_math_bits_deBruijn64tab), ("internal/strconv.uint64pow10", Rows.laid_internal_strconv_uint64pow10), ("unicode/utf8.acceptRanges", Rows.laid_unicode_utf8_acceptRanges), ("strconv.ErrRange", Rows.laid_strconv_ErrRange), ("strconv.ErrSyntax", Rows.laid_strconv_ErrSyntax), ("unicode/utf8.first", Rows.laid_unicode_utf8_first)]
theorem acc_eq : (Rows.laid_unicode_utf8_acceptRanges : DataW Unit) = acceptData := by kernel_rfl
theorem gFirst : Tryd.prog.globalNamed "unicode/utf8.first" = some 2 := by kernel_rfl
theorem gAccept : Tryd.prog.globalNamed "unicode/utf8.acceptRanges" = some 3 := by kernel_rfl
theorem yFirst : (Tryd.prog.globals[2]?).map (·.type) = some 140 := by kernel_rfl
theorem yAccept : (Tryd.prog.globals[3]?).map (·.type) = some 143 := by kernel_rfl
theorem cells140 : Tryd.prog.cellsOf 140 = 256 := by kernel_rfl
theorem cells142 : Tryd.prog.cellsOf 142 = 2 := by kernel_rfl

theorem tabs_of_reads {w : World} (h3 : VarReads Tryd.prog w "unicode/utf8.first" Rows.laid_unicode_utf8_first) (h4 : VarReads Tryd.prog w "unicode/utf8.acceptRanges" Rows.laid_unicode_utf8_acceptRanges) : S.Tabs w := by
  have e3 : Rows.laid_unicode_utf8_first = firstData := Pinned.utf8First_eq
  rw [e3] at h3
  rw [acc_eq] at h4
  have hU : Utf8Tabs 2 3 w := by
    refine ⟨fun c hc => ?_, fun i hi => ?_⟩
    · obtain ⟨g, t, cs, fuel, p, hg, hty, hvar, hd⟩ := h3
      obtain rfl := Option.some.inj (gFirst.symm.trans hg)
      obtain rfl := Option.some.inj (yFirst.symm.trans hty)
      have hcs := cells_of_tab Tryd.underlying140 Tryd.underlying5 cells5 cells140 hd
      have := World.var?_cell hg hvar c
      rw [this, ← Array.getElem?_toList, hcs]
      simp [firstTab, hc]
    · obtain ⟨g, t, cs, fuel, p, hg, hty, hvar, hd⟩ := h4
      obtain rfl := Option.some.inj (gAccept.symm.trans hg)
      obtain rfl := Option.some.inj (yAccept.symm.trans hty)
      obtain ⟨fuel', d, q, hdi, he⟩ := array_elem Tryd.underlying143 hd i hi
      simp only [List.getElem?_map, List.getElem?_range hi, Option.map_some, Option.some.injEq] at hdi
      subst hdi
      rw [cells142] at he
      have hcs := ints_of_struct Tryd.underlying142 (fun j f hj => by
        match j, hj with
        | 0, hj => simp at hj; subst hj; exact ⟨Tryd.underlying5, rfl, cells5⟩
        | 1, hj => simp at hj; subst hj; exact ⟨Tryd.underlying5, rfl, cells5⟩
        | j + 2, hj => simp at hj) (by rw [cells142]; rfl) he
      have e0 := congrArg (·[0]?) hcs
      have e1 := congrArg (·[1]?) hcs
      simp only [List.getElem?_take, List.getElem?_drop] at e0 e1
      constructor
      · rw [World.var?_cell hg hvar (2 * i), ← Array.getElem?_toList]
        simpa [Nat.mul_comm] using e0
      · rw [World.var?_cell hg hvar (2 * i + 1), ← Array.getElem?_toList]
        simpa [Nat.mul_comm] using e1
  exact ⟨hU, block_lt_of_cell (hU.2 0 (by omega)).1⟩

end Go.Proofs.YtpimadgcojgjaaaDoor
