/-
  From what the rows list (the two tables of unicode/utf8) to what the contracts ask; the bytes of an argument.
-/
import Derived.PinnedBridge
import Derived.Lib.LaidU8
import Derived.ProofKit
import Derived.OpenShut
import Derived.Test.YtimiinnnmdcmhaaDoorRows
import Derived.Test.YtimiinnnmdcmhaaDoorAwake
namespace Go.Proofs.YtimiinnnmdcmhaaDoor
open Go.ChangeShapes Go.WideShapes Go.ChangeAt Go.RowKit Go.Shelf
open Go.Lib

theorem own : ownKnob Tryd.prog.godebug = none := by kernel_rfl
theorem laidOut : laidOutB Tryd.prog = true := by kernel_rfl
theorem acc_eq : (Rows.laid_unicode_utf8_acceptRanges : DataW Unit) = acceptData := by kernel_rfl
theorem gFirst : Tryd.prog.globalNamed "unicode/utf8.first" = some 0 := by kernel_rfl
theorem gAccept : Tryd.prog.globalNamed "unicode/utf8.acceptRanges" = some 1 := by kernel_rfl
theorem yFirst : (Tryd.prog.globals[0]?).map (·.type) = some 151 := by kernel_rfl
theorem yAccept : (Tryd.prog.globals[1]?).map (·.type) = some 154 := by kernel_rfl
theorem cells5 : Tryd.prog.cellsOf 5 = 1 := by kernel_rfl
theorem cells151 : Tryd.prog.cellsOf 151 = 256 := by kernel_rfl
theorem cells153 : Tryd.prog.cellsOf 153 = 2 := by kernel_rfl

theorem tabs_of_reads {w : World} (h3 : VarReads Tryd.prog w "unicode/utf8.first" Rows.laid_unicode_utf8_first) (h4 : VarReads Tryd.prog w "unicode/utf8.acceptRanges" Rows.laid_unicode_utf8_acceptRanges) : Tabs w := by
  have e3 : Rows.laid_unicode_utf8_first = firstData := Pinned.utf8First_eq
  rw [e3] at h3
  rw [acc_eq] at h4
  have hU : Utf8Tabs 0 1 w := by
    refine ⟨fun c hc => ?_, fun i hi => ?_⟩
    · obtain ⟨g, t, cs, fuel, p, hg, hty, hvar, hd⟩ := h3
      obtain rfl := Option.some.inj (gFirst.symm.trans hg)
      obtain rfl := Option.some.inj (yFirst.symm.trans hty)
      have hcs := cells_of_tab Tryd.underlying151 Tryd.underlying5 cells5 cells151 hd
      have := World.var?_cell hg hvar c
      rw [this, ← Array.getElem?_toList, hcs]
      simp [firstTab, hc]
    · obtain ⟨g, t, cs, fuel, p, hg, hty, hvar, hd⟩ := h4
      obtain rfl := Option.some.inj (gAccept.symm.trans hg)
      obtain rfl := Option.some.inj (yAccept.symm.trans hty)
      obtain ⟨fuel', d, q, hdi, he⟩ := array_elem Tryd.underlying154 hd i hi
      simp only [List.getElem?_map, List.getElem?_range hi, Option.map_some, Option.some.injEq] at hdi
      subst hdi
      rw [cells153] at he
      have hcs := ints_of_struct Tryd.underlying153 (fun j f hj => by
        match j, hj with
        | 0, hj => simp at hj; subst hj; exact ⟨Tryd.underlying5, rfl, cells5⟩
        | 1, hj => simp at hj; subst hj; exact ⟨Tryd.underlying5, rfl, cells5⟩
        | j + 2, hj => simp at hj) (by rw [cells153]; rfl) he
      have e0 := congrArg (·[0]?) hcs
      have e1 := congrArg (·[1]?) hcs
      simp only [List.getElem?_take, List.getElem?_drop] at e0 e1
      constructor
      · rw [World.var?_cell hg hvar (2 * i), ← Array.getElem?_toList]
        simpa [Nat.mul_comm] using e0
      · rw [World.var?_cell hg hvar (2 * i + 1), ← Array.getElem?_toList]
        simpa [Nat.mul_comm] using e1
  exact ⟨hU, block_lt_of_cell (hU.2 0 (by omega)).1⟩

/-- AN ARGUMENT THAT IS A SLICE OF BYTES. -/
theorem sl_of_row {w : World} {a : Option Addr} {len cap : Nat} {zs : List Int}
    (h : (a = none ∧ len = 0 ∧ cap = 0 ∧ zs = []) ∨ ∃ x, a = some x ∧ len ≤ cap ∧ cap ≤ maxLen ∧ zs.length = cap ∧ (∀ i, i < zs.length → w.cell? (x.add i) = some (.int .u8 (zs.getD i 0))) ∧ ∀ n ∈ zs, (Lit.int .u8 n).wf = true) :
    Sl w w.heap.size a len cap (fun j => (zs.getD j 0).toNat) := by
  rcases h with ⟨rfl, rfl, rfl, rfl⟩ | ⟨x, rfl, hl, hm, hz, hcell, hwz⟩
  · exact ⟨Nat.le_refl _, Nat.zero_le _, fun h => absurd h (by omega)⟩
  · refine ⟨hl, hm, fun hn => ?_⟩
    have hc := hcell 0 (by omega)
    obtain ⟨b, off, spot⟩ := x
    have hspot : spot = none := by simpa [Addr.add] using World.cell?_spot hc
    subst hspot
    have hc0 : w.cell? ⟨b, off, none⟩ = some (.int .u8 (zs.getD 0 0)) := by simpa [Addr.add] using hc
    refine ⟨b, off, rfl, block_lt_of_cell hc0, fun j hj => ?_⟩
    have hcj := hcell j (by omega)
    have ea : (Addr.mk b off none).add j = ⟨b, off + j, none⟩ := by
      unfold Addr.add
      by_cases h : j = 0 <;> simp [h]
    rw [ea] at hcj
    have hmem : zs.getD j 0 ∈ zs := by
      have : j < zs.length := by omega
      rw [List.getD_eq_getElem?_getD, List.getElem?_eq_getElem this]
      exact List.getElem_mem this
    have hw := hwz _ hmem
    have hb : 0 ≤ zs.getD j 0 ∧ zs.getD j 0 ≤ 255 := by simpa [Lit.wf, IntKind.min, IntKind.max, IntKind.signed, IntKind.bits] using hw
    rw [hcj]
    refine ⟨?_, by show (zs.getD j 0).toNat < 256; omega⟩
    show _ = some (Value.int .u8 (((zs.getD j 0).toNat : Nat) : Int))
    rw [Int.toNat_of_nonneg hb.1]
end Go.Proofs.YtimiinnnmdcmhaaDoor
