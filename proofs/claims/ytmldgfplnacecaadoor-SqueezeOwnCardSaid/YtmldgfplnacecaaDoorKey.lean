/-
  What tells symbols apart, as a key.
-/
import Derived.Test.YtmldgfplnacecaaDoorMpn
import Derived.Test.YtmldgfplnacecaaDoorCol
import Derived.DeepKeys4
namespace Go.Proofs.YtmldgfplnacecaaDoor
open Go.RowKit Go.Shelf Go.Lib Go.Maps Go.Sort

theorem laidOut : laidOutB Tryd.prog = true := by kernel_rfl
theorem law138 : Keyed Tryd.prog 138 := Keyed.of_law (deep_law_laid laidOut (m := 3) (by decide) (of_decide_eq_true (by kernel_rfl)) (by kernel_rfl) (by kernel_rfl))
/-- What tells symbols apart: a group, and a column. -/
abbrev Con := Int × List Int
def valC (c : Con) : Value := .agg #[.int .i64 c.1, .string ⟨(txt c.2).toArray⟩]
def encC (c : Con) : Lit := .string (keyBytes [.int .i64 c.1, .string (txt c.2)])
def domC (c : Con) : Prop := i64 c.1 ∧ (∀ p ∈ c.2, 0 ≤ p ∧ p < 1024) ∧ c.2.length ≤ 1000
theorem key138 {c : Con} (h : domC c) : keyOf Tryd.prog 138 (valC c) = some (encC c) := by
  have hk : Tryd.prog.keyType 138 = true := by kernel_rfl
  have hc : Tryd.prog.cellsOf 138 = 2 := by kernel_rfl
  have hc3 : Tryd.prog.cellsOf 3 = 1 := by kernel_rfl
  have hc9 : Tryd.prog.cellsOf 9 = 1 := by kernel_rfl
  have hs0 : 2 ≤ Tryd.prog.types.size := of_decide_eq_true (by kernel_rfl)
  have hs : ∃ d, Tryd.prog.types.size + 1 = d + 1 + 1 := ⟨Tryd.prog.types.size - 1, by omega⟩
  obtain ⟨d, hd⟩ := hs
  have hw : (Lit.int .i64 c.1).wf = true := wf64 h.1
  have hl : (txt c.2).length ≤ maxLen := by have := txt_len c.2 h.2.1; have := h.2.2; unfold maxLen; omega
  have hf : (valC c).formed Tryd.prog 138 = true := by
    simp [valC, Value.formed, Tryd.underlying138, hc]
  unfold keyOf
  simp only [Tryd.underlying138]
  rw [hk, hf, hd]
  simp only [Bool.and_self, if_true]
  show (Tryd.prog.keyLits (d + 1 + 1) 138 [.int .i64 c.1, .string ⟨(txt c.2).toArray⟩]).map _ = _
  have h3 : Tryd.prog.keyLits (d + 1) 3 [.int .i64 c.1] = some [.int .i64 c.1] := by
    unfold Program.keyLits
    simp only [Tryd.underlying3]
    rw [if_pos ⟨trivial, hw⟩]
  have h9 : Tryd.prog.keyLits (d + 1) 9 [.string ⟨(txt c.2).toArray⟩] = some [.string (txt c.2)] := by
    unfold Program.keyLits
    simp only [Tryd.underlying9]
    rw [if_pos (by show (txt c.2).toArray.size ≤ maxLen; simpa using hl)]
  have hkl : Tryd.prog.keyLits (d + 1 + 1) 138 [.int .i64 c.1, .string ⟨(txt c.2).toArray⟩] = some [.int .i64 c.1, .string (txt c.2)] := by
    unfold Program.keyLits
    simp only [Tryd.underlying138]
    rw [if_pos ⟨by rw [hc]; rfl, by kernel_rfl⟩]
    simp [hc3, hc9, h3, h9]
  rw [hkl]
  rfl
theorem encC_inj (x y : Con) (hx : domC x) (hy : domC y) (h : encC x = encC y) : x = y := by
  have := law138.inj (key138 hx) ((key138 hy).trans (by rw [h]))
  unfold valC at this
  simp at this
  obtain ⟨x1, x2⟩ := x
  obtain ⟨y1, y2⟩ := y
  obtain ⟨e1, e2⟩ := this
  have e3 := txt_inj x2 y2 (fun p hp => (hx.2.1 p hp).1) (fun p hp => (hy.2.1 p hp).1) e2
  simp only at e1
  rw [e1, e3]
end Go.Proofs.YtmldgfplnacecaaDoor
