/-
  The contents of a grouping.
-/
import Derived.Test.YtmldgfplnacecaaDoorMpc
namespace Go.Proofs.YtmldgfplnacecaaDoor
open Go.RowKit Go.Shelf Go.Lib Go.Maps Go.Sort

theorem colL_ok2 {R : List (List Int)} {T : List Nat} (h : rightT R T = true) (m : Nat) : ∀ p ∈ colL R m, 0 ≤ p ∧ p < 1024 := by
  by_cases hm : m < 37
  · exact colL_ok h hm
  · intro p hp
    unfold colL at hp
    obtain ⟨r, hr, rfl⟩ := List.mem_map.1 hp
    obtain ⟨i, hi⟩ := List.mem_iff_getElem?.1 hr
    have := ((right_parts h).2.2.2 i r hi).1
    rw [getD_none (by omega)]
    omega
/-- The contents of a grouping with a table. -/
def conL (g : List Int) (R : List (List Int)) : List Con := (List.range 37).map fun m => (g.getD m 0, colL R m)
theorem conL_len (g : List Int) (R : List (List Int)) : (conL g R).length = 37 := by simp [conL]
theorem conL_get (g : List Int) (R : List (List Int)) {m : Nat} (h : m < 37) : (conL g R)[m]? = some (g.getD m 0, colL R m) := by
  simp [conL, List.getElem?_map, List.getElem?_range h]
theorem conL_dom {g : List Int} {R : List (List Int)} {T : List Nat} (h : rightT R T = true) (hg : ∀ x ∈ g, i64 x) : ∀ c ∈ conL g R, domC c := by
  intro c hc
  unfold conL at hc
  obtain ⟨m, hm, rfl⟩ := List.mem_map.1 hc
  refine ⟨?_, colL_ok2 h m, by rw [colL_len]; exact (right_parts h).2.1⟩
  show i64 (g.getD m 0)
  by_cases hl : m < g.length
  · obtain ⟨x, hx⟩ := list_at hl
    rw [getD_get hx]; exact hg x (List.mem_of_getElem? hx)
  · rw [getD_none (by omega)]; unfold i64; omega
def zf (j : Nat) : Value := if j % 2 = 0 then .int .i64 0 else .string ⟨#[]⟩
theorem made74 : madeCells #[.int .i64 0, .string ⟨#[]⟩] 74 = arr 74 zf := by kernel_rfl
set_option maxRecDepth 100000 in
theorem make_cons (w : World) : (Instr.makeSlice 135 (.int .i64 37) (.int .i64 37)).run Tryd.prog w = .ok (.slice (some ⟨w.heap.size, 0, none⟩) 37 37) (w.alloc (.cells (arr 74 zf) 138)) := by
  obtain ⟨i, hi, hz, hsize, hby⟩ : ∃ i, Tryd.prog.info? 138 = some i ∧ i.zero = some (.agg #[.int .i64 0, .string ⟨#[]⟩]) ∧ i.size = 2 ∧ i.bytes = 24 := ⟨_, rfl, rfl, rfl, rfl⟩
  have := run_make (P := Tryd.prog) w 135 138 i _ Tryd.underlying135 hi hz .i64 .i64 37 37 (by omega) (by omega) (by rw [hby]; omega) (by omega)
  rw [hsize] at this
  rw [this, ← made74]
  rfl
theorem CAt.store {w : World} {h : Nat} {C : List Con} {k : Nat} {c : Con} (H : CAt w h C k) (hk : C[k]? = some c) :
    CAt ((w.setCell ⟨h, k * 2, none⟩ (.int .i64 c.1)).setCell ⟨h, k * 2 + 1, none⟩ (.string ⟨(txt c.2).toArray⟩)) h C (k + 1) := by
  have h2 := (Cells.set H (k * 2) (.int .i64 c.1)).set (k * 2 + 1) (.string ⟨(txt c.2).toArray⟩)
  rw [arr_set, arr_set] at h2
  have e : arr (2 * C.length) (cfun C (k + 1)) = arr (2 * C.length) (fun j => if j = k * 2 + 1 then .string ⟨(txt c.2).toArray⟩ else if j = k * 2 then .int .i64 c.1 else cfun C k j) := arr_congr fun j _ => by
    by_cases e1 : j = k * 2 + 1
    · subst e1
      unfold cfun
      rw [if_pos (show (k * 2 + 1) / 2 < k + 1 by omega), if_neg (show ¬ (k * 2 + 1) % 2 = 0 by omega), show (k * 2 + 1) / 2 = k by omega, getD_get hk, if_pos rfl]
    · rw [if_neg e1]
      by_cases e2 : j = k * 2
      · subst e2
        unfold cfun
        rw [if_pos (show (k * 2) / 2 < k + 1 by omega), if_pos (show (k * 2) % 2 = 0 by omega), show (k * 2) / 2 = k by omega, getD_get hk, if_pos rfl]
      · rw [if_neg e2]
        unfold cfun
        by_cases e3 : j / 2 < k
        · rw [if_pos e3, if_pos (by omega)]
        · rw [if_neg e3, if_neg (by omega)]
  unfold CAt
  rw [e]; exact h2
end Go.Proofs.YtmldgfplnacecaaDoor
