/-
  The sets of the classes as plain mathematics: the parts of the rows, class by class; which numbers they have.
  The names of the classes. Contracts: prop.names, prop.Name, virguleref04.Name.
  Contracts: virguleref04.List: each class's list.
  Contracts: prop.rows: the table of all rows.
  Contracts: virguleref04.Name.
-/
import Derived.Test.YtphhdkffnboboaaPtf
import Derived.Test.YtphhdkffnboboaaPta
import Derived.Lib.QuietBelow
import Derived.Great.Walk
import Derived.Laws.Rows
import Derived.Laws.Tables
import Derived.Test.YtphhdkffnboboaaPtd
namespace Go.Proofs.Ytphhdkffnboboaa

/-- The numbers of LV, and of LVT, as ranges. -/
def syl1 (c : Int) (k : Nat) : Rng := if c = 14 then (44032 + 28 * (k : Int), 44032 + 28 * (k : Int)) else (44032 + 28 * (k : Int) + 1, 44032 + 28 * (k : Int) + 27)
def syllP (c : Int) : List Rng := (List.range 399).map (syl1 c)
def wholeP (x : Row) : List Rng := [(x.1, x.2.1)]
def partP (c : Int) (x : Row) : List Rng := if x.2.2 = 14 ∧ (c = 14 ∨ c = 15) then syllP c else if (x.2.2 : Int) = c then wholeP x else []
/-- What virguleref04.Set answers, but of Other. -/
def refS (c : Nat) : List Rng := if c = 14 ∨ c = 15 then syllP c else refList c
def allP (n : Nat) : List Rng := (44032, 55203) :: (List.range n).flatMap fun k => refList (k + 1)

theorem part_ref : ((List.range 36).all fun c => c == 0 || (rowsP.flatMap (partP c) == refS c && right (refS c))) = true := by decide +kernel
theorem part_right {c : Nat} (h0 : 0 < c) (h : c < 36) : rowsP.flatMap (partP c) = refS c ∧ right (refS c) = true := by
  have := List.all_eq_true.1 part_ref c (List.mem_range.2 h)
  simp only [Bool.or_eq_true, Bool.and_eq_true, beq_iff_eq] at this
  rcases this with h1 | h1
  · omega
  · exact h1
theorem part_out {c : Int} (h : c < 0 ∨ 35 < c) : rowsP.flatMap (partP c) = [] := by
  rw [List.flatMap_eq_nil_iff]
  intro x hx
  have hr := List.all_eq_true.1 rows_ref x hx
  unfold partP
  rw [if_neg (by omega), if_neg]
  by_cases h14 : x.2.2 = 14
  · omega
  · rw [if_neg h14] at hr
    simp only [decide_eq_true_eq] at hr
    omega
theorem whole_len : (rowsP.flatMap wholeP).length = 140 := by decide +kernel
theorem whole_may : ((rowsP.flatMap wholeP).all may) = true := by decide +kernel
theorem all_len : (allP 35).length ≤ 200 := by decide +kernel
theorem all_may : ((allP 35).all may) = true := by decide +kernel
theorem part_len {c : Nat} (h0 : 0 < c) (h : c < 36) : (rowsP.flatMap (partP c)).length ≤ 1000 := by
  have : ((List.range 36).all fun c => decide ((refS c).length ≤ 1000)) = true := by decide +kernel
  have := List.all_eq_true.1 this c (List.mem_range.2 h)
  rw [(part_right h0 h).1]
  simpa using this

theorem has_whole (r : Int) : hasR (rowsP.flatMap wholeP) r = true ↔ ∃ x ∈ rowsP, inRow x r = true := by
  rw [hasR_iff]
  constructor
  · rintro ⟨y, hy, h1, h2⟩
    obtain ⟨x, hx, hyx⟩ := List.mem_flatMap.1 hy
    simp [wholeP] at hyx
    subst hyx
    exact ⟨x, hx, by simp [inRow]; exact ⟨h1, h2⟩⟩
  · rintro ⟨x, hx, hr⟩
    simp [inRow] at hr
    exact ⟨(x.1, x.2.1), List.mem_flatMap.2 ⟨x, hx, by simp [wholeP]⟩, hr.1, hr.2⟩
/-- Both lists of all numbers that are of a class but Other have the same numbers. -/
theorem has_all (r : Int) : hasR (allP 35) r = hasR (rowsP.flatMap wholeP) r := by
  rw [Bool.eq_iff_iff, has_whole, hasR_iff]
  constructor
  · rintro ⟨y, hy, h1, h2⟩
    unfold allP at hy
    rcases List.mem_cons.1 hy with rfl | hy
    · exact ⟨_, lv_row, by simp [inRow]; exact ⟨h1, h2⟩⟩
    · obtain ⟨k, hk, hyk⟩ := List.mem_flatMap.1 hy
      have hk := List.mem_range.1 hk
      obtain ⟨x, hx, _, _, hr⟩ := (has_ref (c := k + 1) (by omega) r).1 ((hasR_iff _ _).2 ⟨y, hyk, h1, h2⟩)
      exact ⟨x, hx, hr⟩
  · rintro ⟨x, hx, hr⟩
    by_cases h14 : x.2.2 = 14
    · have hrow := List.all_eq_true.1 rows_ref x hx
      rw [if_pos h14] at hrow
      simp only [decide_eq_true_eq] at hrow
      subst hrow
      simp [inRow] at hr
      exact ⟨(44032, 55203), by unfold allP; exact List.mem_cons_self, hr.1, hr.2⟩
    · have hrow := List.all_eq_true.1 rows_ref x hx
      rw [if_neg h14] at hrow
      simp only [decide_eq_true_eq] at hrow
      simp [inRow] at hr
      refine ⟨(x.1, x.2.1), ?_, hr.1, hr.2⟩
      unfold allP
      refine List.mem_cons_of_mem _ (List.mem_flatMap.2 ⟨x.2.2 - 1, List.mem_range.2 (by omega), ?_⟩)
      rw [show x.2.2 - 1 + 1 = x.2.2 by omega]
      exact hrow.2.2.2
theorem has_syll {c : Int} (hc : c = 14 ∨ c = 15) (r : Int) : hasR (syllP c) r = true ↔ 44032 ≤ r ∧ r ≤ 55203 ∧ ((r - 44032) % 28 = 0 ↔ c = 14) := by
  rw [hasR_iff]
  constructor
  · rintro ⟨y, hy, h1, h2⟩
    obtain ⟨k, hk, rfl⟩ := List.mem_map.1 hy
    have hk := List.mem_range.1 hk
    unfold syl1 at h1 h2
    rcases hc with rfl | rfl
    · simp at h1 h2
      omega
    · rw [if_neg (by omega)] at h1 h2
      simp only at h1 h2
      omega
  · rintro ⟨h1, h2, h3⟩
    refine ⟨syl1 c ((r - 44032) / 28).toNat, List.mem_map.2 ⟨_, List.mem_range.2 (by omega), rfl⟩, ?_⟩
    have hq : ((((r - 44032) / 28).toNat : Nat) : Int) = (r - 44032) / 28 := by omega
    unfold syl1
    rcases hc with rfl | rfl
    · rw [if_pos rfl, hq]
      simp only [iff_true] at h3
      simp only
      omega
    · rw [if_neg (by omega), hq]
      simp only
      omega
/-- Each number of a row is of one class, and of that class's parts. -/
theorem has_part {c : Nat} (h0 : 0 < c) (r : Int) : hasR (rowsP.flatMap (partP c)) r = true ↔ ∃ x ∈ rowsP, inRow x r = true ∧ atRow x r = c := by
  rw [hasR_iff]
  have key : ∀ x ∈ rowsP, hasR (partP c x) r = true ↔ (inRow x r = true ∧ atRow x r = c) := by
    intro x hx
    have hrow := List.all_eq_true.1 rows_ref x hx
    by_cases h14 : x.2.2 = 14
    · rw [if_pos h14] at hrow
      simp only [decide_eq_true_eq] at hrow
      subst hrow
      unfold partP atRow
      by_cases hc : (c : Int) = 14 ∨ (c : Int) = 15
      · rw [if_pos ⟨rfl, hc⟩, has_syll hc]
        simp [inRow]
        rcases hc with hc | hc
        · obtain rfl : c = 14 := by omega
          by_cases hm : (r - 44032) % 28 = 0 <;> simp [hm]
        · obtain rfl : c = 15 := by omega
          by_cases hm : (r - 44032) % 28 = 0 <;> simp [hm]
      · have e1 : ¬ (((44032, 55203, 14) : Row).2.2 = 14 ∧ ((c : Int) = 14 ∨ (c : Int) = 15)) := fun h => hc h.2
        have e2 : ¬ ((((44032, 55203, 14) : Row).2.2 : Int) = (c : Int)) := by show ¬ ((14 : Int) = (c : Int)); omega
        rw [if_neg e1, if_neg e2]
        constructor
        · intro h; simp [hasR] at h
        · rintro ⟨_, h⟩
          exfalso
          split at h
          · exact hc (.inr (by omega))
          · exact hc (.inl (by have : (14 : Nat) = c := h; omega))
    · unfold partP atRow
      have e1 : ¬ (x.2.2 = 14 ∧ ((c : Int) = 14 ∨ (c : Int) = 15)) := fun h => h14 h.1
      have e2 : ¬ (x.2.2 = 14 ∧ (r - x.1) % 28 ≠ 0) := fun h => h14 h.1
      rw [if_neg e1, if_neg e2]
      by_cases hc : x.2.2 = c
      · rw [if_pos (show (x.2.2 : Int) = (c : Int) by omega)]
        simp [hasR, wholeP, inRow, hc]
      · rw [if_neg (show ¬ (x.2.2 : Int) = (c : Int) by omega)]
        constructor
        · intro h; simp [hasR] at h
        · rintro ⟨_, h⟩; exact absurd h hc
  constructor
  · rintro ⟨y, hy, h1, h2⟩
    obtain ⟨x, hx, hyx⟩ := List.mem_flatMap.1 hy
    exact ⟨x, hx, (key x hx).1 ((hasR_iff _ _).2 ⟨y, hyx, h1, h2⟩)⟩
  · rintro ⟨x, hx, h⟩
    obtain ⟨y, hy, h1, h2⟩ := (hasR_iff _ _).1 ((key x hx).2 h)
    exact ⟨y, List.mem_flatMap.2 ⟨x, hx, hy⟩, h1, h2⟩
/-- The class of a number, by the one row that has it. -/
theorem classR_row {x : Row} (hx : x ∈ rowsP) {r : Int} (hr : inRow x r = true) : classR r = atRow x r := by
  unfold classR
  have hF := find_row rows_rise r
  split
  · rename_i e
    rw [e] at hF
    have := hF x hx
    rw [hr] at this
    cases this
  · rename_i y e
    rw [e] at hF
    obtain ⟨rfl, h⟩ := (hF.2 x hx).1 hr
    rw [if_neg (by omega)]
theorem at_pos {x : Row} (hx : x ∈ rowsP) (r : Int) : 0 < atRow x r ∧ atRow x r < 36 := by
  have hrow := List.all_eq_true.1 rows_ref x hx
  unfold atRow
  by_cases h14 : x.2.2 = 14
  · split <;> omega
  · rw [if_neg h14] at hrow
    simp only [decide_eq_true_eq] at hrow
    rw [if_neg (by simp [h14])]
    omega
theorem classR_none {r : Int} (h : ∀ x ∈ rowsP, inRow x r = false) : classR r = 0 := by rw [class_eq, class_none h]
theorem classR_lt (r : Int) : classR r < 36 := by
  by_cases h : ∃ x ∈ rowsP, inRow x r = true
  · obtain ⟨x, hx, hr⟩ := h
    rw [classR_row hx hr]
    exact (at_pos hx r).2
  · rw [classR_none fun x hx => Bool.eq_false_iff.2 fun e => h ⟨x, hx, e⟩]
    omega
/-- A set of a class but Other has the numbers of that class. -/
theorem has_class {c : Nat} (h0 : 0 < c) (r : Int) : hasR (rowsP.flatMap (partP c)) r = true ↔ classR r = c := by
  rw [has_part h0]
  constructor
  · rintro ⟨x, hx, hr, h⟩
    rw [classR_row hx hr, h]
  · intro h
    by_cases hh : ∃ x ∈ rowsP, inRow x r = true
    · obtain ⟨x, hx, hr⟩ := hh
      exact ⟨x, hx, hr, by rw [← classR_row hx hr, h]⟩
    · rw [classR_none fun x hx => Bool.eq_false_iff.2 fun e => hh ⟨x, hx, e⟩] at h
      omega
/-- The numbers that no row has are of Other. -/
theorem has_other (r : Int) : hasR (rowsP.flatMap wholeP) r = true ↔ classR r ≠ 0 := by
  rw [has_whole]
  constructor
  · rintro ⟨x, hx, hr⟩
    rw [classR_row hx hr]
    have := (at_pos hx r).1
    omega
  · intro h
    apply Classical.byContradiction
    intro hh
    exact h (classR_none fun x hx => Bool.eq_false_iff.2 fun e => hh ⟨x, hx, e⟩)
end Go.Proofs.Ytphhdkffnboboaa

namespace Go.Proofs.Ytphhdkffnboboaa
open Go.RowKit Go.Shelf
open Go.Lib Go.Great

def nms : List ByteArray := [{ data := #[79, 116, 104, 101, 114] }, { data := #[67, 82] }, { data := #[76, 70] }, { data := #[78, 101, 119, 108, 105, 110, 101] }, { data := #[67, 111, 110, 116, 114, 111, 108] }, { data := #[69, 120, 116, 101, 110, 100] }, { data := #[90, 87, 74] }, { data := #[70, 111, 114, 109, 97, 116] }, { data := #[82, 101, 103, 105, 111, 110, 97, 108] }, { data := #[80, 114, 101, 112, 101, 110, 100] }, { data := #[83, 112, 97, 99, 105, 110, 103] }, { data := #[76] }, { data := #[86] }, { data := #[84] }, { data := #[76, 86] }, { data := #[76, 86, 84] }, { data := #[80, 105, 99, 116] }, { data := #[85, 112, 112, 101, 114] }, { data := #[76, 111, 119, 101, 114] }, { data := #[76, 101, 116, 116, 101, 114] }, { data := #[75, 97, 116, 97, 107, 97, 110, 97] }, { data := #[73, 100, 101, 111, 103, 114, 97, 112, 104] }, { data := #[68, 105, 103, 105, 116] }, { data := #[77, 105, 100, 76, 101, 116, 116, 101, 114] }, { data := #[77, 105, 100, 78, 117, 109] }, { data := #[68, 111, 116] }, { data := #[65, 112, 111, 115, 116, 114, 111, 112, 104, 101] }, { data := #[81, 117, 111, 116, 101] }, { data := #[74, 111, 105, 110, 101, 114] }, { data := #[83, 112, 97, 99, 101] }, { data := #[84, 101, 114, 109] }, { data := #[79, 112, 101, 110] }, { data := #[67, 108, 111, 115, 101] }, { data := #[72, 121, 112, 104, 101, 110] }, { data := #[71, 108, 117, 101] }, { data := #[71, 97, 112] }]
def NM : Array Value := (nms.map Value.string).toArray
def ZNM : Array Value := Array.replicate 36 (.string { data := #[] })

theorem below_setRow {B : Nat} {w w1 : World} (h : Below B w w1) {g : Nat} (hg : B ≤ g) (cs : Array Value) : Below B w (w1.setRow g cs) :=
  h.trans ⟨rfl, rfl, rfl, by simp, fun k hk => setRow_other _ _ _ _ (by omega)⟩
attribute [local irreducible] wpList Code.wp NM ZNM

set_option maxHeartbeats 1000000 in
set_option maxRecDepth 100000 in
theorem names_any (w : World) : Calls Try.prog 60 #[] w fun e w' => e = .returned (.agg NM) ∧ Below w.heap.size w w' := by
  refine calls_of_wp Try.func60 rfl ?_
  refine wp_anyFrame 2 (by as_aux_lemma => kernel_rfl) rfl fun a0 hs hd => ?_
  apply wp_seq_k; intro K hK
  apply wp_region_lit
  refine wpList_allocTo rfl (some 0) rfl (.pointer (some ⟨w.heap.size, 0, none⟩)) (.cells ZNM 101) (by as_aux_lemma => kernel_rfl) ?_
  apply wpList_nil
  refine hK _ _ ?_
  clear hK K
  apply wp_seq_k; intro K hK
  apply wp_region_lit
  refine wpList_readTo rfl (some 1) rfl (.agg NM) (by as_aux_lemma => kernel_rfl) ?_
  have h0 : ((a0.put (some 0) (.pointer (some ⟨w.heap.size, 0, none⟩))).put (some 1) (.agg NM)).eval (.tmp 0) = .pointer (some ⟨w.heap.size, 0, none⟩) := by
    rw [Act.eval_put_ne _ _ _ _ (by decide), Act.eval_put_same _ _ _ (by omega)]
  have h1 : ((a0.put (some 0) (.pointer (some ⟨w.heap.size, 0, none⟩))).put (some 1) (.agg NM)).eval (.tmp 1) = .agg NM := by
    rw [Act.eval_put_same _ _ _ (by simp only [Act.size_put]; omega)]
  have hz := heap_alloc_new w (.cells ZNM 101)
  refine wpList_store_row rfl 101 _ _ rfl w.heap.size NM h0 h1 101 ZNM hz (by as_aux_lemma => kernel_rfl) (by as_aux_lemma => kernel_rfl) (by as_aux_lemma => kernel_rfl) ?_
  apply wpList_nil
  refine hK _ _ ?_
  clear hK K
  refine wp_ret ?_
  refine bodyPost_ret (v := .agg NM) (results_cell_row rfl _ _ w.heap.size 101 NM (0, 0) (.array 36 9) h0 ?_ (by as_aux_lemma => kernel_rfl) rfl (by as_aux_lemma => kernel_rfl)) hd ⟨rfl, ?_⟩
  · exact setRow_heap _ _ _ _ _ _ hz
  · exact below_setRow (below_new w _) (Nat.le_refl _) _

/-- The name of a class. -/
def nmOf (c : Int) : ByteArray := if 0 ≤ c ∧ c < 36 then nms.getD c.toNat { data := #[] } else { data := #[] }
theorem nm_index_0 (w : World) : (Instr.index 101 (.agg NM) (.int .i64 ((0 : Nat) : Int))).run Try.prog w = .ok (.string (nmOf ((0 : Nat) : Int))) w := by kernel_rfl
theorem nm_index_1 (w : World) : (Instr.index 101 (.agg NM) (.int .i64 ((1 : Nat) : Int))).run Try.prog w = .ok (.string (nmOf ((1 : Nat) : Int))) w := by kernel_rfl
theorem nm_index_2 (w : World) : (Instr.index 101 (.agg NM) (.int .i64 ((2 : Nat) : Int))).run Try.prog w = .ok (.string (nmOf ((2 : Nat) : Int))) w := by kernel_rfl
theorem nm_index_3 (w : World) : (Instr.index 101 (.agg NM) (.int .i64 ((3 : Nat) : Int))).run Try.prog w = .ok (.string (nmOf ((3 : Nat) : Int))) w := by kernel_rfl
theorem nm_index_4 (w : World) : (Instr.index 101 (.agg NM) (.int .i64 ((4 : Nat) : Int))).run Try.prog w = .ok (.string (nmOf ((4 : Nat) : Int))) w := by kernel_rfl
theorem nm_index_5 (w : World) : (Instr.index 101 (.agg NM) (.int .i64 ((5 : Nat) : Int))).run Try.prog w = .ok (.string (nmOf ((5 : Nat) : Int))) w := by kernel_rfl
theorem nm_index_6 (w : World) : (Instr.index 101 (.agg NM) (.int .i64 ((6 : Nat) : Int))).run Try.prog w = .ok (.string (nmOf ((6 : Nat) : Int))) w := by kernel_rfl
theorem nm_index_7 (w : World) : (Instr.index 101 (.agg NM) (.int .i64 ((7 : Nat) : Int))).run Try.prog w = .ok (.string (nmOf ((7 : Nat) : Int))) w := by kernel_rfl
theorem nm_index_8 (w : World) : (Instr.index 101 (.agg NM) (.int .i64 ((8 : Nat) : Int))).run Try.prog w = .ok (.string (nmOf ((8 : Nat) : Int))) w := by kernel_rfl
theorem nm_index_9 (w : World) : (Instr.index 101 (.agg NM) (.int .i64 ((9 : Nat) : Int))).run Try.prog w = .ok (.string (nmOf ((9 : Nat) : Int))) w := by kernel_rfl
theorem nm_index_10 (w : World) : (Instr.index 101 (.agg NM) (.int .i64 ((10 : Nat) : Int))).run Try.prog w = .ok (.string (nmOf ((10 : Nat) : Int))) w := by kernel_rfl
theorem nm_index_11 (w : World) : (Instr.index 101 (.agg NM) (.int .i64 ((11 : Nat) : Int))).run Try.prog w = .ok (.string (nmOf ((11 : Nat) : Int))) w := by kernel_rfl
theorem nm_index_12 (w : World) : (Instr.index 101 (.agg NM) (.int .i64 ((12 : Nat) : Int))).run Try.prog w = .ok (.string (nmOf ((12 : Nat) : Int))) w := by kernel_rfl
theorem nm_index_13 (w : World) : (Instr.index 101 (.agg NM) (.int .i64 ((13 : Nat) : Int))).run Try.prog w = .ok (.string (nmOf ((13 : Nat) : Int))) w := by kernel_rfl
theorem nm_index_14 (w : World) : (Instr.index 101 (.agg NM) (.int .i64 ((14 : Nat) : Int))).run Try.prog w = .ok (.string (nmOf ((14 : Nat) : Int))) w := by kernel_rfl
theorem nm_index_15 (w : World) : (Instr.index 101 (.agg NM) (.int .i64 ((15 : Nat) : Int))).run Try.prog w = .ok (.string (nmOf ((15 : Nat) : Int))) w := by kernel_rfl
theorem nm_index_16 (w : World) : (Instr.index 101 (.agg NM) (.int .i64 ((16 : Nat) : Int))).run Try.prog w = .ok (.string (nmOf ((16 : Nat) : Int))) w := by kernel_rfl
theorem nm_index_17 (w : World) : (Instr.index 101 (.agg NM) (.int .i64 ((17 : Nat) : Int))).run Try.prog w = .ok (.string (nmOf ((17 : Nat) : Int))) w := by kernel_rfl
theorem nm_index_18 (w : World) : (Instr.index 101 (.agg NM) (.int .i64 ((18 : Nat) : Int))).run Try.prog w = .ok (.string (nmOf ((18 : Nat) : Int))) w := by kernel_rfl
theorem nm_index_19 (w : World) : (Instr.index 101 (.agg NM) (.int .i64 ((19 : Nat) : Int))).run Try.prog w = .ok (.string (nmOf ((19 : Nat) : Int))) w := by kernel_rfl
theorem nm_index_20 (w : World) : (Instr.index 101 (.agg NM) (.int .i64 ((20 : Nat) : Int))).run Try.prog w = .ok (.string (nmOf ((20 : Nat) : Int))) w := by kernel_rfl
theorem nm_index_21 (w : World) : (Instr.index 101 (.agg NM) (.int .i64 ((21 : Nat) : Int))).run Try.prog w = .ok (.string (nmOf ((21 : Nat) : Int))) w := by kernel_rfl
theorem nm_index_22 (w : World) : (Instr.index 101 (.agg NM) (.int .i64 ((22 : Nat) : Int))).run Try.prog w = .ok (.string (nmOf ((22 : Nat) : Int))) w := by kernel_rfl
theorem nm_index_23 (w : World) : (Instr.index 101 (.agg NM) (.int .i64 ((23 : Nat) : Int))).run Try.prog w = .ok (.string (nmOf ((23 : Nat) : Int))) w := by kernel_rfl
theorem nm_index_24 (w : World) : (Instr.index 101 (.agg NM) (.int .i64 ((24 : Nat) : Int))).run Try.prog w = .ok (.string (nmOf ((24 : Nat) : Int))) w := by kernel_rfl
theorem nm_index_25 (w : World) : (Instr.index 101 (.agg NM) (.int .i64 ((25 : Nat) : Int))).run Try.prog w = .ok (.string (nmOf ((25 : Nat) : Int))) w := by kernel_rfl
theorem nm_index_26 (w : World) : (Instr.index 101 (.agg NM) (.int .i64 ((26 : Nat) : Int))).run Try.prog w = .ok (.string (nmOf ((26 : Nat) : Int))) w := by kernel_rfl
theorem nm_index_27 (w : World) : (Instr.index 101 (.agg NM) (.int .i64 ((27 : Nat) : Int))).run Try.prog w = .ok (.string (nmOf ((27 : Nat) : Int))) w := by kernel_rfl
theorem nm_index_28 (w : World) : (Instr.index 101 (.agg NM) (.int .i64 ((28 : Nat) : Int))).run Try.prog w = .ok (.string (nmOf ((28 : Nat) : Int))) w := by kernel_rfl
theorem nm_index_29 (w : World) : (Instr.index 101 (.agg NM) (.int .i64 ((29 : Nat) : Int))).run Try.prog w = .ok (.string (nmOf ((29 : Nat) : Int))) w := by kernel_rfl
theorem nm_index_30 (w : World) : (Instr.index 101 (.agg NM) (.int .i64 ((30 : Nat) : Int))).run Try.prog w = .ok (.string (nmOf ((30 : Nat) : Int))) w := by kernel_rfl
theorem nm_index_31 (w : World) : (Instr.index 101 (.agg NM) (.int .i64 ((31 : Nat) : Int))).run Try.prog w = .ok (.string (nmOf ((31 : Nat) : Int))) w := by kernel_rfl
theorem nm_index_32 (w : World) : (Instr.index 101 (.agg NM) (.int .i64 ((32 : Nat) : Int))).run Try.prog w = .ok (.string (nmOf ((32 : Nat) : Int))) w := by kernel_rfl
theorem nm_index_33 (w : World) : (Instr.index 101 (.agg NM) (.int .i64 ((33 : Nat) : Int))).run Try.prog w = .ok (.string (nmOf ((33 : Nat) : Int))) w := by kernel_rfl
theorem nm_index_34 (w : World) : (Instr.index 101 (.agg NM) (.int .i64 ((34 : Nat) : Int))).run Try.prog w = .ok (.string (nmOf ((34 : Nat) : Int))) w := by kernel_rfl
theorem nm_index_35 (w : World) : (Instr.index 101 (.agg NM) (.int .i64 ((35 : Nat) : Int))).run Try.prog w = .ok (.string (nmOf ((35 : Nat) : Int))) w := by kernel_rfl
theorem nm_index (n : Nat) (h : n < 36) (w : World) : (Instr.index 101 (.agg NM) (.int .i64 (n : Int))).run Try.prog w = .ok (.string (nmOf n)) w :=
  match n, h with
  | 0, _ => nm_index_0 w
  | 1, _ => nm_index_1 w
  | 2, _ => nm_index_2 w
  | 3, _ => nm_index_3 w
  | 4, _ => nm_index_4 w
  | 5, _ => nm_index_5 w
  | 6, _ => nm_index_6 w
  | 7, _ => nm_index_7 w
  | 8, _ => nm_index_8 w
  | 9, _ => nm_index_9 w
  | 10, _ => nm_index_10 w
  | 11, _ => nm_index_11 w
  | 12, _ => nm_index_12 w
  | 13, _ => nm_index_13 w
  | 14, _ => nm_index_14 w
  | 15, _ => nm_index_15 w
  | 16, _ => nm_index_16 w
  | 17, _ => nm_index_17 w
  | 18, _ => nm_index_18 w
  | 19, _ => nm_index_19 w
  | 20, _ => nm_index_20 w
  | 21, _ => nm_index_21 w
  | 22, _ => nm_index_22 w
  | 23, _ => nm_index_23 w
  | 24, _ => nm_index_24 w
  | 25, _ => nm_index_25 w
  | 26, _ => nm_index_26 w
  | 27, _ => nm_index_27 w
  | 28, _ => nm_index_28 w
  | 29, _ => nm_index_29 w
  | 30, _ => nm_index_30 w
  | 31, _ => nm_index_31 w
  | 32, _ => nm_index_32 w
  | 33, _ => nm_index_33 w
  | 34, _ => nm_index_34 w
  | 35, _ => nm_index_35 w
  | n + 36, h => absurd h (by omega)

set_option maxHeartbeats 1000000 in
theorem name_any (c : Int) (w : World) : Calls Try.prog 31 #[.int .i64 c] w fun e w' => e = .returned (.string (nmOf c)) ∧ Below w.heap.size w w' := by
  by_cases h : 0 ≤ c ∧ c < 36
  · obtain ⟨h1, h2⟩ := h
    obtain ⟨n, rfl⟩ := Int.eq_ofNat_of_zero_le h1
    have hI := Lib.hid (nm_index n (by omega))
    have d1 : decide ((n : Int) < 0) = false := by simp
    have d2 : decide ((36 : Int) ≤ (n : Int)) = false := by simpa using h2
    go_enter Try.func31, Try.ntmps31
    go_wp2_with fail
    refine (names_any _).mono ?_
    rintro e w1 ⟨rfl, hb⟩
    have hJ := hI.out
    go_wp2
    go_ret
    exact ⟨rfl, hb⟩
  · have e : nmOf c = { data := #[] } := by unfold nmOf; rw [if_neg h]
    rw [e]
    by_cases h1 : c < 0
    · go_enter Try.func31, Try.ntmps31
      go_wp2
      go_ret
      exact ⟨rfl, Below.refl _ _⟩
    · have d1 : decide (c < 0) = false := by simpa using h1
      have h2 : 36 ≤ c := by omega
      go_enter Try.func31, Try.ntmps31
      go_wp2
      go_ret
      exact ⟨rfl, Below.refl _ _⟩
end Go.Proofs.Ytphhdkffnboboaa

namespace Go.Proofs.Ytphhdkffnboboaa
open Go.RowKit Go.Shelf
open Go.Lib Go.Great

/-- A list of ranges in a block of its own. -/
theorem sw_new (w : World) (xs : List Rng) (T : Nat) (n : Nat) (hn : xs.length = n) (hI : ∀ x ∈ xs, I32 x) (hm : n ≤ maxLen) : SW (w.alloc (.cells (cells2 xs).toArray T)) (some ⟨w.heap.size, 0, none⟩) n xs := by
  subst hn
  refine ⟨⟨Nat.le_refl _, hm, hI, fun _ => ⟨w.heap.size, 0, rfl, by simp, fun i x hx => ?_⟩⟩, .inr ⟨_, _, rfl⟩⟩
  obtain ⟨c1, c2⟩ := cells2_get xs i x hx
  have hc := fun k => cell_of_row (w.alloc (.cells (cells2 xs).toArray T)) w.heap.size k _ T (0, 0) (heap_alloc_new w _)
  simp only [List.getElem?_toArray] at hc
  rw [Nat.zero_add]
  exact ⟨(hc _).trans c1, (hc _).trans c2⟩
theorem sp_new (w : World) (xs : List Rng) (T : Nat) (n : Nat) (hn : xs.length = n) (hI : ∀ x ∈ xs, I32 x) (hm : n ≤ maxLen) : SP xs w (.returned (.slice (some ⟨w.heap.size, 0, none⟩) n n)) (w.alloc (.cells (cells2 xs).toArray T)) :=
  ⟨_, _, by rw [hn], sw_new w xs T n hn hI hm, below_new w _⟩
theorem sp_nil (w : World) : SP [] w (.returned (.slice none 0 0)) w := ⟨none, 0, rfl, SW.nil w, Below.refl _ _⟩
theorem i32_ref : ((List.range 36).all fun c => (refList c).all fun y => decide (-2147483648 ≤ y.1 ∧ y.1 ≤ 2147483647 ∧ -2147483648 ≤ y.2 ∧ y.2 ≤ 2147483647)) = true := by decide +kernel
theorem refList_i32 {c : Nat} (hc : c < 36) : ∀ x ∈ refList c, I32 x := fun x hx => by
  have := List.all_eq_true.1 (List.all_eq_true.1 i32_ref c (List.mem_range.2 hc)) x hx
  simpa [I32] using this
set_option maxHeartbeats 2000000 in
set_option maxRecDepth 100000 in
theorem list_1 (w : World) : Calls Try.prog 59 #[.int .i64 1] w (SP (refList 1) w) := by
  go_enter Try.func59, Try.ntmps59
  go_wp2_with (refine wpList_buildSliceTo rfl 36 40 1 _ rfl _ rfl _ rfl (by kernel_rfl) (cells2 (refList 1)).toArray (by kernel_rfl) ?_)
  go_ret
  exact sp_new w (refList 1) 40 1 rfl (refList_i32 (by decide)) (by unfold maxLen; omega)
set_option maxHeartbeats 2000000 in
set_option maxRecDepth 100000 in
theorem list_2 (w : World) : Calls Try.prog 59 #[.int .i64 2] w (SP (refList 2) w) := by
  go_enter Try.func59, Try.ntmps59
  go_wp2_with (refine wpList_buildSliceTo rfl 36 40 1 _ rfl _ rfl _ rfl (by kernel_rfl) (cells2 (refList 2)).toArray (by kernel_rfl) ?_)
  go_ret
  exact sp_new w (refList 2) 40 1 rfl (refList_i32 (by decide)) (by unfold maxLen; omega)
set_option maxHeartbeats 2000000 in
set_option maxRecDepth 100000 in
theorem list_3 (w : World) : Calls Try.prog 59 #[.int .i64 3] w (SP (refList 3) w) := by
  go_enter Try.func59, Try.ntmps59
  go_wp2_with (refine wpList_buildSliceTo rfl 36 40 3 _ rfl _ rfl _ rfl (by kernel_rfl) (cells2 (refList 3)).toArray (by kernel_rfl) ?_)
  go_ret
  exact sp_new w (refList 3) 40 3 rfl (refList_i32 (by decide)) (by unfold maxLen; omega)
set_option maxHeartbeats 2000000 in
set_option maxRecDepth 100000 in
theorem list_4 (w : World) : Calls Try.prog 59 #[.int .i64 4] w (SP (refList 4) w) := by
  go_enter Try.func59, Try.ntmps59
  go_wp2_with (refine wpList_buildSliceTo rfl 36 40 4 _ rfl _ rfl _ rfl (by kernel_rfl) (cells2 (refList 4)).toArray (by kernel_rfl) ?_)
  go_ret
  exact sp_new w (refList 4) 40 4 rfl (refList_i32 (by decide)) (by unfold maxLen; omega)
set_option maxHeartbeats 2000000 in
set_option maxRecDepth 100000 in
theorem list_5 (w : World) : Calls Try.prog 59 #[.int .i64 5] w (SP (refList 5) w) := by
  go_enter Try.func59, Try.ntmps59
  go_wp2_with (refine wpList_buildSliceTo rfl 36 40 16 _ rfl _ rfl _ rfl (by kernel_rfl) (cells2 (refList 5)).toArray (by kernel_rfl) ?_)
  go_ret
  exact sp_new w (refList 5) 40 16 rfl (refList_i32 (by decide)) (by unfold maxLen; omega)
set_option maxHeartbeats 2000000 in
set_option maxRecDepth 100000 in
theorem list_6 (w : World) : Calls Try.prog 59 #[.int .i64 6] w (SP (refList 6) w) := by
  go_enter Try.func59, Try.ntmps59
  go_wp2_with (refine wpList_buildSliceTo rfl 36 40 1 _ rfl _ rfl _ rfl (by kernel_rfl) (cells2 (refList 6)).toArray (by kernel_rfl) ?_)
  go_ret
  exact sp_new w (refList 6) 40 1 rfl (refList_i32 (by decide)) (by unfold maxLen; omega)
set_option maxHeartbeats 2000000 in
set_option maxRecDepth 100000 in
theorem list_7 (w : World) : Calls Try.prog 59 #[.int .i64 7] w (SP (refList 7) w) := by
  go_enter Try.func59, Try.ntmps59
  go_wp2_with (refine wpList_buildSliceTo rfl 36 40 5 _ rfl _ rfl _ rfl (by kernel_rfl) (cells2 (refList 7)).toArray (by kernel_rfl) ?_)
  go_ret
  exact sp_new w (refList 7) 40 5 rfl (refList_i32 (by decide)) (by unfold maxLen; omega)
set_option maxHeartbeats 2000000 in
set_option maxRecDepth 100000 in
theorem list_8 (w : World) : Calls Try.prog 59 #[.int .i64 8] w (SP (refList 8) w) := by
  go_enter Try.func59, Try.ntmps59
  go_wp2_with (refine wpList_buildSliceTo rfl 36 40 1 _ rfl _ rfl _ rfl (by kernel_rfl) (cells2 (refList 8)).toArray (by kernel_rfl) ?_)
  go_ret
  exact sp_new w (refList 8) 40 1 rfl (refList_i32 (by decide)) (by unfold maxLen; omega)
set_option maxHeartbeats 2000000 in
set_option maxRecDepth 100000 in
theorem list_9 (w : World) : Calls Try.prog 59 #[.int .i64 9] w (SP (refList 9) w) := by
  go_enter Try.func59, Try.ntmps59
  go_wp2_with (refine wpList_buildSliceTo rfl 36 40 2 _ rfl _ rfl _ rfl (by kernel_rfl) (cells2 (refList 9)).toArray (by kernel_rfl) ?_)
  go_ret
  exact sp_new w (refList 9) 40 2 rfl (refList_i32 (by decide)) (by unfold maxLen; omega)
set_option maxHeartbeats 2000000 in
set_option maxRecDepth 100000 in
theorem list_10 (w : World) : Calls Try.prog 59 #[.int .i64 10] w (SP (refList 10) w) := by
  go_enter Try.func59, Try.ntmps59
  go_wp2_with (refine wpList_buildSliceTo rfl 36 40 3 _ rfl _ rfl _ rfl (by kernel_rfl) (cells2 (refList 10)).toArray (by kernel_rfl) ?_)
  go_ret
  exact sp_new w (refList 10) 40 3 rfl (refList_i32 (by decide)) (by unfold maxLen; omega)
set_option maxHeartbeats 2000000 in
set_option maxRecDepth 100000 in
theorem list_11 (w : World) : Calls Try.prog 59 #[.int .i64 11] w (SP (refList 11) w) := by
  go_enter Try.func59, Try.ntmps59
  go_wp2_with (refine wpList_buildSliceTo rfl 36 40 2 _ rfl _ rfl _ rfl (by kernel_rfl) (cells2 (refList 11)).toArray (by kernel_rfl) ?_)
  go_ret
  exact sp_new w (refList 11) 40 2 rfl (refList_i32 (by decide)) (by unfold maxLen; omega)
set_option maxHeartbeats 2000000 in
set_option maxRecDepth 100000 in
theorem list_12 (w : World) : Calls Try.prog 59 #[.int .i64 12] w (SP (refList 12) w) := by
  go_enter Try.func59, Try.ntmps59
  go_wp2_with (refine wpList_buildSliceTo rfl 36 40 2 _ rfl _ rfl _ rfl (by kernel_rfl) (cells2 (refList 12)).toArray (by kernel_rfl) ?_)
  go_ret
  exact sp_new w (refList 12) 40 2 rfl (refList_i32 (by decide)) (by unfold maxLen; omega)
set_option maxHeartbeats 2000000 in
set_option maxRecDepth 100000 in
theorem list_13 (w : World) : Calls Try.prog 59 #[.int .i64 13] w (SP (refList 13) w) := by
  go_enter Try.func59, Try.ntmps59
  go_wp2_with (refine wpList_buildSliceTo rfl 36 40 2 _ rfl _ rfl _ rfl (by kernel_rfl) (cells2 (refList 13)).toArray (by kernel_rfl) ?_)
  go_ret
  exact sp_new w (refList 13) 40 2 rfl (refList_i32 (by decide)) (by unfold maxLen; omega)
set_option maxHeartbeats 2000000 in
set_option maxRecDepth 100000 in
theorem list_16 (w : World) : Calls Try.prog 59 #[.int .i64 16] w (SP (refList 16) w) := by
  go_enter Try.func59, Try.ntmps59
  go_wp2_with (refine wpList_buildSliceTo rfl 36 40 9 _ rfl _ rfl _ rfl (by kernel_rfl) (cells2 (refList 16)).toArray (by kernel_rfl) ?_)
  go_ret
  exact sp_new w (refList 16) 40 9 rfl (refList_i32 (by decide)) (by unfold maxLen; omega)
set_option maxHeartbeats 2000000 in
set_option maxRecDepth 100000 in
theorem list_17 (w : World) : Calls Try.prog 59 #[.int .i64 17] w (SP (refList 17) w) := by
  go_enter Try.func59, Try.ntmps59
  go_wp2_with (refine wpList_buildSliceTo rfl 36 40 7 _ rfl _ rfl _ rfl (by kernel_rfl) (cells2 (refList 17)).toArray (by kernel_rfl) ?_)
  go_ret
  exact sp_new w (refList 17) 40 7 rfl (refList_i32 (by decide)) (by unfold maxLen; omega)
set_option maxHeartbeats 2000000 in
set_option maxRecDepth 100000 in
theorem list_18 (w : World) : Calls Try.prog 59 #[.int .i64 18] w (SP (refList 18) w) := by
  go_enter Try.func59, Try.ntmps59
  go_wp2_with (refine wpList_buildSliceTo rfl 36 40 9 _ rfl _ rfl _ rfl (by kernel_rfl) (cells2 (refList 18)).toArray (by kernel_rfl) ?_)
  go_ret
  exact sp_new w (refList 18) 40 9 rfl (refList_i32 (by decide)) (by unfold maxLen; omega)
set_option maxHeartbeats 2000000 in
set_option maxRecDepth 100000 in
theorem list_19 (w : World) : Calls Try.prog 59 #[.int .i64 19] w (SP (refList 19) w) := by
  go_enter Try.func59, Try.ntmps59
  go_wp2_with (refine wpList_buildSliceTo rfl 36 40 3 _ rfl _ rfl _ rfl (by kernel_rfl) (cells2 (refList 19)).toArray (by kernel_rfl) ?_)
  go_ret
  exact sp_new w (refList 19) 40 3 rfl (refList_i32 (by decide)) (by unfold maxLen; omega)
set_option maxHeartbeats 2000000 in
set_option maxRecDepth 100000 in
theorem list_20 (w : World) : Calls Try.prog 59 #[.int .i64 20] w (SP (refList 20) w) := by
  go_enter Try.func59, Try.ntmps59
  go_wp2_with (refine wpList_buildSliceTo rfl 36 40 4 _ rfl _ rfl _ rfl (by kernel_rfl) (cells2 (refList 20)).toArray (by kernel_rfl) ?_)
  go_ret
  exact sp_new w (refList 20) 40 4 rfl (refList_i32 (by decide)) (by unfold maxLen; omega)
set_option maxHeartbeats 2000000 in
set_option maxRecDepth 100000 in
theorem list_21 (w : World) : Calls Try.prog 59 #[.int .i64 21] w (SP (refList 21) w) := by
  go_enter Try.func59, Try.ntmps59
  go_wp2_with (refine wpList_buildSliceTo rfl 36 40 5 _ rfl _ rfl _ rfl (by kernel_rfl) (cells2 (refList 21)).toArray (by kernel_rfl) ?_)
  go_ret
  exact sp_new w (refList 21) 40 5 rfl (refList_i32 (by decide)) (by unfold maxLen; omega)
set_option maxHeartbeats 2000000 in
set_option maxRecDepth 100000 in
theorem list_22 (w : World) : Calls Try.prog 59 #[.int .i64 22] w (SP (refList 22) w) := by
  go_enter Try.func59, Try.ntmps59
  go_wp2_with (refine wpList_buildSliceTo rfl 36 40 4 _ rfl _ rfl _ rfl (by kernel_rfl) (cells2 (refList 22)).toArray (by kernel_rfl) ?_)
  go_ret
  exact sp_new w (refList 22) 40 4 rfl (refList_i32 (by decide)) (by unfold maxLen; omega)
set_option maxHeartbeats 2000000 in
set_option maxRecDepth 100000 in
theorem list_23 (w : World) : Calls Try.prog 59 #[.int .i64 23] w (SP (refList 23) w) := by
  go_enter Try.func59, Try.ntmps59
  go_wp2_with (refine wpList_buildSliceTo rfl 36 40 2 _ rfl _ rfl _ rfl (by kernel_rfl) (cells2 (refList 23)).toArray (by kernel_rfl) ?_)
  go_ret
  exact sp_new w (refList 23) 40 2 rfl (refList_i32 (by decide)) (by unfold maxLen; omega)
set_option maxHeartbeats 2000000 in
set_option maxRecDepth 100000 in
theorem list_24 (w : World) : Calls Try.prog 59 #[.int .i64 24] w (SP (refList 24) w) := by
  go_enter Try.func59, Try.ntmps59
  go_wp2_with (refine wpList_buildSliceTo rfl 36 40 3 _ rfl _ rfl _ rfl (by kernel_rfl) (cells2 (refList 24)).toArray (by kernel_rfl) ?_)
  go_ret
  exact sp_new w (refList 24) 40 3 rfl (refList_i32 (by decide)) (by unfold maxLen; omega)
set_option maxHeartbeats 2000000 in
set_option maxRecDepth 100000 in
theorem list_25 (w : World) : Calls Try.prog 59 #[.int .i64 25] w (SP (refList 25) w) := by
  go_enter Try.func59, Try.ntmps59
  go_wp2_with (refine wpList_buildSliceTo rfl 36 40 3 _ rfl _ rfl _ rfl (by kernel_rfl) (cells2 (refList 25)).toArray (by kernel_rfl) ?_)
  go_ret
  exact sp_new w (refList 25) 40 3 rfl (refList_i32 (by decide)) (by unfold maxLen; omega)
set_option maxHeartbeats 2000000 in
set_option maxRecDepth 100000 in
theorem list_26 (w : World) : Calls Try.prog 59 #[.int .i64 26] w (SP (refList 26) w) := by
  go_enter Try.func59, Try.ntmps59
  go_wp2_with (refine wpList_buildSliceTo rfl 36 40 2 _ rfl _ rfl _ rfl (by kernel_rfl) (cells2 (refList 26)).toArray (by kernel_rfl) ?_)
  go_ret
  exact sp_new w (refList 26) 40 2 rfl (refList_i32 (by decide)) (by unfold maxLen; omega)
set_option maxHeartbeats 2000000 in
set_option maxRecDepth 100000 in
theorem list_27 (w : World) : Calls Try.prog 59 #[.int .i64 27] w (SP (refList 27) w) := by
  go_enter Try.func59, Try.ntmps59
  go_wp2_with (refine wpList_buildSliceTo rfl 36 40 3 _ rfl _ rfl _ rfl (by kernel_rfl) (cells2 (refList 27)).toArray (by kernel_rfl) ?_)
  go_ret
  exact sp_new w (refList 27) 40 3 rfl (refList_i32 (by decide)) (by unfold maxLen; omega)
set_option maxHeartbeats 2000000 in
set_option maxRecDepth 100000 in
theorem list_28 (w : World) : Calls Try.prog 59 #[.int .i64 28] w (SP (refList 28) w) := by
  go_enter Try.func59, Try.ntmps59
  go_wp2_with (refine wpList_buildSliceTo rfl 36 40 2 _ rfl _ rfl _ rfl (by kernel_rfl) (cells2 (refList 28)).toArray (by kernel_rfl) ?_)
  go_ret
  exact sp_new w (refList 28) 40 2 rfl (refList_i32 (by decide)) (by unfold maxLen; omega)
set_option maxHeartbeats 2000000 in
set_option maxRecDepth 100000 in
theorem list_29 (w : World) : Calls Try.prog 59 #[.int .i64 29] w (SP (refList 29) w) := by
  go_enter Try.func59, Try.ntmps59
  go_wp2_with (refine wpList_buildSliceTo rfl 36 40 7 _ rfl _ rfl _ rfl (by kernel_rfl) (cells2 (refList 29)).toArray (by kernel_rfl) ?_)
  go_ret
  exact sp_new w (refList 29) 40 7 rfl (refList_i32 (by decide)) (by unfold maxLen; omega)
set_option maxHeartbeats 2000000 in
set_option maxRecDepth 100000 in
theorem list_30 (w : World) : Calls Try.prog 59 #[.int .i64 30] w (SP (refList 30) w) := by
  go_enter Try.func59, Try.ntmps59
  go_wp2_with (refine wpList_buildSliceTo rfl 36 40 7 _ rfl _ rfl _ rfl (by kernel_rfl) (cells2 (refList 30)).toArray (by kernel_rfl) ?_)
  go_ret
  exact sp_new w (refList 30) 40 7 rfl (refList_i32 (by decide)) (by unfold maxLen; omega)
set_option maxHeartbeats 2000000 in
set_option maxRecDepth 100000 in
theorem list_31 (w : World) : Calls Try.prog 59 #[.int .i64 31] w (SP (refList 31) w) := by
  go_enter Try.func59, Try.ntmps59
  go_wp2_with (refine wpList_buildSliceTo rfl 36 40 8 _ rfl _ rfl _ rfl (by kernel_rfl) (cells2 (refList 31)).toArray (by kernel_rfl) ?_)
  go_ret
  exact sp_new w (refList 31) 40 8 rfl (refList_i32 (by decide)) (by unfold maxLen; omega)
set_option maxHeartbeats 2000000 in
set_option maxRecDepth 100000 in
theorem list_32 (w : World) : Calls Try.prog 59 #[.int .i64 32] w (SP (refList 32) w) := by
  go_enter Try.func59, Try.ntmps59
  go_wp2_with (refine wpList_buildSliceTo rfl 36 40 10 _ rfl _ rfl _ rfl (by kernel_rfl) (cells2 (refList 32)).toArray (by kernel_rfl) ?_)
  go_ret
  exact sp_new w (refList 32) 40 10 rfl (refList_i32 (by decide)) (by unfold maxLen; omega)
set_option maxHeartbeats 2000000 in
set_option maxRecDepth 100000 in
theorem list_33 (w : World) : Calls Try.prog 59 #[.int .i64 33] w (SP (refList 33) w) := by
  go_enter Try.func59, Try.ntmps59
  go_wp2_with (refine wpList_buildSliceTo rfl 36 40 3 _ rfl _ rfl _ rfl (by kernel_rfl) (cells2 (refList 33)).toArray (by kernel_rfl) ?_)
  go_ret
  exact sp_new w (refList 33) 40 3 rfl (refList_i32 (by decide)) (by unfold maxLen; omega)
set_option maxHeartbeats 2000000 in
set_option maxRecDepth 100000 in
theorem list_34 (w : World) : Calls Try.prog 59 #[.int .i64 34] w (SP (refList 34) w) := by
  go_enter Try.func59, Try.ntmps59
  go_wp2_with (refine wpList_buildSliceTo rfl 36 40 4 _ rfl _ rfl _ rfl (by kernel_rfl) (cells2 (refList 34)).toArray (by kernel_rfl) ?_)
  go_ret
  exact sp_new w (refList 34) 40 4 rfl (refList_i32 (by decide)) (by unfold maxLen; omega)
set_option maxHeartbeats 2000000 in
set_option maxRecDepth 100000 in
theorem list_35 (w : World) : Calls Try.prog 59 #[.int .i64 35] w (SP (refList 35) w) := by
  go_enter Try.func59, Try.ntmps59
  go_wp2_with (refine wpList_buildSliceTo rfl 36 40 1 _ rfl _ rfl _ rfl (by kernel_rfl) (cells2 (refList 35)).toArray (by kernel_rfl) ?_)
  go_ret
  exact sp_new w (refList 35) 40 1 rfl (refList_i32 (by decide)) (by unfold maxLen; omega)
set_option maxHeartbeats 2000000 in
set_option maxRecDepth 100000 in
theorem list_14 (w : World) : Calls Try.prog 59 #[.int .i64 14] w (SP (refList 14) w) := by
  go_enter Try.func59, Try.ntmps59
  go_wp2
  go_ret
  exact sp_nil w
set_option maxHeartbeats 2000000 in
set_option maxRecDepth 100000 in
theorem list_15 (w : World) : Calls Try.prog 59 #[.int .i64 15] w (SP (refList 15) w) := by
  go_enter Try.func59, Try.ntmps59
  go_wp2
  go_ret
  exact sp_nil w
theorem list_any (c : Nat) (h0 : 0 < c) (h : c < 36) (w : World) : Calls Try.prog 59 #[.int .i64 (c : Int)] w (SP (refList c) w) :=
  match c, h0, h with
  | 1, _, _ => list_1 w
  | 2, _, _ => list_2 w
  | 3, _, _ => list_3 w
  | 4, _, _ => list_4 w
  | 5, _, _ => list_5 w
  | 6, _, _ => list_6 w
  | 7, _, _ => list_7 w
  | 8, _, _ => list_8 w
  | 9, _, _ => list_9 w
  | 10, _, _ => list_10 w
  | 11, _, _ => list_11 w
  | 12, _, _ => list_12 w
  | 13, _, _ => list_13 w
  | 14, _, _ => list_14 w
  | 15, _, _ => list_15 w
  | 16, _, _ => list_16 w
  | 17, _, _ => list_17 w
  | 18, _, _ => list_18 w
  | 19, _, _ => list_19 w
  | 20, _, _ => list_20 w
  | 21, _, _ => list_21 w
  | 22, _, _ => list_22 w
  | 23, _, _ => list_23 w
  | 24, _, _ => list_24 w
  | 25, _, _ => list_25 w
  | 26, _, _ => list_26 w
  | 27, _, _ => list_27 w
  | 28, _, _ => list_28 w
  | 29, _, _ => list_29 w
  | 30, _, _ => list_30 w
  | 31, _, _ => list_31 w
  | 32, _, _ => list_32 w
  | 33, _, _ => list_33 w
  | 34, _, _ => list_34 w
  | 35, _, _ => list_35 w
  | 0, h, _ => absurd h (by omega)
  | n + 36, _, h => absurd h (by omega)
end Go.Proofs.Ytphhdkffnboboaa

namespace Go.Proofs.Ytphhdkffnboboaa
open Go.RowKit Go.Shelf
open Go.Lib Go.Great

def rcell (x : Row) : List Value := [.int .i32 x.1, .int .i32 x.2.1, .int .i64 (x.2.2 : Int)]
def NR : Array Value := (rowsP.flatMap rcell).toArray
def ZNR : Array Value := (List.replicate 140 [Value.int .i32 0, .int .i32 0, .int .i64 0]).flatten.toArray
/-- One operation that builds a value of what is known. -/
def bstep (P : Program) (t : Array Value) (o : Oper) : Option (Array Value) :=
  match o.guard, o.op, o.dst with
  | none, .build ty parts, some d => (P.built ty (parts.map fun (i, x) => (i, Act.eval { tmps := t, defers := [] } x)).toList).map fun cs => t.setIfInBounds d (.agg cs)
  | _, _, _ => none
theorem eval_tmps (a : Act) (x : Operand) : a.eval x = Act.eval { tmps := a.tmps, defers := [] } x := by cases x <;> rfl
theorem wpList_builds {P : Program} {ops : Array Oper} {Q : Exit → Act → World → Prop} {w : World} {rest : List Oper} (bs : List Oper) : ∀ (a : Act) (t' : Array Value), bs.foldlM (bstep P) a.tmps = some t' → wpList P ops Q rest { a with tmps := t' } w → wpList P ops Q (bs ++ rest) a w := by
  induction bs with
  | nil => intro a t' h k; simp at h; subst h; exact k
  | cons o bs ih =>
    intro a t' h k
    rw [List.foldlM_cons] at h
    cases hs : bstep P a.tmps o with
    | none => rw [hs] at h; cases h
    | some t1 =>
      rw [hs] at h
      have h : bs.foldlM (bstep P) t1 = some t' := h
      unfold bstep at hs
      split at hs
      · rename_i ty parts d hg ho hd
        simp only [Option.map_eq_some_iff] at hs
        obtain ⟨cs, hcs, rfl⟩ := hs
        have e : (parts.map fun (i, x) => (i, a.eval x)) = (parts.map fun (i, x) => (i, Act.eval { tmps := a.tmps, defers := [] } x)) := by
          congr 1
        rw [← e] at hcs
        refine wpList_build hg ty parts ho (by rw [hcs]; rfl) ?_
        rw [hcs]
        have e2 : a.put o.dst (.agg cs) = { a with tmps := a.tmps.setIfInBounds d (.agg cs) } := by rw [hd]; rfl
        show wpList P ops Q (bs ++ rest) (a.put o.dst (.agg cs)) w
        rw [e2]
        exact ih _ t' h k
      · cases hs
def FR (v : Value) : Array Value := (#[v] ++ (rowsP.map fun x => Value.agg (rcell x).toArray).toArray) ++ #[.agg NR]

attribute [local irreducible] wpList Code.wp NR ZNR FR

set_option maxHeartbeats 4000000 in
set_option maxRecDepth 100000 in
theorem rows_any (w : World) : Calls Try.prog 55 #[] w fun e w' => e = .returned (.agg NR) ∧ Below w.heap.size w w' := by
  refine calls_of_wp Try.func55 rfl ?_
  apply wp_seq_k; intro K hK
  apply wp_region_lit
  refine wpList_allocTo rfl (some 0) rfl (.pointer (some ⟨w.heap.size, 0, none⟩)) (.cells ZNR 98) (by as_aux_lemma => kernel_rfl) ?_
  apply wpList_nil
  refine hK _ _ ?_
  clear hK K
  apply wp_seq_k; intro K hK
  apply wp_region_lit
  refine wpList_splitAt 141 _ (List.take_append_drop 141 _).symm ?_
  refine wpList_builds _ _ (FR (.pointer (some ⟨w.heap.size, 0, none⟩))) (by as_aux_lemma => kernel_rfl) ?_
  have hz := heap_alloc_new w (.cells ZNR 98)
  have h0 : ∀ d, Act.eval { tmps := FR (.pointer (some ⟨w.heap.size, 0, none⟩)), defers := d } (.tmp 0) = .pointer (some ⟨w.heap.size, 0, none⟩) := fun d => by as_aux_lemma => kernel_rfl
  have h1 : ∀ d, Act.eval { tmps := FR (.pointer (some ⟨w.heap.size, 0, none⟩)), defers := d } (.tmp 141) = .agg NR := fun d => by as_aux_lemma => kernel_rfl
  refine wpList_store_row rfl 98 (.tmp 0) (.tmp 141) rfl w.heap.size NR (h0 _) (h1 _) 98 ZNR hz (by as_aux_lemma => kernel_rfl) (by as_aux_lemma => kernel_rfl) (by as_aux_lemma => kernel_rfl) ?_
  apply wpList_nil
  refine hK _ _ ?_
  clear hK K
  refine wp_ret ?_
  refine bodyPost_ret (v := .agg NR) (results_cell_row rfl _ _ w.heap.size 98 NR (0, 0) (.array 140 97) (h0 []) ?_ (by as_aux_lemma => kernel_rfl) rfl (by as_aux_lemma => kernel_rfl)) rfl ⟨rfl, ?_⟩
  · exact setRow_heap _ _ _ _ _ _ hz
  · exact below_setRow (below_new w _) (Nat.le_refl _) _
end Go.Proofs.Ytphhdkffnboboaa

namespace Go.Proofs.Ytphhdkffnboboaa
open Go.RowKit Go.Shelf
open Go.Lib Go.Great

theorem nm_cell (n : Nat) (h : n < 36) : NM[n]? = some (.string (nmOf (n : Int))) := by
  have hl : n < nms.length := h
  unfold NM nmOf
  rw [if_pos (by omega)]
  simp [List.getD, hl]

set_option maxHeartbeats 1000000 in
theorem rname_any (c : Int) (w : World) : Calls Try.prog 33 #[.int .i64 c] w fun e w' => e = .returned (.string (nmOf c)) ∧ Below w.heap.size w w' := by
  by_cases h : 0 ≤ c ∧ c < 36
  · obtain ⟨h1, h2⟩ := h
    obtain ⟨n, rfl⟩ := Int.eq_ofNat_of_zero_le h1
    have d1 : decide ((n : Int) < 0) = false := by simp
    have d2 : decide ((35 : Int) < (n : Int)) = false := by simp; omega
    have hc : (w.alloc (.cells NM 9)).cell? ⟨w.heap.size, n, none⟩ = some (.string (nmOf n)) := by
      rw [cell_of_row _ _ _ _ _ _ (heap_alloc_new w (.cells NM 9)), nm_cell n (by omega)]
    have hb := below_new w (.cells NM 9)
    generalize hW : w.alloc (.cells NM 9) = W1 at hc hb
    have HW := Lib.hid hW
    clear hW
    go_enter Try.func33, Try.ntmps33
    go_wp2_with (refine wpList_buildSliceTo rfl 91 9 36 _ rfl _ rfl (some 9) rfl (by kernel_rfl) NM (by kernel_rfl) ?_; rw [HW.out])
    go_ret
    exact ⟨rfl, hb⟩
  · have e : nmOf c = { data := #[] } := by unfold nmOf; rw [if_neg h]
    rw [e]
    by_cases h1 : c < 0
    · go_enter Try.func33, Try.ntmps33
      go_wp2
      go_ret
      exact ⟨rfl, Below.refl _ _⟩
    · have d1 : decide (c < 0) = false := by simpa using h1
      have h2 : 35 < c := by omega
      go_enter Try.func33, Try.ntmps33
      go_wp2
      go_ret
      exact ⟨rfl, Below.refl _ _⟩
end Go.Proofs.Ytphhdkffnboboaa

