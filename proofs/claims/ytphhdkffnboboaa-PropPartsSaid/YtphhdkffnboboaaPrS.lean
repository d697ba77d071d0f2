/-
  The sets of the classes as plain mathematics: the parts of the rows, class by class; which numbers they have.
-/
import Derived.Test.YtphhdkffnboboaaPrM
namespace Go.Proofs.Ytphhdkffnboboaa

/-- The numbers of LV, and of LVT, as ranges. -/
def syl1 (c : Int) (k : Nat) : Rng := if c = 14 then (44032 + 28 * (k : Int), 44032 + 28 * (k : Int)) else (44032 + 28 * (k : Int) + 1, 44032 + 28 * (k : Int) + 27)
def syllP (c : Int) : List Rng := (List.range 399).map (syl1 c)
def wholeP (x : Row) : List Rng := [(x.1, x.2.1)]
def partP (c : Int) (x : Row) : List Rng := if x.2.2 = 14 ∧ (c = 14 ∨ c = 15) then syllP c else if (x.2.2 : Int) = c then wholeP x else []
/-- What virguleref04.Set answers, but of Other. -/
def refS (c : Nat) : List Rng := if c = 14 ∨ c = 15 then syllP c else refList c
def allP (n : Nat) : List Rng := (44032, 55203) :: (List.range n).flatMap fun k => refList (k + 1)

theorem part_ref : ((List.range 36).all fun c => c == 0 || (rowsP.flatMap (partP c) == refS c && right (refS c))) = true := by decide +kernel
theorem part_right {c : Nat} (h0 : 0 < c) (h : c < 36) : rowsP.flatMap (partP c) = refS c ∧ right (refS c) = true := by
  have := List.all_eq_true.1 part_ref c (List.mem_range.2 h)
  simp only [Bool.or_eq_true, Bool.and_eq_true, beq_iff_eq] at this
  rcases this with h1 | h1
  · omega
  · exact h1
theorem part_out {c : Int} (h : c < 0 ∨ 35 < c) : rowsP.flatMap (partP c) = [] := by
  rw [List.flatMap_eq_nil_iff]
  intro x hx
  have hr := List.all_eq_true.1 rows_ref x hx
  unfold partP
  rw [if_neg (by omega), if_neg]
  by_cases h14 : x.2.2 = 14
  · omega
  · rw [if_neg h14] at hr
    simp only [decide_eq_true_eq] at hr
    omega
theorem whole_len : (rowsP.flatMap wholeP).length = 140 := by decide +kernel
theorem whole_may : ((rowsP.flatMap wholeP).all may) = true := by decide +kernel
theorem all_len : (allP 35).length ≤ 200 := by decide +kernel
theorem all_may : ((allP 35).all may) = true := by decide +kernel
theorem part_len {c : Nat} (h0 : 0 < c) (h : c < 36) : (rowsP.flatMap (partP c)).length ≤ 1000 := by
  have : ((List.range 36).all fun c => decide ((refS c).length ≤ 1000)) = true := by decide +kernel
  have := List.all_eq_true.1 this c (List.mem_range.2 h)
  rw [(part_right h0 h).1]
  simpa using this

theorem has_whole (r : Int) : hasR (rowsP.flatMap wholeP) r = true ↔ ∃ x ∈ rowsP, inRow x r = true := by
  rw [hasR_iff]
  constructor
  · rintro ⟨y, hy, h1, h2⟩
    obtain ⟨x, hx, hyx⟩ := List.mem_flatMap.1 hy
    simp [wholeP] at hyx
    subst hyx
    exact ⟨x, hx, by simp [inRow]; exact ⟨h1, h2⟩⟩
  · rintro ⟨x, hx, hr⟩
    simp [inRow] at hr
    exact ⟨(x.1, x.2.1), List.mem_flatMap.2 ⟨x, hx, by simp [wholeP]⟩, hr.1, hr.2⟩
/-- Both lists of all numbers that are of a class but Other have the same numbers. -/
theorem has_all (r : Int) : hasR (allP 35) r = hasR (rowsP.flatMap wholeP) r := by
  rw [Bool.eq_iff_iff, has_whole, hasR_iff]
  constructor
  · rintro ⟨y, hy, h1, h2⟩
    unfold allP at hy
    rcases List.mem_cons.1 hy with rfl | hy
    · exact ⟨_, lv_row, by simp [inRow]; exact ⟨h1, h2⟩⟩
    · obtain ⟨k, hk, hyk⟩ := List.mem_flatMap.1 hy
      have hk := List.mem_range.1 hk
      obtain ⟨x, hx, _, _, hr⟩ := (has_ref (c := k + 1) (by omega) r).1 ((hasR_iff _ _).2 ⟨y, hyk, h1, h2⟩)
      exact ⟨x, hx, hr⟩
  · rintro ⟨x, hx, hr⟩
    by_cases h14 : x.2.2 = 14
    · have hrow := List.all_eq_true.1 rows_ref x hx
      rw [if_pos h14] at hrow
      simp only [decide_eq_true_eq] at hrow
      subst hrow
      simp [inRow] at hr
      exact ⟨(44032, 55203), by unfold allP; exact List.mem_cons_self, hr.1, hr.2⟩
    · have hrow := List.all_eq_true.1 rows_ref x hx
      rw [if_neg h14] at hrow
      simp only [decide_eq_true_eq] at hrow
      simp [inRow] at hr
      refine ⟨(x.1, x.2.1), ?_, hr.1, hr.2⟩
      unfold allP
      refine List.mem_cons_of_mem _ (List.mem_flatMap.2 ⟨x.2.2 - 1, List.mem_range.2 (by omega), ?_⟩)
      rw [show x.2.2 - 1 + 1 = x.2.2 by omega]
      exact hrow.2.2.2
theorem has_syll {c : Int} (hc : c = 14 ∨ c = 15) (r : Int) : hasR (syllP c) r = true ↔ 44032 ≤ r ∧ r ≤ 55203 ∧ ((r - 44032) % 28 = 0 ↔ c = 14) := by
  rw [hasR_iff]
  constructor
  · rintro ⟨y, hy, h1, h2⟩
    obtain ⟨k, hk, rfl⟩ := List.mem_map.1 hy
    have hk := List.mem_range.1 hk
    unfold syl1 at h1 h2
    rcases hc with rfl | rfl
    · simp at h1 h2
      omega
    · rw [if_neg (by omega)] at h1 h2
      simp only at h1 h2
      omega
  · rintro ⟨h1, h2, h3⟩
    refine ⟨syl1 c ((r - 44032) / 28).toNat, List.mem_map.2 ⟨_, List.mem_range.2 (by omega), rfl⟩, ?_⟩
    have hq : ((((r - 44032) / 28).toNat : Nat) : Int) = (r - 44032) / 28 := by omega
    unfold syl1
    rcases hc with rfl | rfl
    · rw [if_pos rfl, hq]
      simp only [iff_true] at h3
      simp only
      omega
    · rw [if_neg (by omega), hq]
      simp only
      omega
/-- Each number of a row is of one class, and of that class's parts. -/
theorem has_part {c : Nat} (h0 : 0 < c) (r : Int) : hasR (rowsP.flatMap (partP c)) r = true ↔ ∃ x ∈ rowsP, inRow x r = true ∧ atRow x r = c := by
  rw [hasR_iff]
  have key : ∀ x ∈ rowsP, hasR (partP c x) r = true ↔ (inRow x r = true ∧ atRow x r = c) := by
    intro x hx
    have hrow := List.all_eq_true.1 rows_ref x hx
    by_cases h14 : x.2.2 = 14
    · rw [if_pos h14] at hrow
      simp only [decide_eq_true_eq] at hrow
      subst hrow
      unfold partP atRow
      by_cases hc : (c : Int) = 14 ∨ (c : Int) = 15
      · rw [if_pos ⟨rfl, hc⟩, has_syll hc]
        simp [inRow]
        rcases hc with hc | hc
        · obtain rfl : c = 14 := by omega
          by_cases hm : (r - 44032) % 28 = 0 <;> simp [hm, and_assoc]
        · obtain rfl : c = 15 := by omega
          by_cases hm : (r - 44032) % 28 = 0 <;> simp [hm, and_assoc]
      · have e1 : ¬ (((44032, 55203, 14) : Row).2.2 = 14 ∧ ((c : Int) = 14 ∨ (c : Int) = 15)) := fun h => hc h.2
        have e2 : ¬ ((((44032, 55203, 14) : Row).2.2 : Int) = (c : Int)) := by show ¬ ((14 : Int) = (c : Int)); omega
        rw [if_neg e1, if_neg e2]
        constructor
        · intro h; simp [hasR] at h
        · rintro ⟨_, h⟩
          exfalso
          split at h
          · exact hc (.inr (by omega))
          · exact hc (.inl (by have : (14 : Nat) = c := h; omega))
    · unfold partP atRow
      have e1 : ¬ (x.2.2 = 14 ∧ ((c : Int) = 14 ∨ (c : Int) = 15)) := fun h => h14 h.1
      have e2 : ¬ (x.2.2 = 14 ∧ (r - x.1) % 28 ≠ 0) := fun h => h14 h.1
      rw [if_neg e1, if_neg e2]
      by_cases hc : x.2.2 = c
      · rw [if_pos (show (x.2.2 : Int) = (c : Int) by omega)]
        simp [hasR, wholeP, inRow, hc]
      · rw [if_neg (show ¬ (x.2.2 : Int) = (c : Int) by omega)]
        constructor
        · intro h; simp [hasR] at h
        · rintro ⟨_, h⟩; exact absurd h hc
  constructor
  · rintro ⟨y, hy, h1, h2⟩
    obtain ⟨x, hx, hyx⟩ := List.mem_flatMap.1 hy
    exact ⟨x, hx, (key x hx).1 ((hasR_iff _ _).2 ⟨y, hyx, h1, h2⟩)⟩
  · rintro ⟨x, hx, h⟩
    obtain ⟨y, hy, h1, h2⟩ := (hasR_iff _ _).1 ((key x hx).2 h)
    exact ⟨y, List.mem_flatMap.2 ⟨x, hx, hy⟩, h1, h2⟩
/-- The class of a number, by the one row that has it. -/
theorem classR_row {x : Row} (hx : x ∈ rowsP) {r : Int} (hr : inRow x r = true) : classR r = atRow x r := by
  unfold classR
  have hF := find_row rows_rise r
  split
  · rename_i e
    rw [e] at hF
    have := hF x hx
    rw [hr] at this
    cases this
  · rename_i y e
    rw [e] at hF
    obtain ⟨rfl, h⟩ := (hF.2 x hx).1 hr
    rw [if_neg (by omega)]
theorem at_pos {x : Row} (hx : x ∈ rowsP) (r : Int) : 0 < atRow x r ∧ atRow x r < 36 := by
  have hrow := List.all_eq_true.1 rows_ref x hx
  unfold atRow
  by_cases h14 : x.2.2 = 14
  · split <;> omega
  · rw [if_neg h14] at hrow
    simp only [decide_eq_true_eq] at hrow
    rw [if_neg (by simp [h14])]
    omega
theorem classR_none {r : Int} (h : ∀ x ∈ rowsP, inRow x r = false) : classR r = 0 := by rw [class_eq, class_none h]
theorem classR_lt (r : Int) : classR r < 36 := by
  by_cases h : ∃ x ∈ rowsP, inRow x r = true
  · obtain ⟨x, hx, hr⟩ := h
    rw [classR_row hx hr]
    exact (at_pos hx r).2
  · rw [classR_none fun x hx => Bool.eq_false_iff.2 fun e => h ⟨x, hx, e⟩]
    omega
/-- A set of a class but Other has the numbers of that class. -/
theorem has_class {c : Nat} (h0 : 0 < c) (r : Int) : hasR (rowsP.flatMap (partP c)) r = true ↔ classR r = c := by
  rw [has_part h0]
  constructor
  · rintro ⟨x, hx, hr, h⟩
    rw [classR_row hx hr, h]
  · intro h
    by_cases hh : ∃ x ∈ rowsP, inRow x r = true
    · obtain ⟨x, hx, hr⟩ := hh
      exact ⟨x, hx, hr, by rw [← classR_row hx hr, h]⟩
    · rw [classR_none fun x hx => Bool.eq_false_iff.2 fun e => hh ⟨x, hx, e⟩] at h
      omega
/-- The numbers that no row has are of Other. -/
theorem has_other (r : Int) : hasR (rowsP.flatMap wholeP) r = true ↔ classR r ≠ 0 := by
  rw [has_whole]
  constructor
  · rintro ⟨x, hx, hr⟩
    rw [classR_row hx hr]
    have := (at_pos hx r).1
    omega
  · intro h
    apply Classical.byContradiction
    intro hh
    exact h (classR_none fun x hx => Bool.eq_false_iff.2 fun e => hh ⟨x, hx, e⟩)
end Go.Proofs.Ytphhdkffnboboaa
