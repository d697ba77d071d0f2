/-
  The classes as plain mathematics: the rows of prop, the lists of virguleref04; that they tell the same class of each number.
  The sets of the classes as plain mathematics: the parts of the rows, class by class; which numbers they have.
  The names of the classes. Contracts: prop.names, prop.Name, virguleref04.Name.
-/
import Derived.Test.YtphhdkffnboboaaPaa
import Derived.Lib.QuietBelow
import Derived.Great.Walk
import Derived.Laws.Rows
import Derived.Laws.Tables
namespace Go.Proofs.Ytphhdkffnboboaa

abbrev Row := Int × Int × Nat
def rowsP : List Row := [(0, 8, 4), (9, 9, 29), (10, 10, 2), (11, 12, 3), (13, 13, 1), (14, 31, 4), (32, 32, 29), (33, 33, 30), (34, 34, 27), (39, 39, 26), (40, 40, 31), (41, 41, 32), (44, 44, 24), (45, 45, 33), (46, 46, 25), (48, 57, 22), (58, 58, 23), (59, 59, 24), (63, 63, 30), (65, 90, 17), (91, 91, 31), (93, 93, 32), (95, 95, 28), (97, 122, 18), (123, 123, 31), (125, 125, 32), (127, 132, 4), (133, 133, 3), (134, 159, 4), (160, 160, 34), (169, 169, 16), (170, 170, 18), (171, 171, 31), (173, 173, 7), (174, 174, 16), (181, 181, 18), (183, 183, 23), (186, 186, 18), (187, 187, 32), (192, 214, 17), (216, 222, 17), (223, 246, 18), (248, 255, 18), (768, 879, 5), (913, 929, 17), (931, 939, 17), (940, 974, 18), (1024, 1071, 17), (1072, 1119, 18), (1155, 1161, 5), (1425, 1469, 5), (1488, 1514, 19), (1536, 1541, 9), (1568, 1610, 19), (1611, 1631, 5), (1632, 1641, 22), (1757, 1757, 9), (2307, 2307, 10), (2308, 2361, 19), (2364, 2364, 5), (2366, 2368, 10), (2369, 2376, 5), (2377, 2380, 10), (2381, 2381, 5), (2404, 2405, 30), (2406, 2415, 22), (4352, 4447, 11), (4448, 4519, 12), (4520, 4607, 13), (5760, 5760, 29), (8192, 8198, 29), (8199, 8199, 34), (8200, 8202, 29), (8203, 8203, 35), (8204, 8204, 5), (8205, 8205, 6), (8206, 8207, 7), (8208, 8208, 33), (8209, 8209, 34), (8211, 8212, 33), (8216, 8216, 27), (8217, 8217, 26), (8220, 8221, 27), (8228, 8228, 25), (8232, 8233, 3), (8234, 8238, 7), (8239, 8239, 34), (8252, 8253, 30), (8255, 8256, 28), (8260, 8260, 24), (8287, 8287, 29), (8288, 8292, 7), (8400, 8432, 5), (8986, 8987, 16), (9193, 9203, 16), (9728, 10175, 16), (12288, 12288, 29), (12289, 12289, 32), (12290, 12290, 30), (12296, 12296, 31), (12297, 12297, 32), (12298, 12298, 31), (12299, 12299, 32), (12300, 12300, 31), (12301, 12301, 32), (12330, 12335, 5), (12353, 12438, 21), (12441, 12442, 5), (12449, 12538, 20), (12540, 12543, 20), (12784, 12799, 20), (13312, 19903, 21), (19968, 40959, 21), (43360, 43388, 11), (44032, 55203, 14), (55216, 55238, 12), (55243, 55291, 13), (63744, 64255, 21), (65024, 65039, 5), (65056, 65071, 5), (65279, 65279, 7), (65281, 65281, 30), (65288, 65288, 31), (65289, 65289, 32), (65292, 65292, 32), (65294, 65294, 25), (65296, 65305, 22), (65311, 65311, 30), (65313, 65338, 17), (65345, 65370, 18), (65382, 65437, 20), (127462, 127487, 8), (127744, 127994, 16), (127995, 127999, 5), (128000, 128591, 16), (128640, 128767, 16), (129280, 129535, 16), (131072, 196605, 21), (917536, 917631, 5), (917760, 917999, 5)]
def refList : Nat → List Rng
  | 1 => [(13, 13)]
  | 2 => [(10, 10)]
  | 3 => [(11, 12), (133, 133), (8232, 8233)]
  | 4 => [(0, 8), (14, 31), (127, 132), (134, 159)]
  | 5 => [(768, 879), (1155, 1161), (1425, 1469), (1611, 1631), (2364, 2364), (2369, 2376), (2381, 2381), (8204, 8204), (8400, 8432), (12330, 12335), (12441, 12442), (65024, 65039), (65056, 65071), (127995, 127999), (917536, 917631), (917760, 917999)]
  | 6 => [(8205, 8205)]
  | 7 => [(173, 173), (8206, 8207), (8234, 8238), (8288, 8292), (65279, 65279)]
  | 8 => [(127462, 127487)]
  | 9 => [(1536, 1541), (1757, 1757)]
  | 10 => [(2307, 2307), (2366, 2368), (2377, 2380)]
  | 11 => [(4352, 4447), (43360, 43388)]
  | 12 => [(4448, 4519), (55216, 55238)]
  | 13 => [(4520, 4607), (55243, 55291)]
  | 16 => [(169, 169), (174, 174), (8986, 8987), (9193, 9203), (9728, 10175), (127744, 127994), (128000, 128591), (128640, 128767), (129280, 129535)]
  | 17 => [(65, 90), (192, 214), (216, 222), (913, 929), (931, 939), (1024, 1071), (65313, 65338)]
  | 18 => [(97, 122), (170, 170), (181, 181), (186, 186), (223, 246), (248, 255), (940, 974), (1072, 1119), (65345, 65370)]
  | 19 => [(1488, 1514), (1568, 1610), (2308, 2361)]
  | 20 => [(12449, 12538), (12540, 12543), (12784, 12799), (65382, 65437)]
  | 21 => [(12353, 12438), (13312, 19903), (19968, 40959), (63744, 64255), (131072, 196605)]
  | 22 => [(48, 57), (1632, 1641), (2406, 2415), (65296, 65305)]
  | 23 => [(58, 58), (183, 183)]
  | 24 => [(44, 44), (59, 59), (8260, 8260)]
  | 25 => [(46, 46), (8228, 8228), (65294, 65294)]
  | 26 => [(39, 39), (8217, 8217)]
  | 27 => [(34, 34), (8216, 8216), (8220, 8221)]
  | 28 => [(95, 95), (8255, 8256)]
  | 29 => [(9, 9), (32, 32), (5760, 5760), (8192, 8198), (8200, 8202), (8287, 8287), (12288, 12288)]
  | 30 => [(33, 33), (63, 63), (2404, 2405), (8252, 8253), (12290, 12290), (65281, 65281), (65311, 65311)]
  | 31 => [(40, 40), (91, 91), (123, 123), (171, 171), (12296, 12296), (12298, 12298), (12300, 12300), (65288, 65288)]
  | 32 => [(41, 41), (93, 93), (125, 125), (187, 187), (12289, 12289), (12297, 12297), (12299, 12299), (12301, 12301), (65289, 65289), (65292, 65292)]
  | 33 => [(45, 45), (8208, 8208), (8211, 8212)]
  | 34 => [(160, 160), (8199, 8199), (8209, 8209), (8239, 8239)]
  | 35 => [(8203, 8203)]
  | _ => []
def inRow (x : Row) (r : Int) : Bool := decide (x.1 ≤ r) && decide (r ≤ x.2.1)
def atRow (x : Row) (r : Int) : Nat := if x.2.2 = 14 ∧ (r - x.1) % 28 ≠ 0 then 15 else x.2.2
/-- The class as prop finds it: the first row that ends no sooner. -/
def classR (r : Int) : Nat := match rowsP.find? (fun x => decide (r ≤ x.2.1)) with | none => 0 | some x => if r < x.1 then 0 else atRow x r
/-- The class as the document's answer finds it. -/
def classF (r : Int) : Nat := if 44032 ≤ r ∧ r ≤ 55203 then (if (r - 44032) % 28 = 0 then 14 else 15) else ((List.range 36).find? fun c => hasR (refList c) r).getD 0

/-- Rows rise. -/
def rises : Int → List Row → Bool
  | _, [] => true
  | b, x :: xs => decide (b < x.1) && decide (x.1 ≤ x.2.1) && rises x.2.1 xs
theorem rows_rise : rises (-1) rowsP = true := by decide +kernel
theorem rises_gt {b : Int} {l : List Row} (h : rises b l = true) : ∀ x ∈ l, b < x.1 ∧ x.1 ≤ x.2.1 := by
  induction l generalizing b with
  | nil => simp
  | cons y ys ih =>
    simp [rises] at h
    intro x hx
    rcases List.mem_cons.1 hx with rfl | hx
    · exact h.1
    · have := ih h.2 x hx
      omega
/-- The first row that ends no sooner than a number is the only one that may have it. -/
theorem find_row {b : Int} {l : List Row} (h : rises b l = true) (r : Int) : match l.find? (fun x => decide (r ≤ x.2.1)) with
    | none => ∀ x ∈ l, inRow x r = false
    | some y => y ∈ l ∧ ∀ x ∈ l, inRow x r = true ↔ (x = y ∧ y.1 ≤ r) := by
  induction l generalizing b with
  | nil => simp
  | cons y ys ih =>
    simp only [rises, Bool.and_eq_true, decide_eq_true_eq] at h
    obtain ⟨⟨h1, h2⟩, h3⟩ := h
    have hgt := rises_gt h3
    rw [List.find?_cons]
    by_cases c : r ≤ y.2.1
    · simp only [c, decide_true]
      refine ⟨List.mem_cons_self, fun x hx => ?_⟩
      rcases List.mem_cons.1 hx with rfl | hx
      · simp [inRow, c]
      · have := hgt x hx
        constructor
        · intro e; simp [inRow] at e; omega
        · rintro ⟨rfl, _⟩; omega
    · simp only [c, decide_false]
      have := ih h3
      split
      · rename_i e
        rw [e] at this
        intro x hx
        rcases List.mem_cons.1 hx with rfl | hx
        · simp [inRow, c]
        · exact this x hx
      · rename_i z e
        rw [e] at this
        refine ⟨List.mem_cons_of_mem _ this.1, fun x hx => ?_⟩
        rcases List.mem_cons.1 hx with rfl | hx
        · constructor
          · intro e; simp [inRow, c] at e
          · rintro ⟨rfl, _⟩
            have hz := List.find?_some e
            simp at hz
            omega
        · exact this.2 x hx
theorem ref_rows : ((List.range 36).all fun c => (refList c).all fun y => decide ((y.1, y.2, c) ∈ rowsP)) = true := by decide +kernel
theorem rows_ref : (rowsP.all fun x => if x.2.2 = 14 then decide (x = (44032, 55203, 14)) else decide (0 < x.2.2 ∧ x.2.2 < 36 ∧ x.2.2 ≠ 15 ∧ (x.1, x.2.1) ∈ refList x.2.2)) = true := by decide +kernel
theorem lv_row : ((44032, 55203, 14) : Row) ∈ rowsP := by decide +kernel
theorem ref_1415 : refList 14 = [] ∧ refList 15 = [] ∧ refList 0 = [] := ⟨rfl, rfl, rfl⟩
/-- Which lists a number is in. -/
theorem has_ref {c : Nat} (hc : c < 36) (r : Int) : hasR (refList c) r = true ↔ ∃ x ∈ rowsP, x.2.2 = c ∧ c ≠ 14 ∧ inRow x r = true := by
  constructor
  · intro h
    obtain ⟨y, hy, h1, h2⟩ := (hasR_iff _ _).1 h
    have := List.all_eq_true.1 (List.all_eq_true.1 ref_rows c (List.mem_range.2 hc)) y hy
    simp only [decide_eq_true_eq] at this
    refine ⟨_, this, rfl, ?_, by simp [inRow, h1, h2]⟩
    rintro rfl
    rw [ref_1415.1] at hy
    simp at hy
  · rintro ⟨x, hx, rfl, h14, hr⟩
    have := List.all_eq_true.1 rows_ref x hx
    rw [if_neg h14] at this
    simp only [decide_eq_true_eq] at this
    simp [inRow] at hr
    exact (hasR_iff _ _).2 ⟨_, this.2.2.2, hr.1, hr.2⟩
theorem class_of_row {x : Row} {r : Int} (hx : x ∈ rowsP) (hr : inRow x r = true) (h14 : x.2.2 ≠ 14) : ((List.range 36).find? fun c => hasR (refList c) r) = some x.2.2 := by
  have hrow := List.all_eq_true.1 rows_ref x hx
  rw [if_neg h14] at hrow
  simp only [decide_eq_true_eq] at hrow
  have hF := find_row rows_rise r
  have hone : ∀ c, c < 36 → hasR (refList c) r = true → c = x.2.2 := by
    intro c hc h
    obtain ⟨y, hy, rfl, _, hyr⟩ := (has_ref hc r).1 h
    split at hF
    · have := hF x hx; rw [hr] at this; cases this
    · rw [((hF.2 y hy).1 hyr).1, ((hF.2 x hx).1 hr).1]
  have hhas := (has_ref hrow.2.1 r).2 ⟨x, hx, rfl, h14, hr⟩
  cases e : (List.range 36).find? fun c => hasR (refList c) r with
  | none =>
    have := List.find?_eq_none.1 e x.2.2 (List.mem_range.2 hrow.2.1)
    exact absurd hhas this
  | some c =>
    have h1 := List.find?_some e
    have h2 := List.mem_range.1 (List.mem_of_find?_eq_some e)
    rw [hone c h2 h1]
theorem class_none {r : Int} (h : ∀ x ∈ rowsP, inRow x r = false) : classF r = 0 := by
  unfold classF
  have hl := h _ lv_row
  simp [inRow] at hl
  rw [if_neg (by omega)]
  have : ((List.range 36).find? fun c => hasR (refList c) r) = none := by
    rw [List.find?_eq_none]
    intro c hc e
    obtain ⟨x, hx, _, _, hr⟩ := (has_ref (List.mem_range.1 hc) r).1 e
    rw [h x hx] at hr
    cases hr
  rw [this]
  rfl
theorem class_eq (r : Int) : classR r = classF r := by
  unfold classR
  have hF := find_row rows_rise r
  split
  · rename_i e
    rw [e] at hF
    exact (class_none hF).symm
  · rename_i x e
    rw [e] at hF
    obtain ⟨hx, hall⟩ := hF
    by_cases c : r < x.1
    · rw [if_pos c]
      refine (class_none fun y hy => ?_).symm
      rw [Bool.eq_false_iff]
      intro h
      have := (hall y hy).1 h
      omega
    · rw [if_neg c]
      have hr : inRow x r = true := (hall x hx).2 ⟨rfl, by omega⟩
      have hrow := List.all_eq_true.1 rows_ref x hx
      unfold classF atRow
      by_cases h14 : x.2.2 = 14
      · rw [if_pos h14] at hrow
        simp only [decide_eq_true_eq] at hrow
        subst hrow
        simp [inRow] at hr
        rw [if_pos hr]
        by_cases h0 : (r - 44032) % 28 = 0 <;> simp [h0]
      · have hl : ¬ (44032 ≤ r ∧ r ≤ 55203) := by
          intro hh
          have h1 := (hall _ lv_row).1 (by simp [inRow, hh.1, hh.2])
          rw [← h1.1] at h14
          exact h14 rfl
        rw [if_neg hl, class_of_row hx hr h14, if_neg (by simp [h14])]
        rfl
end Go.Proofs.Ytphhdkffnboboaa

namespace Go.Proofs.Ytphhdkffnboboaa

/-- The numbers of LV, and of LVT, as ranges. -/
def syl1 (c : Int) (k : Nat) : Rng := if c = 14 then (44032 + 28 * (k : Int), 44032 + 28 * (k : Int)) else (44032 + 28 * (k : Int) + 1, 44032 + 28 * (k : Int) + 27)
def syllP (c : Int) : List Rng := (List.range 399).map (syl1 c)
def wholeP (x : Row) : List Rng := [(x.1, x.2.1)]
def partP (c : Int) (x : Row) : List Rng := if x.2.2 = 14 ∧ (c = 14 ∨ c = 15) then syllP c else if (x.2.2 : Int) = c then wholeP x else []
/-- What virguleref04.Set answers, but of Other. -/
def refS (c : Nat) : List Rng := if c = 14 ∨ c = 15 then syllP c else refList c
def allP (n : Nat) : List Rng := (44032, 55203) :: (List.range n).flatMap fun k => refList (k + 1)

theorem part_ref : ((List.range 36).all fun c => c == 0 || (rowsP.flatMap (partP c) == refS c && right (refS c))) = true := by decide +kernel
theorem part_right {c : Nat} (h0 : 0 < c) (h : c < 36) : rowsP.flatMap (partP c) = refS c ∧ right (refS c) = true := by
  have := List.all_eq_true.1 part_ref c (List.mem_range.2 h)
  simp only [Bool.or_eq_true, Bool.and_eq_true, beq_iff_eq] at this
  rcases this with h1 | h1
  · omega
  · exact h1
theorem part_out {c : Int} (h : c < 0 ∨ 35 < c) : rowsP.flatMap (partP c) = [] := by
  rw [List.flatMap_eq_nil_iff]
  intro x hx
  have hr := List.all_eq_true.1 rows_ref x hx
  unfold partP
  rw [if_neg (by omega), if_neg]
  by_cases h14 : x.2.2 = 14
  · omega
  · rw [if_neg h14] at hr
    simp only [decide_eq_true_eq] at hr
    omega
theorem whole_len : (rowsP.flatMap wholeP).length = 140 := by decide +kernel
theorem whole_may : ((rowsP.flatMap wholeP).all may) = true := by decide +kernel
theorem all_len : (allP 35).length ≤ 200 := by decide +kernel
theorem all_may : ((allP 35).all may) = true := by decide +kernel
theorem part_len {c : Nat} (h0 : 0 < c) (h : c < 36) : (rowsP.flatMap (partP c)).length ≤ 1000 := by
  have : ((List.range 36).all fun c => decide ((refS c).length ≤ 1000)) = true := by decide +kernel
  have := List.all_eq_true.1 this c (List.mem_range.2 h)
  rw [(part_right h0 h).1]
  simpa using this

theorem has_whole (r : Int) : hasR (rowsP.flatMap wholeP) r = true ↔ ∃ x ∈ rowsP, inRow x r = true := by
  rw [hasR_iff]
  constructor
  · rintro ⟨y, hy, h1, h2⟩
    obtain ⟨x, hx, hyx⟩ := List.mem_flatMap.1 hy
    simp [wholeP] at hyx
    subst hyx
    exact ⟨x, hx, by simp [inRow]; exact ⟨h1, h2⟩⟩
  · rintro ⟨x, hx, hr⟩
    simp [inRow] at hr
    exact ⟨(x.1, x.2.1), List.mem_flatMap.2 ⟨x, hx, by simp [wholeP]⟩, hr.1, hr.2⟩
/-- Both lists of all numbers that are of a class but Other have the same numbers. -/
theorem has_all (r : Int) : hasR (allP 35) r = hasR (rowsP.flatMap wholeP) r := by
  rw [Bool.eq_iff_iff, has_whole, hasR_iff]
  constructor
  · rintro ⟨y, hy, h1, h2⟩
    unfold allP at hy
    rcases List.mem_cons.1 hy with rfl | hy
    · exact ⟨_, lv_row, by simp [inRow]; exact ⟨h1, h2⟩⟩
    · obtain ⟨k, hk, hyk⟩ := List.mem_flatMap.1 hy
      have hk := List.mem_range.1 hk
      obtain ⟨x, hx, _, _, hr⟩ := (has_ref (c := k + 1) (by omega) r).1 ((hasR_iff _ _).2 ⟨y, hyk, h1, h2⟩)
      exact ⟨x, hx, hr⟩
  · rintro ⟨x, hx, hr⟩
    by_cases h14 : x.2.2 = 14
    · have hrow := List.all_eq_true.1 rows_ref x hx
      rw [if_pos h14] at hrow
      simp only [decide_eq_true_eq] at hrow
      subst hrow
      simp [inRow] at hr
      exact ⟨(44032, 55203), by unfold allP; exact List.mem_cons_self, hr.1, hr.2⟩
    · have hrow := List.all_eq_true.1 rows_ref x hx
      rw [if_neg h14] at hrow
      simp only [decide_eq_true_eq] at hrow
      simp [inRow] at hr
      refine ⟨(x.1, x.2.1), ?_, hr.1, hr.2⟩
      unfold allP
      refine List.mem_cons_of_mem _ (List.mem_flatMap.2 ⟨x.2.2 - 1, List.mem_range.2 (by omega), ?_⟩)
      rw [show x.2.2 - 1 + 1 = x.2.2 by omega]
      exact hrow.2.2.2
theorem has_syll {c : Int} (hc : c = 14 ∨ c = 15) (r : Int) : hasR (syllP c) r = true ↔ 44032 ≤ r ∧ r ≤ 55203 ∧ ((r - 44032) % 28 = 0 ↔ c = 14) := by
  rw [hasR_iff]
  constructor
  · rintro ⟨y, hy, h1, h2⟩
    obtain ⟨k, hk, rfl⟩ := List.mem_map.1 hy
    have hk := List.mem_range.1 hk
    unfold syl1 at h1 h2
    rcases hc with rfl | rfl
    · simp at h1 h2
      omega
    · rw [if_neg (by omega)] at h1 h2
      simp only at h1 h2
      omega
  · rintro ⟨h1, h2, h3⟩
    refine ⟨syl1 c ((r - 44032) / 28).toNat, List.mem_map.2 ⟨_, List.mem_range.2 (by omega), rfl⟩, ?_⟩
    have hq : ((((r - 44032) / 28).toNat : Nat) : Int) = (r - 44032) / 28 := by omega
    unfold syl1
    rcases hc with rfl | rfl
    · rw [if_pos rfl, hq]
      simp only [iff_true] at h3
      simp only
      omega
    · rw [if_neg (by omega), hq]
      simp only
      omega
/-- Each number of a row is of one class, and of that class's parts. -/
theorem has_part {c : Nat} (h0 : 0 < c) (r : Int) : hasR (rowsP.flatMap (partP c)) r = true ↔ ∃ x ∈ rowsP, inRow x r = true ∧ atRow x r = c := by
  rw [hasR_iff]
  have key : ∀ x ∈ rowsP, hasR (partP c x) r = true ↔ (inRow x r = true ∧ atRow x r = c) := by
    intro x hx
    have hrow := List.all_eq_true.1 rows_ref x hx
    by_cases h14 : x.2.2 = 14
    · rw [if_pos h14] at hrow
      simp only [decide_eq_true_eq] at hrow
      subst hrow
      unfold partP atRow
      by_cases hc : (c : Int) = 14 ∨ (c : Int) = 15
      · rw [if_pos ⟨rfl, hc⟩, has_syll hc]
        simp [inRow]
        rcases hc with hc | hc
        · obtain rfl : c = 14 := by omega
          by_cases hm : (r - 44032) % 28 = 0 <;> simp [hm]
        · obtain rfl : c = 15 := by omega
          by_cases hm : (r - 44032) % 28 = 0 <;> simp [hm]
      · have e1 : ¬ (((44032, 55203, 14) : Row).2.2 = 14 ∧ ((c : Int) = 14 ∨ (c : Int) = 15)) := fun h => hc h.2
        have e2 : ¬ ((((44032, 55203, 14) : Row).2.2 : Int) = (c : Int)) := by show ¬ ((14 : Int) = (c : Int)); omega
        rw [if_neg e1, if_neg e2]
        constructor
        · intro h; simp [hasR] at h
        · rintro ⟨_, h⟩
          exfalso
          split at h
          · exact hc (.inr (by omega))
          · exact hc (.inl (by have : (14 : Nat) = c := h; omega))
    · unfold partP atRow
      have e1 : ¬ (x.2.2 = 14 ∧ ((c : Int) = 14 ∨ (c : Int) = 15)) := fun h => h14 h.1
      have e2 : ¬ (x.2.2 = 14 ∧ (r - x.1) % 28 ≠ 0) := fun h => h14 h.1
      rw [if_neg e1, if_neg e2]
      by_cases hc : x.2.2 = c
      · rw [if_pos (show (x.2.2 : Int) = (c : Int) by omega)]
        simp [hasR, wholeP, inRow, hc]
      · rw [if_neg (show ¬ (x.2.2 : Int) = (c : Int) by omega)]
        constructor
        · intro h; simp [hasR] at h
        · rintro ⟨_, h⟩; exact absurd h hc
  constructor
  · rintro ⟨y, hy, h1, h2⟩
    obtain ⟨x, hx, hyx⟩ := List.mem_flatMap.1 hy
    exact ⟨x, hx, (key x hx).1 ((hasR_iff _ _).2 ⟨y, hyx, h1, h2⟩)⟩
  · rintro ⟨x, hx, h⟩
    obtain ⟨y, hy, h1, h2⟩ := (hasR_iff _ _).1 ((key x hx).2 h)
    exact ⟨y, List.mem_flatMap.2 ⟨x, hx, hy⟩, h1, h2⟩
/-- The class of a number, by the one row that has it. -/
theorem classR_row {x : Row} (hx : x ∈ rowsP) {r : Int} (hr : inRow x r = true) : classR r = atRow x r := by
  unfold classR
  have hF := find_row rows_rise r
  split
  · rename_i e
    rw [e] at hF
    have := hF x hx
    rw [hr] at this
    cases this
  · rename_i y e
    rw [e] at hF
    obtain ⟨rfl, h⟩ := (hF.2 x hx).1 hr
    rw [if_neg (by omega)]
theorem at_pos {x : Row} (hx : x ∈ rowsP) (r : Int) : 0 < atRow x r ∧ atRow x r < 36 := by
  have hrow := List.all_eq_true.1 rows_ref x hx
  unfold atRow
  by_cases h14 : x.2.2 = 14
  · split <;> omega
  · rw [if_neg h14] at hrow
    simp only [decide_eq_true_eq] at hrow
    rw [if_neg (by simp [h14])]
    omega
theorem classR_none {r : Int} (h : ∀ x ∈ rowsP, inRow x r = false) : classR r = 0 := by rw [class_eq, class_none h]
theorem classR_lt (r : Int) : classR r < 36 := by
  by_cases h : ∃ x ∈ rowsP, inRow x r = true
  · obtain ⟨x, hx, hr⟩ := h
    rw [classR_row hx hr]
    exact (at_pos hx r).2
  · rw [classR_none fun x hx => Bool.eq_false_iff.2 fun e => h ⟨x, hx, e⟩]
    omega
/-- A set of a class but Other has the numbers of that class. -/
theorem has_class {c : Nat} (h0 : 0 < c) (r : Int) : hasR (rowsP.flatMap (partP c)) r = true ↔ classR r = c := by
  rw [has_part h0]
  constructor
  · rintro ⟨x, hx, hr, h⟩
    rw [classR_row hx hr, h]
  · intro h
    by_cases hh : ∃ x ∈ rowsP, inRow x r = true
    · obtain ⟨x, hx, hr⟩ := hh
      exact ⟨x, hx, hr, by rw [← classR_row hx hr, h]⟩
    · rw [classR_none fun x hx => Bool.eq_false_iff.2 fun e => hh ⟨x, hx, e⟩] at h
      omega
/-- The numbers that no row has are of Other. -/
theorem has_other (r : Int) : hasR (rowsP.flatMap wholeP) r = true ↔ classR r ≠ 0 := by
  rw [has_whole]
  constructor
  · rintro ⟨x, hx, hr⟩
    rw [classR_row hx hr]
    have := (at_pos hx r).1
    omega
  · intro h
    apply Classical.byContradiction
    intro hh
    exact h (classR_none fun x hx => Bool.eq_false_iff.2 fun e => hh ⟨x, hx, e⟩)
end Go.Proofs.Ytphhdkffnboboaa

namespace Go.Proofs.Ytphhdkffnboboaa
open Go.RowKit Go.Shelf
open Go.Lib Go.Great

def nms : List ByteArray := [{ data := #[79, 116, 104, 101, 114] }, { data := #[67, 82] }, { data := #[76, 70] }, { data := #[78, 101, 119, 108, 105, 110, 101] }, { data := #[67, 111, 110, 116, 114, 111, 108] }, { data := #[69, 120, 116, 101, 110, 100] }, { data := #[90, 87, 74] }, { data := #[70, 111, 114, 109, 97, 116] }, { data := #[82, 101, 103, 105, 111, 110, 97, 108] }, { data := #[80, 114, 101, 112, 101, 110, 100] }, { data := #[83, 112, 97, 99, 105, 110, 103] }, { data := #[76] }, { data := #[86] }, { data := #[84] }, { data := #[76, 86] }, { data := #[76, 86, 84] }, { data := #[80, 105, 99, 116] }, { data := #[85, 112, 112, 101, 114] }, { data := #[76, 111, 119, 101, 114] }, { data := #[76, 101, 116, 116, 101, 114] }, { data := #[75, 97, 116, 97, 107, 97, 110, 97] }, { data := #[73, 100, 101, 111, 103, 114, 97, 112, 104] }, { data := #[68, 105, 103, 105, 116] }, { data := #[77, 105, 100, 76, 101, 116, 116, 101, 114] }, { data := #[77, 105, 100, 78, 117, 109] }, { data := #[68, 111, 116] }, { data := #[65, 112, 111, 115, 116, 114, 111, 112, 104, 101] }, { data := #[81, 117, 111, 116, 101] }, { data := #[74, 111, 105, 110, 101, 114] }, { data := #[83, 112, 97, 99, 101] }, { data := #[84, 101, 114, 109] }, { data := #[79, 112, 101, 110] }, { data := #[67, 108, 111, 115, 101] }, { data := #[72, 121, 112, 104, 101, 110] }, { data := #[71, 108, 117, 101] }, { data := #[71, 97, 112] }]
def NM : Array Value := (nms.map Value.string).toArray
def ZNM : Array Value := Array.replicate 36 (.string { data := #[] })

theorem below_setRow {B : Nat} {w w1 : World} (h : Below B w w1) {g : Nat} (hg : B ≤ g) (cs : Array Value) : Below B w (w1.setRow g cs) :=
  h.trans ⟨rfl, rfl, rfl, by simp, fun k hk => setRow_other _ _ _ _ (by omega)⟩
attribute [local irreducible] wpList Code.wp NM ZNM

set_option maxHeartbeats 1000000 in
set_option maxRecDepth 100000 in
theorem names_any (w : World) : Calls Try.prog 60 #[] w fun e w' => e = .returned (.agg NM) ∧ Below w.heap.size w w' := by
  refine calls_of_wp Try.func60 rfl ?_
  refine wp_anyFrame 2 (by as_aux_lemma => kernel_rfl) rfl fun a0 hs hd => ?_
  apply wp_seq_k; intro K hK
  apply wp_region_lit
  refine wpList_allocTo rfl (some 0) rfl (.pointer (some ⟨w.heap.size, 0, none⟩)) (.cells ZNM 101) (by as_aux_lemma => kernel_rfl) ?_
  apply wpList_nil
  refine hK _ _ ?_
  clear hK K
  apply wp_seq_k; intro K hK
  apply wp_region_lit
  refine wpList_readTo rfl (some 1) rfl (.agg NM) (by as_aux_lemma => kernel_rfl) ?_
  have h0 : ((a0.put (some 0) (.pointer (some ⟨w.heap.size, 0, none⟩))).put (some 1) (.agg NM)).eval (.tmp 0) = .pointer (some ⟨w.heap.size, 0, none⟩) := by
    rw [Act.eval_put_ne _ _ _ _ (by decide), Act.eval_put_same _ _ _ (by omega)]
  have h1 : ((a0.put (some 0) (.pointer (some ⟨w.heap.size, 0, none⟩))).put (some 1) (.agg NM)).eval (.tmp 1) = .agg NM := by
    rw [Act.eval_put_same _ _ _ (by simp only [Act.size_put]; omega)]
  have hz := heap_alloc_new w (.cells ZNM 101)
  refine wpList_store_row rfl 101 _ _ rfl w.heap.size NM h0 h1 101 ZNM hz (by as_aux_lemma => kernel_rfl) (by as_aux_lemma => kernel_rfl) (by as_aux_lemma => kernel_rfl) ?_
  apply wpList_nil
  refine hK _ _ ?_
  clear hK K
  refine wp_ret ?_
  refine bodyPost_ret (v := .agg NM) (results_cell_row rfl _ _ w.heap.size 101 NM (0, 0) (.array 36 9) h0 ?_ (by as_aux_lemma => kernel_rfl) rfl (by as_aux_lemma => kernel_rfl)) hd ⟨rfl, ?_⟩
  · exact setRow_heap _ _ _ _ _ _ hz
  · exact below_setRow (below_new w _) (Nat.le_refl _) _

/-- The name of a class. -/
def nmOf (c : Int) : ByteArray := if 0 ≤ c ∧ c < 36 then nms.getD c.toNat { data := #[] } else { data := #[] }
theorem nm_index_0 (w : World) : (Instr.index 101 (.agg NM) (.int .i64 ((0 : Nat) : Int))).run Try.prog w = .ok (.string (nmOf ((0 : Nat) : Int))) w := by kernel_rfl
theorem nm_index_1 (w : World) : (Instr.index 101 (.agg NM) (.int .i64 ((1 : Nat) : Int))).run Try.prog w = .ok (.string (nmOf ((1 : Nat) : Int))) w := by kernel_rfl
theorem nm_index_2 (w : World) : (Instr.index 101 (.agg NM) (.int .i64 ((2 : Nat) : Int))).run Try.prog w = .ok (.string (nmOf ((2 : Nat) : Int))) w := by kernel_rfl
theorem nm_index_3 (w : World) : (Instr.index 101 (.agg NM) (.int .i64 ((3 : Nat) : Int))).run Try.prog w = .ok (.string (nmOf ((3 : Nat) : Int))) w := by kernel_rfl
theorem nm_index_4 (w : World) : (Instr.index 101 (.agg NM) (.int .i64 ((4 : Nat) : Int))).run Try.prog w = .ok (.string (nmOf ((4 : Nat) : Int))) w := by kernel_rfl
theorem nm_index_5 (w : World) : (Instr.index 101 (.agg NM) (.int .i64 ((5 : Nat) : Int))).run Try.prog w = .ok (.string (nmOf ((5 : Nat) : Int))) w := by kernel_rfl
theorem nm_index_6 (w : World) : (Instr.index 101 (.agg NM) (.int .i64 ((6 : Nat) : Int))).run Try.prog w = .ok (.string (nmOf ((6 : Nat) : Int))) w := by kernel_rfl
theorem nm_index_7 (w : World) : (Instr.index 101 (.agg NM) (.int .i64 ((7 : Nat) : Int))).run Try.prog w = .ok (.string (nmOf ((7 : Nat) : Int))) w := by kernel_rfl
theorem nm_index_8 (w : World) : (Instr.index 101 (.agg NM) (.int .i64 ((8 : Nat) : Int))).run Try.prog w = .ok (.string (nmOf ((8 : Nat) : Int))) w := by kernel_rfl
theorem nm_index_9 (w : World) : (Instr.index 101 (.agg NM) (.int .i64 ((9 : Nat) : Int))).run Try.prog w = .ok (.string (nmOf ((9 : Nat) : Int))) w := by kernel_rfl
theorem nm_index_10 (w : World) : (Instr.index 101 (.agg NM) (.int .i64 ((10 : Nat) : Int))).run Try.prog w = .ok (.string (nmOf ((10 : Nat) : Int))) w := by kernel_rfl
theorem nm_index_11 (w : World) : (Instr.index 101 (.agg NM) (.int .i64 ((11 : Nat) : Int))).run Try.prog w = .ok (.string (nmOf ((11 : Nat) : Int))) w := by kernel_rfl
theorem nm_index_12 (w : World) : (Instr.index 101 (.agg NM) (.int .i64 ((12 : Nat) : Int))).run Try.prog w = .ok (.string (nmOf ((12 : Nat) : Int))) w := by kernel_rfl
theorem nm_index_13 (w : World) : (Instr.index 101 (.agg NM) (.int .i64 ((13 : Nat) : Int))).run Try.prog w = .ok (.string (nmOf ((13 : Nat) : Int))) w := by kernel_rfl
theorem nm_index_14 (w : World) : (Instr.index 101 (.agg NM) (.int .i64 ((14 : Nat) : Int))).run Try.prog w = .ok (.string (nmOf ((14 : Nat) : Int))) w := by kernel_rfl
theorem nm_index_15 (w : World) : (Instr.index 101 (.agg NM) (.int .i64 ((15 : Nat) : Int))).run Try.prog w = .ok (.string (nmOf ((15 : Nat) : Int))) w := by kernel_rfl
theorem nm_index_16 (w : World) : (Instr.index 101 (.agg NM) (.int .i64 ((16 : Nat) : Int))).run Try.prog w = .ok (.string (nmOf ((16 : Nat) : Int))) w := by kernel_rfl
theorem nm_index_17 (w : World) : (Instr.index 101 (.agg NM) (.int .i64 ((17 : Nat) : Int))).run Try.prog w = .ok (.string (nmOf ((17 : Nat) : Int))) w := by kernel_rfl
theorem nm_index_18 (w : World) : (Instr.index 101 (.agg NM) (.int .i64 ((18 : Nat) : Int))).run Try.prog w = .ok (.string (nmOf ((18 : Nat) : Int))) w := by kernel_rfl
theorem nm_index_19 (w : World) : (Instr.index 101 (.agg NM) (.int .i64 ((19 : Nat) : Int))).run Try.prog w = .ok (.string (nmOf ((19 : Nat) : Int))) w := by kernel_rfl
theorem nm_index_20 (w : World) : (Instr.index 101 (.agg NM) (.int .i64 ((20 : Nat) : Int))).run Try.prog w = .ok (.string (nmOf ((20 : Nat) : Int))) w := by kernel_rfl
theorem nm_index_21 (w : World) : (Instr.index 101 (.agg NM) (.int .i64 ((21 : Nat) : Int))).run Try.prog w = .ok (.string (nmOf ((21 : Nat) : Int))) w := by kernel_rfl
theorem nm_index_22 (w : World) : (Instr.index 101 (.agg NM) (.int .i64 ((22 : Nat) : Int))).run Try.prog w = .ok (.string (nmOf ((22 : Nat) : Int))) w := by kernel_rfl
theorem nm_index_23 (w : World) : (Instr.index 101 (.agg NM) (.int .i64 ((23 : Nat) : Int))).run Try.prog w = .ok (.string (nmOf ((23 : Nat) : Int))) w := by kernel_rfl
theorem nm_index_24 (w : World) : (Instr.index 101 (.agg NM) (.int .i64 ((24 : Nat) : Int))).run Try.prog w = .ok (.string (nmOf ((24 : Nat) : Int))) w := by kernel_rfl
theorem nm_index_25 (w : World) : (Instr.index 101 (.agg NM) (.int .i64 ((25 : Nat) : Int))).run Try.prog w = .ok (.string (nmOf ((25 : Nat) : Int))) w := by kernel_rfl
theorem nm_index_26 (w : World) : (Instr.index 101 (.agg NM) (.int .i64 ((26 : Nat) : Int))).run Try.prog w = .ok (.string (nmOf ((26 : Nat) : Int))) w := by kernel_rfl
theorem nm_index_27 (w : World) : (Instr.index 101 (.agg NM) (.int .i64 ((27 : Nat) : Int))).run Try.prog w = .ok (.string (nmOf ((27 : Nat) : Int))) w := by kernel_rfl
theorem nm_index_28 (w : World) : (Instr.index 101 (.agg NM) (.int .i64 ((28 : Nat) : Int))).run Try.prog w = .ok (.string (nmOf ((28 : Nat) : Int))) w := by kernel_rfl
theorem nm_index_29 (w : World) : (Instr.index 101 (.agg NM) (.int .i64 ((29 : Nat) : Int))).run Try.prog w = .ok (.string (nmOf ((29 : Nat) : Int))) w := by kernel_rfl
theorem nm_index_30 (w : World) : (Instr.index 101 (.agg NM) (.int .i64 ((30 : Nat) : Int))).run Try.prog w = .ok (.string (nmOf ((30 : Nat) : Int))) w := by kernel_rfl
theorem nm_index_31 (w : World) : (Instr.index 101 (.agg NM) (.int .i64 ((31 : Nat) : Int))).run Try.prog w = .ok (.string (nmOf ((31 : Nat) : Int))) w := by kernel_rfl
theorem nm_index_32 (w : World) : (Instr.index 101 (.agg NM) (.int .i64 ((32 : Nat) : Int))).run Try.prog w = .ok (.string (nmOf ((32 : Nat) : Int))) w := by kernel_rfl
theorem nm_index_33 (w : World) : (Instr.index 101 (.agg NM) (.int .i64 ((33 : Nat) : Int))).run Try.prog w = .ok (.string (nmOf ((33 : Nat) : Int))) w := by kernel_rfl
theorem nm_index_34 (w : World) : (Instr.index 101 (.agg NM) (.int .i64 ((34 : Nat) : Int))).run Try.prog w = .ok (.string (nmOf ((34 : Nat) : Int))) w := by kernel_rfl
theorem nm_index_35 (w : World) : (Instr.index 101 (.agg NM) (.int .i64 ((35 : Nat) : Int))).run Try.prog w = .ok (.string (nmOf ((35 : Nat) : Int))) w := by kernel_rfl
theorem nm_index (n : Nat) (h : n < 36) (w : World) : (Instr.index 101 (.agg NM) (.int .i64 (n : Int))).run Try.prog w = .ok (.string (nmOf n)) w :=
  match n, h with
  | 0, _ => nm_index_0 w
  | 1, _ => nm_index_1 w
  | 2, _ => nm_index_2 w
  | 3, _ => nm_index_3 w
  | 4, _ => nm_index_4 w
  | 5, _ => nm_index_5 w
  | 6, _ => nm_index_6 w
  | 7, _ => nm_index_7 w
  | 8, _ => nm_index_8 w
  | 9, _ => nm_index_9 w
  | 10, _ => nm_index_10 w
  | 11, _ => nm_index_11 w
  | 12, _ => nm_index_12 w
  | 13, _ => nm_index_13 w
  | 14, _ => nm_index_14 w
  | 15, _ => nm_index_15 w
  | 16, _ => nm_index_16 w
  | 17, _ => nm_index_17 w
  | 18, _ => nm_index_18 w
  | 19, _ => nm_index_19 w
  | 20, _ => nm_index_20 w
  | 21, _ => nm_index_21 w
  | 22, _ => nm_index_22 w
  | 23, _ => nm_index_23 w
  | 24, _ => nm_index_24 w
  | 25, _ => nm_index_25 w
  | 26, _ => nm_index_26 w
  | 27, _ => nm_index_27 w
  | 28, _ => nm_index_28 w
  | 29, _ => nm_index_29 w
  | 30, _ => nm_index_30 w
  | 31, _ => nm_index_31 w
  | 32, _ => nm_index_32 w
  | 33, _ => nm_index_33 w
  | 34, _ => nm_index_34 w
  | 35, _ => nm_index_35 w
  | n + 36, h => absurd h (by omega)

set_option maxHeartbeats 1000000 in
theorem name_any (c : Int) (w : World) : Calls Try.prog 31 #[.int .i64 c] w fun e w' => e = .returned (.string (nmOf c)) ∧ Below w.heap.size w w' := by
  by_cases h : 0 ≤ c ∧ c < 36
  · obtain ⟨h1, h2⟩ := h
    obtain ⟨n, rfl⟩ := Int.eq_ofNat_of_zero_le h1
    have hI := Lib.hid (nm_index n (by omega))
    have d1 : decide ((n : Int) < 0) = false := by simp
    have d2 : decide ((36 : Int) ≤ (n : Int)) = false := by simpa using h2
    go_enter Try.func31, Try.ntmps31
    go_wp2_with fail
    refine (names_any _).mono ?_
    rintro e w1 ⟨rfl, hb⟩
    have hJ := hI.out
    go_wp2
    go_ret
    exact ⟨rfl, hb⟩
  · have e : nmOf c = { data := #[] } := by unfold nmOf; rw [if_neg h]
    rw [e]
    by_cases h1 : c < 0
    · go_enter Try.func31, Try.ntmps31
      go_wp2
      go_ret
      exact ⟨rfl, Below.refl _ _⟩
    · have d1 : decide (c < 0) = false := by simpa using h1
      have h2 : 36 ≤ c := by omega
      go_enter Try.func31, Try.ntmps31
      go_wp2
      go_ret
      exact ⟨rfl, Below.refl _ _⟩
end Go.Proofs.Ytphhdkffnboboaa

