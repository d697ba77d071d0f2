/-
  The classes, as lists of rows and ranges.
-/
import Derived.Test.YtflhdfbpafhjlaaCrg
namespace Go.Proofs.Ytflhdfbpafhjlaa
open Go.RowKit Go.Shelf Go.Lib

abbrev Row := Int × Int × Nat
def rowsP : List Row := [(0, 8, 4), (9, 9, 29), (10, 10, 2), (11, 12, 3), (13, 13, 1), (14, 31, 4), (32, 32, 29), (33, 33, 30), (34, 34, 27), (39, 39, 26), (40, 40, 31), (41, 41, 32), (44, 44, 24), (45, 45, 33), (46, 46, 25), (48, 57, 22), (58, 58, 23), (59, 59, 24), (63, 63, 30), (65, 90, 17), (91, 91, 31), (93, 93, 32), (95, 95, 28), (97, 122, 18), (123, 123, 31), (125, 125, 32), (127, 132, 4), (133, 133, 3), (134, 159, 4), (160, 160, 34), (169, 169, 16), (170, 170, 18), (171, 171, 31), (173, 173, 7), (174, 174, 16), (181, 181, 18), (183, 183, 23), (186, 186, 18), (187, 187, 32), (192, 214, 17), (216, 222, 17), (223, 246, 18), (248, 255, 18), (768, 879, 5), (913, 929, 17), (931, 939, 17), (940, 974, 18), (1024, 1071, 17), (1072, 1119, 18), (1155, 1161, 5), (1425, 1469, 5), (1488, 1514, 19), (1536, 1541, 9), (1568, 1610, 19), (1611, 1631, 5), (1632, 1641, 22), (1757, 1757, 9), (2307, 2307, 10), (2308, 2361, 19), (2364, 2364, 5), (2366, 2368, 10), (2369, 2376, 5), (2377, 2380, 10), (2381, 2381, 5), (2404, 2405, 30), (2406, 2415, 22), (4352, 4447, 11), (4448, 4519, 12), (4520, 4607, 13), (5760, 5760, 29), (8192, 8198, 29), (8199, 8199, 34), (8200, 8202, 29), (8203, 8203, 35), (8204, 8204, 5), (8205, 8205, 6), (8206, 8207, 7), (8208, 8208, 33), (8209, 8209, 34), (8211, 8212, 33), (8216, 8216, 27), (8217, 8217, 26), (8220, 8221, 27), (8228, 8228, 25), (8232, 8233, 3), (8234, 8238, 7), (8239, 8239, 34), (8252, 8253, 30), (8255, 8256, 28), (8260, 8260, 24), (8287, 8287, 29), (8288, 8292, 7), (8400, 8432, 5), (8986, 8987, 16), (9193, 9203, 16), (9728, 10175, 16), (12288, 12288, 29), (12289, 12289, 32), (12290, 12290, 30), (12296, 12296, 31), (12297, 12297, 32), (12298, 12298, 31), (12299, 12299, 32), (12300, 12300, 31), (12301, 12301, 32), (12330, 12335, 5), (12353, 12438, 21), (12441, 12442, 5), (12449, 12538, 20), (12540, 12543, 20), (12784, 12799, 20), (13312, 19903, 21), (19968, 40959, 21), (43360, 43388, 11), (44032, 55203, 14), (55216, 55238, 12), (55243, 55291, 13), (63744, 64255, 21), (65024, 65039, 5), (65056, 65071, 5), (65279, 65279, 7), (65281, 65281, 30), (65288, 65288, 31), (65289, 65289, 32), (65292, 65292, 32), (65294, 65294, 25), (65296, 65305, 22), (65311, 65311, 30), (65313, 65338, 17), (65345, 65370, 18), (65382, 65437, 20), (127462, 127487, 8), (127744, 127994, 16), (127995, 127999, 5), (128000, 128591, 16), (128640, 128767, 16), (129280, 129535, 16), (131072, 196605, 21), (917536, 917631, 5), (917760, 917999, 5)]
def refList : Nat → List Rng
  | 1 => [(13, 13)]
  | 2 => [(10, 10)]
  | 3 => [(11, 12), (133, 133), (8232, 8233)]
  | 4 => [(0, 8), (14, 31), (127, 132), (134, 159)]
  | 5 => [(768, 879), (1155, 1161), (1425, 1469), (1611, 1631), (2364, 2364), (2369, 2376), (2381, 2381), (8204, 8204), (8400, 8432), (12330, 12335), (12441, 12442), (65024, 65039), (65056, 65071), (127995, 127999), (917536, 917631), (917760, 917999)]
  | 6 => [(8205, 8205)]
  | 7 => [(173, 173), (8206, 8207), (8234, 8238), (8288, 8292), (65279, 65279)]
  | 8 => [(127462, 127487)]
  | 9 => [(1536, 1541), (1757, 1757)]
  | 10 => [(2307, 2307), (2366, 2368), (2377, 2380)]
  | 11 => [(4352, 4447), (43360, 43388)]
  | 12 => [(4448, 4519), (55216, 55238)]
  | 13 => [(4520, 4607), (55243, 55291)]
  | 16 => [(169, 169), (174, 174), (8986, 8987), (9193, 9203), (9728, 10175), (127744, 127994), (128000, 128591), (128640, 128767), (129280, 129535)]
  | 17 => [(65, 90), (192, 214), (216, 222), (913, 929), (931, 939), (1024, 1071), (65313, 65338)]
  | 18 => [(97, 122), (170, 170), (181, 181), (186, 186), (223, 246), (248, 255), (940, 974), (1072, 1119), (65345, 65370)]
  | 19 => [(1488, 1514), (1568, 1610), (2308, 2361)]
  | 20 => [(12449, 12538), (12540, 12543), (12784, 12799), (65382, 65437)]
  | 21 => [(12353, 12438), (13312, 19903), (19968, 40959), (63744, 64255), (131072, 196605)]
  | 22 => [(48, 57), (1632, 1641), (2406, 2415), (65296, 65305)]
  | 23 => [(58, 58), (183, 183)]
  | 24 => [(44, 44), (59, 59), (8260, 8260)]
  | 25 => [(46, 46), (8228, 8228), (65294, 65294)]
  | 26 => [(39, 39), (8217, 8217)]
  | 27 => [(34, 34), (8216, 8216), (8220, 8221)]
  | 28 => [(95, 95), (8255, 8256)]
  | 29 => [(9, 9), (32, 32), (5760, 5760), (8192, 8198), (8200, 8202), (8287, 8287), (12288, 12288)]
  | 30 => [(33, 33), (63, 63), (2404, 2405), (8252, 8253), (12290, 12290), (65281, 65281), (65311, 65311)]
  | 31 => [(40, 40), (91, 91), (123, 123), (171, 171), (12296, 12296), (12298, 12298), (12300, 12300), (65288, 65288)]
  | 32 => [(41, 41), (93, 93), (125, 125), (187, 187), (12289, 12289), (12297, 12297), (12299, 12299), (12301, 12301), (65289, 65289), (65292, 65292)]
  | 33 => [(45, 45), (8208, 8208), (8211, 8212)]
  | 34 => [(160, 160), (8199, 8199), (8209, 8209), (8239, 8239)]
  | 35 => [(8203, 8203)]
  | _ => []
def inRow (x : Row) (r : Int) : Bool := decide (x.1 ≤ r) && decide (r ≤ x.2.1)
def atRow (x : Row) (r : Int) : Nat := if x.2.2 = 14 ∧ (r - x.1) % 28 ≠ 0 then 15 else x.2.2
/-- The class as prop finds it: the first row that ends no sooner. -/
def classR (r : Int) : Nat := match rowsP.find? (fun x => decide (r ≤ x.2.1)) with | none => 0 | some x => if r < x.1 then 0 else atRow x r
/-- The class as the document's answer finds it. -/
def classF (r : Int) : Nat := if 44032 ≤ r ∧ r ≤ 55203 then (if (r - 44032) % 28 = 0 then 14 else 15) else ((List.range 36).find? fun c => hasR (refList c) r).getD 0

/-- Rows rise. -/
def rises : Int → List Row → Bool
  | _, [] => true
  | b, x :: xs => decide (b < x.1) && decide (x.1 ≤ x.2.1) && rises x.2.1 xs
theorem rows_rise : rises (-1) rowsP = true := by decide +kernel
theorem rises_gt {b : Int} {l : List Row} (h : rises b l = true) : ∀ x ∈ l, b < x.1 ∧ x.1 ≤ x.2.1 := by
  induction l generalizing b with
  | nil => simp
  | cons y ys ih =>
    simp [rises] at h
    intro x hx
    rcases List.mem_cons.1 hx with rfl | hx
    · exact h.1
    · have := ih h.2 x hx
      omega
/-- The first row that ends no sooner than a number is the only one that may have it. -/
theorem find_row {b : Int} {l : List Row} (h : rises b l = true) (r : Int) : match l.find? (fun x => decide (r ≤ x.2.1)) with
    | none => ∀ x ∈ l, inRow x r = false
    | some y => y ∈ l ∧ ∀ x ∈ l, inRow x r = true ↔ (x = y ∧ y.1 ≤ r) := by
  induction l generalizing b with
  | nil => simp
  | cons y ys ih =>
    simp only [rises, Bool.and_eq_true, decide_eq_true_eq] at h
    obtain ⟨⟨h1, h2⟩, h3⟩ := h
    have hgt := rises_gt h3
    rw [List.find?_cons]
    by_cases c : r ≤ y.2.1
    · simp only [c, decide_true]
      refine ⟨List.mem_cons_self, fun x hx => ?_⟩
      rcases List.mem_cons.1 hx with rfl | hx
      · simp [inRow, c]
      · have := hgt x hx
        constructor
        · intro e; simp [inRow] at e; omega
        · rintro ⟨rfl, _⟩; omega
    · simp only [c, decide_false]
      have := ih h3
      split
      · rename_i e
        rw [e] at this
        intro x hx
        rcases List.mem_cons.1 hx with rfl | hx
        · simp [inRow, c]
        · exact this x hx
      · rename_i z e
        rw [e] at this
        refine ⟨List.mem_cons_of_mem _ this.1, fun x hx => ?_⟩
        rcases List.mem_cons.1 hx with rfl | hx
        · constructor
          · intro e; simp [inRow, c] at e
          · rintro ⟨rfl, _⟩
            have hz := List.find?_some e
            simp at hz
            omega
        · exact this.2 x hx
theorem ref_rows : ((List.range 36).all fun c => (refList c).all fun y => decide ((y.1, y.2, c) ∈ rowsP)) = true := by decide +kernel
theorem rows_ref : (rowsP.all fun x => if x.2.2 = 14 then decide (x = (44032, 55203, 14)) else decide (0 < x.2.2 ∧ x.2.2 < 36 ∧ x.2.2 ≠ 15 ∧ (x.1, x.2.1) ∈ refList x.2.2)) = true := by decide +kernel
theorem lv_row : ((44032, 55203, 14) : Row) ∈ rowsP := by decide +kernel
theorem ref_1415 : refList 14 = [] ∧ refList 15 = [] ∧ refList 0 = [] := ⟨rfl, rfl, rfl⟩
/-- Which lists a number is in. -/
theorem has_ref {c : Nat} (hc : c < 36) (r : Int) : hasR (refList c) r = true ↔ ∃ x ∈ rowsP, x.2.2 = c ∧ c ≠ 14 ∧ inRow x r = true := by
  constructor
  · intro h
    obtain ⟨y, hy, h1, h2⟩ := (hasR_iff _ _).1 h
    have := List.all_eq_true.1 (List.all_eq_true.1 ref_rows c (List.mem_range.2 hc)) y hy
    simp only [decide_eq_true_eq] at this
    refine ⟨_, this, rfl, ?_, by simp [inRow, h1, h2]⟩
    rintro rfl
    rw [ref_1415.1] at hy
    simp at hy
  · rintro ⟨x, hx, rfl, h14, hr⟩
    have := List.all_eq_true.1 rows_ref x hx
    rw [if_neg h14] at this
    simp only [decide_eq_true_eq] at this
    simp [inRow] at hr
    exact (hasR_iff _ _).2 ⟨_, this.2.2.2, hr.1, hr.2⟩
theorem class_of_row {x : Row} {r : Int} (hx : x ∈ rowsP) (hr : inRow x r = true) (h14 : x.2.2 ≠ 14) : ((List.range 36).find? fun c => hasR (refList c) r) = some x.2.2 := by
  have hrow := List.all_eq_true.1 rows_ref x hx
  rw [if_neg h14] at hrow
  simp only [decide_eq_true_eq] at hrow
  have hF := find_row rows_rise r
  have hone : ∀ c, c < 36 → hasR (refList c) r = true → c = x.2.2 := by
    intro c hc h
    obtain ⟨y, hy, rfl, _, hyr⟩ := (has_ref hc r).1 h
    split at hF
    · have := hF x hx; rw [hr] at this; cases this
    · rw [((hF.2 y hy).1 hyr).1, ((hF.2 x hx).1 hr).1]
  have hhas := (has_ref hrow.2.1 r).2 ⟨x, hx, rfl, h14, hr⟩
  cases e : (List.range 36).find? fun c => hasR (refList c) r with
  | none =>
    have := List.find?_eq_none.1 e x.2.2 (List.mem_range.2 hrow.2.1)
    exact absurd hhas this
  | some c =>
    have h1 := List.find?_some e
    have h2 := List.mem_range.1 (List.mem_of_find?_eq_some e)
    rw [hone c h2 h1]
theorem class_none {r : Int} (h : ∀ x ∈ rowsP, inRow x r = false) : classF r = 0 := by
  unfold classF
  have hl := h _ lv_row
  simp [inRow] at hl
  rw [if_neg (by omega)]
  have : ((List.range 36).find? fun c => hasR (refList c) r) = none := by
    rw [List.find?_eq_none]
    intro c hc e
    obtain ⟨x, hx, _, _, hr⟩ := (has_ref (List.mem_range.1 hc) r).1 e
    rw [h x hx] at hr
    cases hr
  rw [this]
  rfl
theorem class_eq (r : Int) : classR r = classF r := by
  unfold classR
  have hF := find_row rows_rise r
  split
  · rename_i e
    rw [e] at hF
    exact (class_none hF).symm
  · rename_i x e
    rw [e] at hF
    obtain ⟨hx, hall⟩ := hF
    by_cases c : r < x.1
    · rw [if_pos c]
      refine (class_none fun y hy => ?_).symm
      rw [Bool.eq_false_iff]
      intro h
      have := (hall y hy).1 h
      omega
    · rw [if_neg c]
      have hr : inRow x r = true := (hall x hx).2 ⟨rfl, by omega⟩
      have hrow := List.all_eq_true.1 rows_ref x hx
      unfold classF atRow
      by_cases h14 : x.2.2 = 14
      · rw [if_pos h14] at hrow
        simp only [decide_eq_true_eq] at hrow
        subst hrow
        simp [inRow] at hr
        rw [if_pos hr]
        by_cases h0 : (r - 44032) % 28 = 0 <;> simp [h0]
      · have hl : ¬ (44032 ≤ r ∧ r ≤ 55203) := by
          intro hh
          have h1 := (hall _ lv_row).1 (by simp [inRow, hh.1, hh.2])
          rw [← h1.1] at h14
          exact h14 rfl
        rw [if_neg hl, class_of_row hx hr h14, if_neg (by simp [h14])]
        rfl
end Go.Proofs.Ytflhdfbpafhjlaa
