/-
  PropSets: any class's numbers. The walk of the law. Which numbers the sets have.
-/
import Derived.Test.YtphhdkffnboboaaRSet
import Derived.Test.YtphhdkffnboboaaAwk
namespace Go.Proofs.Ytphhdkffnboboaa
open Go.RowKit Go.Shelf
open Go.Lib

/-! ### the plain part -/
def gaps : Int → List Rng → List Rng
  | b, [] => if b ≤ 1114111 then [(b, 1114111)] else []
  | b, x :: xs => if b < x.1 then (b, x.1 - 1) :: gaps (x.2 + 1) xs else gaps (x.2 + 1) xs
def risesP : Int → List Rng → Bool
  | _, [] => true
  | b, x :: xs => decide (b ≤ x.1) && decide (x.1 ≤ x.2) && decide (x.2 ≤ 1114111) && risesP (x.2 + 1) xs
theorem risesP_ge {b : Int} {l : List Rng} (h : risesP b l = true) {r : Int} (hr : hasR l r = true) : b ≤ r := by
  induction l generalizing b with
  | nil => simp [hasR] at hr
  | cons x xs ih =>
    simp only [risesP, Bool.and_eq_true, decide_eq_true_eq] at h
    rcases (hasR_cons_iff x xs r).1 hr with h1 | h1
    · omega
    · have := ih h.2 h1
      omega
theorem gaps_has {b : Int} {l : List Rng} (h : risesP b l = true) (r : Int) : hasR (gaps b l) r = true ↔ b ≤ r ∧ r ≤ 1114111 ∧ ¬ hasR l r = true := by
  induction l generalizing b with
  | nil =>
    unfold gaps
    split
    · simp [hasR]
    · simp [hasR]
      omega
  | cons x xs ih =>
    simp only [risesP, Bool.and_eq_true, decide_eq_true_eq] at h
    obtain ⟨⟨⟨h1, h2⟩, h3⟩, h4⟩ := h
    have hi := ih h4
    have hg := @risesP_ge _ _ h4 r
    have hc := hasR_cons_iff x xs r
    unfold gaps
    split
    · rw [hasR_cons_iff, hi, hc]
      simp only
      constructor
      · rintro (h5 | h5)
        · refine ⟨by omega, by omega, ?_⟩
          rintro (h6 | h6)
          · omega
          · have := hg h6; omega
        · refine ⟨by omega, by omega, ?_⟩
          rintro (h6 | h6)
          · omega
          · exact h5.2.2 h6
      · rintro ⟨h5, h6, h7⟩
        by_cases c : r < x.1
        · left; omega
        · right
          refine ⟨?_, h6, fun h8 => h7 (.inr h8)⟩
          apply Classical.byContradiction
          intro h9
          exact h7 (.inl (by omega))
    · rw [hi, hc]
      constructor
      · rintro h5
        refine ⟨by omega, by omega, ?_⟩
        rintro (h6 | h6)
        · omega
        · exact h5.2.2 h6
      · rintro ⟨h5, h6, h7⟩
        refine ⟨?_, h6, fun h8 => h7 (.inr h8)⟩
        apply Classical.byContradiction
        intro h9
        exact h7 (.inl (by omega))
def wholes : List Rng := rowsP.flatMap wholeP
def others : List Rng := gaps 0 wholes
def inners : List Rng := gaps 0 others
theorem wholes_rise : risesP 0 wholes = true := by decide +kernel
theorem others_right : right others = true := by decide +kernel
theorem others_rise : risesP 0 others = true := by decide +kernel
theorem inners_right : right inners = true := by decide +kernel
theorem wholes_may (r : Int) (h : hasR wholes r = true) : 0 ≤ r ∧ r ≤ 1114111 := by
  obtain ⟨x, hx, h1, h2⟩ := (hasR_iff _ _).1 h
  have := (may_iff x).1 (List.all_eq_true.1 whole_may x hx)
  omega
theorem inners_has (r : Int) : hasR inners r = hasR wholes r := by
  rw [Bool.eq_iff_iff]
  unfold inners
  rw [gaps_has others_rise]
  unfold others
  rw [gaps_has wholes_rise]
  constructor
  · rintro ⟨h1, h2, h3⟩
    apply Classical.byContradiction
    exact fun h4 => h3 ⟨h1, h2, h4⟩
  · intro h
    have := wholes_may r h
    exact ⟨this.1, this.2, fun h2 => h2.2.2 h⟩
theorem setP_zero : setP 0 = others := by
  unfold setP
  rw [if_pos rfl]
  have e1 : norm (hasR (rowsP.flatMap wholeP)) = inners := (norm_eq inners_right inners_has).symm
  rw [e1]
  refine (norm_eq others_right fun r => ?_).symm
  rw [Bool.eq_iff_iff, notR_iff, inners_has]
  unfold others
  exact gaps_has wholes_rise r
theorem setP_pos {c : Nat} (h0 : 0 < c) (h : c < 36) : setP (c : Int) = refS c := by
  unfold setP
  rw [if_neg (by omega), (part_right h0 h).1, norm_self (part_right h0 h).2]
theorem setP_out {c : Int} (h : c < 0 ∨ 35 < c) : setP c = [] := by
  unfold setP
  rw [if_neg (by omega), part_out h]
  exact norm_self (xs := []) rfl
theorem setP_ref {c : Nat} (h : c < 36) : setP (c : Int) = refSet c := by
  unfold refSet
  by_cases h0 : c = 0
  · subst h0
    rw [if_pos rfl]
    show setP 0 = _
    unfold setP
    rw [if_pos rfl]
    have e : hasR (allP 35) = hasR (rowsP.flatMap wholeP) := funext has_all
    rw [e]
  · rw [if_neg h0, setP_pos (by omega) h]
/-- Which numbers a class's set has. -/
theorem setP_has {c : Nat} (h : c < 36) (r : Int) : hasR (setP (c : Int)) r = true ↔ 0 ≤ r ∧ r ≤ 1114111 ∧ classR r = c := by
  by_cases h0 : c = 0
  · subst h0
    show hasR (setP 0) r = true ↔ _
    rw [setP_zero]
    unfold others
    rw [gaps_has wholes_rise]
    unfold wholes
    rw [has_other]
    simp
  · rw [setP_pos (by omega) h, ← (part_right (by omega) h).1, has_class (by omega)]
    constructor
    · intro hc
      have h1 : hasR wholes r = true := (has_other r).2 (by omega)
      have := wholes_may r h1
      exact ⟨this.1, this.2, hc⟩
    · exact fun hh => hh.2.2
theorem classR_out {r : Int} (h : r < 0 ∨ 1114111 < r) : classR r = 0 := by
  apply Classical.byContradiction
  intro h0
  have := wholes_may r ((has_other r).2 h0)
  omega

set_option maxHeartbeats 2000000 in
theorem sets_walk (c : Int) (_c0 : -9223372036854775808 ≤ c) (_c1 : c ≤ 9223372036854775807) (w : World) : Calls Try.prog 10 #[.int .i64 c] w fun e w' => e = .returned (.bool true) ∧ Below w.heap.size w w' := by
  have C1 := Lib.hid (set_any c)
  by_cases h : c < 0 ∨ 35 < c
  · have e := setP_out h
    rw [e] at C1
    rcases (show c < 0 ∨ (0 ≤ c ∧ 35 < c) by omega) with h1 | ⟨h1, h2⟩
    all_goals
      clear h e
      go_enter Try.func10, Try.ntmps10
      go_wp2_with fail
      refine (C1.out _).mono ?_
      rintro e w1 ⟨⟨A1, c1, rfl, hS, hb1⟩, _, _⟩
      clear hS
      go_wp2_with fail
      refine (awake_any _).mono ?_
      rintro e w2 ⟨rfl, hb⟩
      have hb2 := hb1.trans (hb.mono hb1.size)
      clear hb hb1
      go_wp2
      go_ret
      exact ⟨rfl, hb2⟩
  · have h1 : 0 ≤ c := by omega
    have h2 : c ≤ 35 := by omega
    obtain ⟨n, rfl⟩ := Int.eq_ofNat_of_zero_le h1
    rw [setP_ref (by omega)] at C1
    have C2 := Lib.hid (rset_any n (by omega))
    generalize refSet n = S at C1 C2
    have d1 : decide ((n : Int) < 0) = false := by simp
    have d2 : decide ((35 : Int) < (n : Int)) = false := by simpa using h2
    clear h
    go_enter Try.func10, Try.ntmps10
    go_wp2_with fail
    refine (C1.out _).mono ?_
    rintro e w1 ⟨⟨A1, c1, rfl, hS, hb1⟩, _, _⟩
    have HS := Lib.hid hS
    clear hS
    go_wp2_with fail
    refine (C2.out _).mono ?_
    rintro e w2 ⟨A2, c2, rfl, hS2, hb⟩
    have hb2 := hb1.trans (hb.mono hb1.size)
    have C3 := is_any A1 c1 S A2 c2 S w2 (HS.out.below hb).r hS2.r
    rw [show decide (S = S) = true by simp] at C3
    have C3 := Lib.hid C3
    clear hb hb1 hS2
    go_wp2_with fail
    refine C3.out.mono ?_
    rintro e w3 ⟨rfl, hb⟩
    have hb3 := hb2.trans (hb.mono hb2.size)
    clear hb hb2
    go_wp2_with fail
    refine (awake_any _).mono ?_
    rintro e w4 ⟨rfl, hb⟩
    have hb4 := hb3.trans (hb.mono hb3.size)
    clear hb hb3
    go_wp2
    go_ret
    exact ⟨rfl, hb4⟩
end Go.Proofs.Ytphhdkffnboboaa
