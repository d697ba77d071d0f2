/-
  Ranges of numbers as lists of pairs: which lists are right, which numbers are in them; a right list is known by its numbers.
-/
import Derived.Test.YtphhdkffnboboaaGreatDoorProg
namespace Go.Proofs.YtphhdkffnboboaaGreatDoor

abbrev Rng := Int × Int
def may (x : Rng) : Bool := decide (0 ≤ x.1) && decide (x.1 ≤ x.2) && decide (x.2 ≤ 1114111)
theorem may_iff (x : Rng) : may x = true ↔ 0 ≤ x.1 ∧ x.1 ≤ x.2 ∧ x.2 ≤ 1114111 := by simp [may, and_assoc]

/-- Ranges that rise from b on, with something between. -/
def rightFrom : Int → List Rng → Bool
  | _, [] => true
  | b, x :: xs => decide (b < x.1) && may x && rightFrom (x.2 + 1) xs
def right (xs : List Rng) : Bool := rightFrom (-1) xs
def hasR (xs : List Rng) (r : Int) : Bool := xs.any fun x => decide (x.1 ≤ r) && decide (r ≤ x.2)
/-- Behind which number the next range may begin. -/
def hiOf (b : Int) : List Rng → Int
  | [] => b
  | x :: xs => hiOf (x.2 + 1) xs

theorem hasR_nil (r : Int) : hasR [] r = false := rfl
theorem hasR_cons (x : Rng) (xs : List Rng) (r : Int) : hasR (x :: xs) r = ((decide (x.1 ≤ r) && decide (r ≤ x.2)) || hasR xs r) := rfl
theorem hasR_cons_iff (x : Rng) (xs : List Rng) (r : Int) : hasR (x :: xs) r = true ↔ (x.1 ≤ r ∧ r ≤ x.2) ∨ hasR xs r = true := by simp [hasR_cons]
theorem hasR_append (xs ys : List Rng) (r : Int) : hasR (xs ++ ys) r = (hasR xs r || hasR ys r) := by simp [hasR]
theorem hasR_iff (xs : List Rng) (r : Int) : hasR xs r = true ↔ ∃ x ∈ xs, x.1 ≤ r ∧ r ≤ x.2 := by simp [hasR]
theorem hiOf_snoc (b : Int) (xs : List Rng) (x : Rng) : hiOf b (xs ++ [x]) = x.2 + 1 := by
  induction xs generalizing b with
  | nil => rfl
  | cons y ys ih => exact ih _
theorem rightFrom_snoc (b : Int) (xs : List Rng) (x : Rng) : rightFrom b (xs ++ [x]) = (rightFrom b xs && decide (hiOf b xs < x.1) && may x) := by
  induction xs generalizing b with
  | nil =>
    simp only [List.nil_append, rightFrom, hiOf, Bool.and_true, Bool.true_and]
    rfl
  | cons y ys ih =>
    simp only [List.cons_append, rightFrom, ih, hiOf, Bool.and_assoc]
    rfl
theorem rightFrom_mono {b c : Int} {xs : List Rng} (h : rightFrom b xs = true) (hc : c ≤ b) : rightFrom c xs = true := by
  cases xs with
  | nil => rfl
  | cons x xs => simp [rightFrom] at *; exact ⟨⟨by omega, h.1.2⟩, h.2⟩
theorem rightFrom_take {b : Int} {xs : List Rng} (h : rightFrom b xs = true) (k : Nat) : rightFrom b (xs.take k) = true := by
  induction xs generalizing b k with
  | nil => simp [rightFrom]
  | cons x xs ih =>
    cases k with
    | zero => rfl
    | succ k => simp [rightFrom] at *; exact ⟨h.1, ih h.2 k⟩
theorem right_may {b : Int} {xs : List Rng} (h : rightFrom b xs = true) : ∀ x ∈ xs, may x = true ∧ b < x.1 := by
  induction xs generalizing b with
  | nil => simp
  | cons y ys ih =>
    simp [rightFrom] at h
    obtain ⟨⟨h1, h2⟩, h3⟩ := h
    intro x hx
    rcases List.mem_cons.1 hx with rfl | hx
    · exact ⟨h2, h1⟩
    · have := ih h3 x hx
      rw [may_iff] at h2
      exact ⟨this.1, by omega⟩
/-- What a right list holds lies behind b, and is a number. -/
theorem hasR_gt {b : Int} {xs : List Rng} (h : rightFrom b xs = true) {r : Int} (hr : hasR xs r = true) : b < r ∧ 0 ≤ r ∧ r ≤ 1114111 := by
  obtain ⟨x, hx, h1, h2⟩ := (hasR_iff xs r).1 hr
  obtain ⟨hm, hb⟩ := right_may h x hx
  rw [may_iff] at hm
  omega

/-- A right list is known by what it holds. -/
theorem right_ext {b : Int} {xs ys : List Rng} (hx : rightFrom b xs = true) (hy : rightFrom b ys = true) (h : ∀ r, hasR xs r = hasR ys r) : xs = ys := by
  induction xs generalizing b ys with
  | nil =>
    cases ys with
    | nil => rfl
    | cons y ys =>
      simp [rightFrom, may_iff] at hy
      have := (hasR_cons_iff y ys y.1).2 (.inl ⟨by omega, by omega⟩)
      rw [← h y.1] at this
      cases this
  | cons x xs ih =>
    cases ys with
    | nil =>
      simp [rightFrom, may_iff] at hx
      have := (hasR_cons_iff x xs x.1).2 (.inl ⟨by omega, by omega⟩)
      rw [h x.1] at this
      cases this
    | cons y ys =>
      simp [rightFrom, may_iff] at hx hy
      obtain ⟨⟨hx1, hx2, hx3, hx4⟩, hx5⟩ := hx
      obtain ⟨⟨hy1, hy2, hy3, hy4⟩, hy5⟩ := hy
      have nx : ∀ r, r ≤ x.2 + 1 → ¬ hasR xs r = true := fun r hr e => by have := hasR_gt hx5 e; omega
      have ny : ∀ r, r ≤ y.2 + 1 → ¬ hasR ys r = true := fun r hr e => by have := hasR_gt hy5 e; omega
      have H : ∀ r, ((x.1 ≤ r ∧ r ≤ x.2) ∨ hasR xs r = true) ↔ ((y.1 ≤ r ∧ r ≤ y.2) ∨ hasR ys r = true) := fun r => by
        rw [← hasR_cons_iff, ← hasR_cons_iff, h r]
      have e1 : x.1 = y.1 := by
        by_cases c : x.1 < y.1
        · rcases (H x.1).1 (.inl ⟨by omega, by omega⟩) with h1 | h1
          · omega
          · exact absurd h1 (ny _ (by omega))
        · by_cases c' : y.1 < x.1
          · rcases (H y.1).2 (.inl ⟨by omega, by omega⟩) with h1 | h1
            · omega
            · exact absurd h1 (nx _ (by omega))
          · omega
      have e2 : x.2 = y.2 := by
        by_cases c : x.2 < y.2
        · rcases (H (x.2 + 1)).2 (.inl ⟨by omega, by omega⟩) with h1 | h1
          · omega
          · exact absurd h1 (nx _ (by omega))
        · by_cases c' : y.2 < x.2
          · rcases (H (y.2 + 1)).1 (.inl ⟨by omega, by omega⟩) with h1 | h1
            · omega
            · exact absurd h1 (ny _ (by omega))
          · omega
      have exy : x = y := Prod.ext e1 e2
      subst exy
      rw [ih hx5 hy5 fun r => ?_]
      by_cases c : r ≤ x.2
      · rw [Bool.eq_false_iff.2 (nx r (by omega)), Bool.eq_false_iff.2 (ny r (by omega))]
      · have := H r
        rw [Bool.eq_iff_iff]
        constructor
        · intro e
          rcases this.1 (.inr e) with h1 | h1
          · omega
          · exact h1
        · intro e
          rcases this.2 (.inr e) with h1 | h1
          · omega
          · exact h1

/-- How many numbers ranges have, one by one. -/
def countR (xs : List Rng) : Int := (xs.map fun x => x.2 - x.1 + 1).sum
theorem countR_snoc (xs : List Rng) (x : Rng) : countR (xs ++ [x]) = countR xs + (x.2 - x.1 + 1) := by simp [countR]
theorem countR_cons (x : Rng) (xs : List Rng) : countR (x :: xs) = (x.2 - x.1 + 1) + countR xs := by simp [countR]
theorem right_len {b : Int} {xs : List Rng} (h : rightFrom b xs = true) (hb : -1 ≤ b) : (xs.length : Int) ≤ countR xs ∧ (xs ≠ [] → b + 1 + countR xs ≤ 1114112) ∧ 0 ≤ countR xs := by
  induction xs generalizing b with
  | nil => simp [countR]
  | cons x xs ih =>
    simp [rightFrom, may_iff] at h
    obtain ⟨⟨h1, h2, h3, h4⟩, h5⟩ := h
    have := ih h5 (by omega)
    rw [countR_cons]
    refine ⟨by simp; omega, fun _ => ?_, by omega⟩
    by_cases c : xs = []
    · subst c; simp [countR]; omega
    · have := this.2.1 c
      omega
theorem countR_bound {xs : List Rng} (h : right xs = true) : (xs.length : Int) ≤ countR xs ∧ countR xs ≤ 1114112 := by
  have := right_len (b := -1) h (by omega)
  refine ⟨this.1, ?_⟩
  by_cases c : xs = []
  · subst c; simp [countR]
  · have := this.2.1 c; omega

/-- Of a list that is not right nothing is known. -/
def known (xs : List Rng) : List Rng := if right xs then xs else []
theorem known_right (xs : List Rng) : right (known xs) = true := by
  unfold known
  by_cases c : right xs = true
  · rw [if_pos c]; exact c
  · rw [if_neg c]; rfl
theorem known_of {xs : List Rng} (h : right xs = true) : known xs = xs := by unfold known; rw [if_pos h]

/-- One step of 'right': the next range. -/
theorem right_step (xs : List Rng) (k : Nat) (x : Rng) (h : xs[k]? = some x) : right (xs.take (k + 1)) = (right (xs.take k) && decide (hiOf (-1) (xs.take k) < x.1) && may x) := by
  rw [List.take_add_one, h]
  exact rightFrom_snoc _ _ _
theorem hiOf_take (xs : List Rng) (k : Nat) (y : Rng) (h : xs[k]? = some y) : hiOf (-1) (xs.take (k + 1)) = y.2 + 1 := by
  rw [List.take_add_one, h]
  exact hiOf_snoc _ _ _
theorem right_false (xs : List Rng) (k : Nat) (h : right (xs.take k) = false) : right xs = false := by
  cases e : right xs with
  | false => rfl
  | true => rw [show right (xs.take k) = true from rightFrom_take e k] at h; exact h
end Go.Proofs.YtphhdkffnboboaaGreatDoor
