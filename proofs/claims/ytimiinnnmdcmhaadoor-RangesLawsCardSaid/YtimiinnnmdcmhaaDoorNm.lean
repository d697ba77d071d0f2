/-
  The right list of a set of numbers; how many numbers it has.
-/
import Derived.Test.YtimiinnnmdcmhaaDoorRgMath
namespace Go.Proofs.YtimiinnnmdcmhaaDoor

/-- The right list of the numbers that f wants, if there is one. -/
noncomputable def norm (f : Int → Bool) : List Rng := open Classical in if h : ∃ out : List Rng, right out = true ∧ ∀ r, hasR out r = f r then h.choose else []
theorem norm_right (f : Int → Bool) : right (norm f) = true := by
  unfold norm
  split
  · rename_i h; exact h.choose_spec.1
  · rfl
theorem norm_eq {f : Int → Bool} {out : List Rng} (hr : right out = true) (h : ∀ r, hasR out r = f r) : out = norm f := by
  have hx : ∃ out : List Rng, right out = true ∧ ∀ r, hasR out r = f r := ⟨out, hr, h⟩
  unfold norm
  rw [dif_pos hx]
  exact right_ext (b := -1) hr hx.choose_spec.1 fun r => by rw [h r, hx.choose_spec.2 r]
theorem norm_has {f : Int → Bool} {out : List Rng} (hr : right out = true) (h : ∀ r, hasR out r = f r) (r : Int) : hasR (norm f) r = f r := by rw [← norm_eq hr h, h r]
theorem norm_self {xs : List Rng} (h : right xs = true) : norm (hasR xs) = xs := (norm_eq h fun _ => rfl).symm

def cardN (N : Nat) (f : Int → Bool) : Nat := (List.range N).countP fun n : Nat => f (n : Int)
def card (f : Int → Bool) : Nat := cardN 1114112 f
theorem countP_or_disj {α : Type} (p q : α → Bool) (l : List α) (h : ∀ x ∈ l, ¬ (p x = true ∧ q x = true)) : l.countP (fun x => p x || q x) = l.countP p + l.countP q := by
  induction l with
  | nil => rfl
  | cons x l ih =>
    have h1 := ih fun y hy => h y (List.mem_cons_of_mem _ hy)
    have h2 := h x List.mem_cons_self
    simp only [List.countP_cons, h1]
    cases hp : p x <;> cases hq : q x <;> simp [hp, hq] at h2 ⊢ <;> omega
theorem countP_interval (lo hi : Int) (N : Nat) (h0 : 0 ≤ lo) (h1 : lo ≤ hi) : ((List.range N).countP fun n : Nat => decide (lo ≤ (n : Int)) && decide ((n : Int) ≤ hi) : Int) = if (N : Int) ≤ lo then 0 else if (N : Int) ≤ hi + 1 then N - lo else hi - lo + 1 := by
  induction N with
  | zero => simp; omega
  | succ N ih =>
    rw [List.range_succ, List.countP_append, Int.natCast_add, ih]
    simp only [List.countP_cons, List.countP_nil, Nat.zero_add, Int.natCast_succ]
    by_cases a : lo ≤ (N : Int)
    · by_cases b : (N : Int) ≤ hi
      · simp only [a, b, decide_true, Bool.and_self, if_true]
        split <;> split <;> (try split) <;> omega
      · simp only [a, b, decide_true, decide_false, Bool.and_false, Bool.false_eq_true, if_false]
        split <;> split <;> (try split) <;> omega
    · simp only [a, decide_false, Bool.false_and, Bool.false_eq_true, if_false]
      split <;> split <;> (try split) <;> omega
theorem card_range (x : Rng) (h : may x = true) : (card (fun r => decide (x.1 ≤ r) && decide (r ≤ x.2)) : Int) = x.2 - x.1 + 1 := by
  obtain ⟨h1, h2, h3⟩ := (may_iff x).1 h
  have := countP_interval x.1 x.2 1114112 h1 h2
  unfold card cardN
  rw [this]
  split
  · omega
  · split <;> omega
theorem card_or {f g : Int → Bool} (h : ∀ r, ¬ (f r = true ∧ g r = true)) : card (fun r => f r || g r) = card f + card g := countP_or_disj _ _ _ fun x _ => h x
theorem countR_card_from {b : Int} {xs : List Rng} (h : rightFrom b xs = true) : countR xs = card (hasR xs) := by
  induction xs generalizing b with
  | nil =>
    have : card (hasR []) = 0 := by unfold card cardN; rw [List.countP_eq_zero]; intro n _; simp [hasR]
    rw [this]
    rfl
  | cons x xs ih =>
    simp only [rightFrom, Bool.and_eq_true, decide_eq_true_eq] at h
    have e : card (hasR (x :: xs)) = card (fun r => decide (x.1 ≤ r) && decide (r ≤ x.2)) + card (hasR xs) := by
      rw [← card_or (f := fun r => decide (x.1 ≤ r) && decide (r ≤ x.2)) (g := hasR xs)]
      · rfl
      · rintro r ⟨a, c⟩
        have := (hasR_gt h.2 c).1
        simp at a
        omega
    rw [countR_cons, ih h.2, e, Int.natCast_add, card_range x h.1.2]
theorem countR_card {xs : List Rng} (h : right xs = true) : countR xs = card (hasR xs) := countR_card_from h
theorem cardN_not (N : Nat) (f : Int → Bool) : cardN N f + cardN N (fun r => !f r) = N := by
  have := List.length_eq_countP_add_countP (fun n : Nat => f n) (l := List.range N)
  rw [List.length_range] at this
  unfold cardN
  rw [show (List.range N).countP (fun n : Nat => !f n) = (List.range N).countP (fun n : Nat => ¬ f n = true) from List.countP_congr fun n _ => by simp]
  exact this.symm
theorem card_not (f : Int → Bool) : card f + card (fun r => !f r) = 1114112 := cardN_not _ f
theorem cardN_congr {N : Nat} {f g : Int → Bool} (h : ∀ n : Nat, n < N → f n = g n) : cardN N f = cardN N g := by
  unfold cardN
  apply List.countP_congr
  intro n hn
  rw [h n (List.mem_range.1 hn)]
theorem card_congr {f g : Int → Bool} (h : ∀ r : Int, 0 ≤ r → r ≤ 1114111 → f r = g r) : card f = card g := cardN_congr fun n hn => h n (by omega) (by omega)
end Go.Proofs.YtimiinnnmdcmhaaDoor
