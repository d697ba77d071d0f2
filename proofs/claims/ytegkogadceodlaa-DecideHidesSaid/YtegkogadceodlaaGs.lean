/-
  Plain mathematics: the shortest list.
-/
import Derived.Test.YtegkogadceodlaaLg
namespace Go.Proofs.Ytegkogadceodlaa
open Go.RowKit Go.Shelf Go.Lib

theorem shsum_append (a b : List E) : shE.sum (a ++ b) = shE.sum a + shE.sum b := by
  induction a with
  | nil => show shE.sum b = 0 + _; omega
  | cons f r ih => show shE f + shE.sum (r ++ b) = shE f + shE.sum r + _; omega
theorem shleast_snoc (a : List E) (e : E) (h : a ≠ []) : shE.least (a ++ [e]) = min (shE.least a) (shE e) := by
  induction a with
  | nil => exact absurd rfl h
  | cons f r ih =>
    cases r with
    | nil => rfl
    | cons g r =>
      have := ih (by simp)
      show min (shE f) (shE.least ((g :: r) ++ [e])) = min (min (shE f) (shE.least (g :: r))) (shE e)
      rw [this]
      omega
theorem shsum_take {ks : List E} {i : Nat} {e : E} (h : ks[i]? = some e) : shE.sum (ks.take (i + 1)) = shE.sum (ks.take i) + shE e := by
  rw [List.take_add_one, h, shsum_append]
  show _ + (shE e + 0) = _
  omega
theorem shleast_take {ks : List E} {i : Nat} {e : E} (h : ks[i + 1]? = some e) : shE.least (ks.take (i + 2)) = min (shE.least (ks.take (i + 1))) (shE e) := by
  rw [List.take_add_one, h]
  refine shleast_snoc _ e ?_
  intro e0
  have h1 := congrArg List.length e0
  rw [List.length_take, List.length_nil] at h1
  have := (List.getElem?_eq_some_iff.1 h).1
  omega
theorem sh_le : ∀ N e, szE e ≤ N → shE e ≤ szE e := by
  intro N
  induction N with
  | zero => intro e h; have := szE_pos e; omega
  | succ N ih =>
    intro e he
    have hs : ∀ ks : List E, (∀ f ∈ ks, szE f ≤ N) → shE.sum ks ≤ szL ks ∧ shE.least ks ≤ szL ks := by
      intro ks
      induction ks with
      | nil => intro _; exact ⟨Nat.le_refl _, Nat.le_refl _⟩
      | cons f r ihr =>
        intro hf
        have h1 := ih f (hf f List.mem_cons_self)
        have h2 := ihr fun x hx => hf x (List.mem_cons_of_mem _ hx)
        have e1 : shE.sum (f :: r) = shE f + shE.sum r := rfl
        have e2 : shE.least (f :: r) ≤ shE f := by
          cases r with
          | nil => exact Nat.le_refl _
          | cons g r => exact Nat.min_le_left _ _
        rw [szL_cons, e1]
        omega
    have h := hs e.ks fun f hf => by have := szE_kid hf; omega
    rw [shE_eq, szE_eq]
    split
    · omega
    · split
      · omega
      · split <;> omega
theorem shsum_le (ks : List E) (i : Nat) : shE.sum (ks.take i) ≤ shE.sum ks := by
  have h1 := shsum_append (ks.take i) (ks.drop i)
  rw [List.take_append_drop] at h1
  omega
theorem shL_le (ks : List E) : shE.sum ks ≤ szL ks := by
  induction ks with
  | nil => exact Nat.le_refl _
  | cons f r ih =>
    have h1 := sh_le _ f (Nat.le_refl _)
    have e1 : shE.sum (f :: r) = shE f + shE.sum r := rfl
    rw [szL_cons, e1]
    omega
theorem shfirst {ks : List E} {f : E} (h : ks[0]? = some f) : shE.sum (ks.take 1) = shE f ∧ shE.least (ks.take 1) = shE f := by
  cases ks with
  | nil => simp at h
  | cons a r =>
    obtain rfl : a = f := by simpa using h
    exact ⟨by show shE a + 0 = _; omega, rfl⟩
/-- A right node of one of these kinds has a part. -/
theorem good_kid {e : E} (h : goodE e = true) (hk : e.k = 4 ∨ e.k = 5 ∨ e.k = 7) : 1 ≤ e.ks.length := by
  rw [goodE_eq] at h
  simp only [Bool.and_eq_true] at h
  have h2 := h.1.2
  unfold shapedK at h2
  rcases hk with hk | hk | hk <;> rw [hk] at h2 <;> simp at h2 <;> omega
theorem good_kids {e : E} (h : goodE e = true) : ∀ f ∈ e.ks, goodE f = true := by
  rw [goodE_eq] at h
  simp only [Bool.and_eq_true] at h
  exact good_all h.2
end Go.Proofs.Ytegkogadceodlaa
