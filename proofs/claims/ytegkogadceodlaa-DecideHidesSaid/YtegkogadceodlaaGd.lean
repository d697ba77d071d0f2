/-
  Plain mathematics: which expressions are right; how long their longest and shortest lists are.
-/
import Derived.Test.YtegkogadceodlaaRig
namespace Go.Proofs.Ytegkogadceodlaa
open Go.RowKit Go.Shelf Go.Lib

/-- Has each node what its kind asks, and is none Empty? -/
def goodE : E → Bool
  | .mk k c ks => decide (k ≠ 9) && shapedK k c ks.length && all ks
where all : List E → Bool
  | [] => true
  | e :: r => goodE e && all r
theorem goodE_eq (e : E) : goodE e = (decide (e.k ≠ 9) && shapedK e.k e.c e.ks.length && goodE.all e.ks) := by cases e; rfl
theorem good_all {ks : List E} (h : goodE.all ks = true) : ∀ e ∈ ks, goodE e = true := by
  induction ks with
  | nil => intro e he; cases he
  | cons a r ih =>
    have h' : (goodE a && goodE.all r) = true := h
    simp only [Bool.and_eq_true] at h'
    intro e he
    rcases List.mem_cons.1 he with rfl | he
    · exact h'.1
    · exact ih h'.2 e he
theorem visL_cons (f : E) (r : List E) (m : Nat) : visL nxR (f :: r) m = if (visG nxR f m).1 then visL nxR r (visG nxR f m).2 else (false, (visG nxR f m).2) := by
  show visG.kids nxR (f :: r) m = _
  rw [visG.kids]
  rcases visG nxR f m with ⟨_ | _, s'⟩ <;> rfl
theorem szL_cons (f : E) (r : List E) : szL (f :: r) = szE f + szL r := rfl
theorem vis_good : ∀ N e m, szE e ≤ N → ((visG nxR e m).1 = true ↔ goodE e = true ∧ m + szE e ≤ 2000) ∧ ((visG nxR e m).1 = true → (visG nxR e m).2 = m + szE e) := by
  intro N
  induction N with
  | zero => intro e m h; have := szE_pos e; omega
  | succ N ih =>
    intro e m he
    have hl : ∀ (ks : List E) (m : Nat), (∀ f ∈ ks, szE f ≤ N) → m ≤ 2000 → ((visL nxR ks m).1 = true ↔ goodE.all ks = true ∧ m + szL ks ≤ 2000) ∧ ((visL nxR ks m).1 = true → (visL nxR ks m).2 = m + szL ks) := by
      intro ks
      induction ks with
      | nil => intro m _ hm; exact ⟨⟨fun _ => ⟨rfl, hm⟩, fun _ => rfl⟩, fun _ => rfl⟩
      | cons f r ihr =>
        intro m hf hm
        have hi := ih f m (hf f List.mem_cons_self)
        have hg : goodE.all (f :: r) = (goodE f && goodE.all r) := rfl
        rw [visL_cons, szL_cons, hg]
        by_cases hb : (visG nxR f m).1 = true
        · have h2 := hi.2 hb
          have h1 := hi.1.1 hb
          have h3 := ihr (visG nxR f m).2 (fun x hx => hf x (List.mem_cons_of_mem _ hx)) (by omega)
          rw [if_pos hb, h1.1, Bool.true_and]
          rw [h2] at h3 ⊢
          refine ⟨h3.1.trans ⟨fun h => ⟨h.1, by omega⟩, fun h => ⟨h.1, by omega⟩⟩, fun h => by rw [h3.2 h]; omega⟩
        · rw [if_neg hb]
          refine ⟨⟨fun h => (by cases h), fun h => absurd (hi.1.2 ⟨?_, by omega⟩) hb⟩, fun h => (by cases h)⟩
          have := h.1
          simp only [Bool.and_eq_true] at this
          exact this.1
    rw [visG_eq, goodE_eq, szE_eq]
    have hn : (nxR e m).1 = (decide (m + 1 ≤ 2000) && decide (e.k ≠ 9) && shapedK e.k e.c e.ks.length) := rfl
    have hn2 : (nxR e m).2 = m + 1 := rfl
    rw [hn, hn2]
    by_cases hm : m + 1 ≤ 2000
    · rw [decide_eq_true hm, Bool.true_and]
      have h3 := hl e.ks (m + 1) (fun f hf => by have := szE_kid hf; omega) hm
      by_cases hb : (decide (e.k ≠ 9) && shapedK e.k e.c e.ks.length) = true
      · rw [if_pos hb, hb, Bool.true_and]
        exact ⟨h3.1.trans ⟨fun h => ⟨h.1, by omega⟩, fun h => ⟨h.1, by omega⟩⟩, fun h => by rw [h3.2 h]; omega⟩
      · rw [if_neg hb]
        refine ⟨⟨fun h => (by cases h), fun h => absurd ?_ hb⟩, fun h => (by cases h)⟩
        have := h.1
        simp only [Bool.and_eq_true] at this
        simp only [Bool.and_eq_true]
        exact this.1
    · rw [decide_eq_false hm, Bool.false_and, Bool.false_and, if_neg (by simp)]
      exact ⟨⟨fun h => (by cases h), fun h => (by omega)⟩, fun h => (by cases h)⟩
theorem rightE_good {e : E} (h9 : e.k ≠ 9) : rightE e = (goodE e && decide (szE e ≤ 2000)) := by
  unfold rightE
  rw [if_neg h9]
  have := (vis_good _ e 0 (Nat.le_refl _)).1
  rw [Bool.eq_iff_iff, this]
  simp
theorem right_size {e : E} (h : rightE e = true) : szE e ≤ 2000 := by
  by_cases h9 : e.k = 9
  · unfold rightE at h
    rw [if_pos h9, h9] at h
    have hn : e.ks = [] := by
      unfold shapedK at h
      simp at h
      exact h.2
    rw [szE_eq, hn]
    show 1 + 0 ≤ 2000
    omega
  · rw [rightE_good h9] at h
    simp only [Bool.and_eq_true, decide_eq_true_eq] at h
    exact h.2

/-- The longest list, where nothing is repeated. -/
def lgE : E → Nat
  | .mk k _ ks => if k = 9 then 0 else if k = 4 then sum ks else if k = 5 ∨ k = 8 then most ks else 1
where
  sum : List E → Nat
    | [] => 0
    | e :: r => lgE e + sum r
  most : List E → Nat
    | [] => 0
    | e :: r => max (lgE e) (most r)
/-- The shortest list. -/
def shE : E → Nat
  | .mk k _ ks => if k = 6 ∨ k = 8 ∨ k = 9 then 0 else if k = 4 then sum ks else if k = 5 ∨ k = 7 then least ks else 1
where
  sum : List E → Nat
    | [] => 0
    | e :: r => shE e + sum r
  least : List E → Nat
    | [] => 0
    | [e] => shE e
    | e :: f :: r => min (shE e) (least (f :: r))
theorem lgE_eq (e : E) : lgE e = if e.k = 9 then 0 else if e.k = 4 then lgE.sum e.ks else if e.k = 5 ∨ e.k = 8 then lgE.most e.ks else 1 := by cases e; rfl
theorem shE_eq (e : E) : shE e = if e.k = 6 ∨ e.k = 8 ∨ e.k = 9 then 0 else if e.k = 4 then shE.sum e.ks else if e.k = 5 ∨ e.k = 7 then shE.least e.ks else 1 := by cases e; rfl
theorem lg_le : ∀ N e, szE e ≤ N → lgE e ≤ szE e := by
  intro N
  induction N with
  | zero => intro e h; have := szE_pos e; omega
  | succ N ih =>
    intro e he
    have hs : ∀ ks : List E, (∀ f ∈ ks, szE f ≤ N) → lgE.sum ks ≤ szL ks ∧ lgE.most ks ≤ szL ks := by
      intro ks
      induction ks with
      | nil => intro _; exact ⟨Nat.le_refl _, Nat.le_refl _⟩
      | cons f r ihr =>
        intro hf
        have h1 := ih f (hf f List.mem_cons_self)
        have h2 := ihr fun x hx => hf x (List.mem_cons_of_mem _ hx)
        have e1 : lgE.sum (f :: r) = lgE f + lgE.sum r := rfl
        have e2 : lgE.most (f :: r) = max (lgE f) (lgE.most r) := rfl
        rw [szL_cons, e1, e2]
        omega
    have h := hs e.ks fun f hf => by have := szE_kid hf; omega
    rw [lgE_eq, szE_eq]
    split
    · omega
    · split
      · omega
      · split <;> omega
theorem lgsum_append (a b : List E) : lgE.sum (a ++ b) = lgE.sum a + lgE.sum b := by
  induction a with
  | nil => show lgE.sum b = 0 + _; omega
  | cons f r ih => show lgE f + lgE.sum (r ++ b) = lgE f + lgE.sum r + _; omega
theorem lgmost_append (a b : List E) : lgE.most (a ++ b) = max (lgE.most a) (lgE.most b) := by
  induction a with
  | nil => show lgE.most b = max 0 _; omega
  | cons f r ih => show max (lgE f) (lgE.most (r ++ b)) = max (max (lgE f) (lgE.most r)) _; omega
theorem lgsum_take {ks : List E} {i : Nat} {e : E} (h : ks[i]? = some e) : lgE.sum (ks.take (i + 1)) = lgE.sum (ks.take i) + lgE e := by
  rw [List.take_add_one, h, lgsum_append]
  show _ + (lgE e + 0) = _
  omega
theorem lgmost_take {ks : List E} {i : Nat} {e : E} (h : ks[i]? = some e) : lgE.most (ks.take (i + 1)) = max (lgE.most (ks.take i)) (lgE e) := by
  rw [List.take_add_one, h, lgmost_append]
  show max _ (max (lgE e) 0) = _
  omega
theorem lgsum_le (ks : List E) (i : Nat) : lgE.sum (ks.take i) ≤ lgE.sum ks ∧ lgE.most (ks.take i) ≤ lgE.most ks := by
  have h1 := lgsum_append (ks.take i) (ks.drop i)
  have h2 := lgmost_append (ks.take i) (ks.drop i)
  rw [List.take_append_drop] at h1 h2
  omega
theorem lgL_le (ks : List E) : lgE.sum ks ≤ szL ks ∧ lgE.most ks ≤ szL ks := by
  induction ks with
  | nil => exact ⟨Nat.le_refl _, Nat.le_refl _⟩
  | cons f r ih =>
    have h1 := lg_le _ f (Nat.le_refl _)
    have e1 : lgE.sum (f :: r) = lgE f + lgE.sum r := rfl
    have e2 : lgE.most (f :: r) = max (lgE f) (lgE.most r) := rfl
    rw [szL_cons, e1, e2]
    omega
end Go.Proofs.Ytegkogadceodlaa
