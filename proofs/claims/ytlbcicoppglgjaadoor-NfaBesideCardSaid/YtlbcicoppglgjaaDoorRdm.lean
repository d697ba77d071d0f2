/-
  How many places a part has; one part more of a list. No program.
-/
import Derived.Test.YtlbcicoppglgjaaDoorLef
namespace Go.Proofs.YtlbcicoppglgjaaDoor
open Go.RowKit Go.Shelf Go.Lib Go.Great Go.Maps

theorem good_parts {k c : Int} {ks : List E} (h : goodE (.mk k c ks) = true) : k ≠ 9 ∧ shapedK k c ks.length = true ∧ goodE.all ks = true := by
  rw [goodE_eq] at h
  simp only [E.k, E.c, E.ks, Bool.and_eq_true] at h
  exact ⟨of_decide_eq_true h.1.1, h.1.2, h.2⟩
theorem shaped_many {k c : Int} {n : Nat} (h : shapedK k c n = true) (hk : k = 4 ∨ k = 5) : 2 ≤ n := by
  unfold shapedK at h
  rw [if_neg (by omega), if_neg (by omega), if_pos hk] at h
  simp at h; exact h.2
theorem shaped_one {k c : Int} {n : Nat} (h : shapedK k c n = true) (hk : k = 6 ∨ k = 7 ∨ k = 8) : n = 1 := by
  unfold shapedK at h
  rw [if_neg (by omega), if_neg (by omega), if_neg (by omega), if_pos hk] at h
  simp at h; exact h.2
theorem shaped_leaf {k c : Int} {n : Nat} (h : shapedK k c n = true) (h4 : k ≠ 4) (h5 : k ≠ 5) (h6 : k ≠ 6) (h7 : k ≠ 7) (h8 : k ≠ 8) : n = 0 := by
  unfold shapedK at h
  by_cases c1 : k = 0 ∨ k = 2
  · rw [if_pos c1] at h; simp at h; exact h.2
  · rw [if_neg c1] at h
    by_cases c2 : k = 1 ∨ k = 3 ∨ k = 9
    · rw [if_pos c2] at h; simp at h; exact h.2
    · rw [if_neg c2, if_neg (by omega), if_neg (by omega)] at h; cases h
abbrev lvL := leavesE.lvL
theorem leaves_kids {k c : Int} {ks : List E} (h : ks ≠ []) : leavesE (.mk k c ks) = lvL ks := by
  unfold leavesE; rw [if_neg h]
mutual
theorem count_readE : ∀ (e : E) (s : St), goodE e = true → (readE e s).1.count = s.count + leavesE e
  | .mk k c ks, s, h => by
    obtain ⟨h9, hs, ha⟩ := good_parts h
    unfold readE
    rw [if_neg h9]
    by_cases h4 : k = 4
    · rw [if_pos h4, leaves_kids (by have := shaped_many hs (.inl h4); rintro rfl; simp at this)]
      exact count_seqL ks s _ ha
    · rw [if_neg h4]
      by_cases h5 : k = 5
      · rw [if_pos h5, leaves_kids (by have := shaped_many hs (.inr h5); rintro rfl; simp at this)]
        exact count_altL ks s _ ha
      · rw [if_neg h5]
        by_cases h6 : k = 6
        · have h1 := shaped_one hs (.inl h6)
          rw [if_pos h6, leaves_kids (by rintro rfl; simp at h1)]
          exact count_headL ks s ha h1
        · rw [if_neg h6]
          by_cases h7 : k = 7
          · have h1 := shaped_one hs (.inr (.inl h7))
            rw [if_pos h7, leaves_kids (by rintro rfl; simp at h1)]
            exact count_headL ks s ha h1
          · rw [if_neg h7]
            by_cases h8 : k = 8
            · have h1 := shaped_one hs (.inr (.inr h8))
              rw [if_pos h8, leaves_kids (by rintro rfl; simp at h1)]
              exact count_headL ks s ha h1
            · rw [if_neg h8]
              have h0 := List.eq_nil_of_length_eq_zero (shaped_leaf hs h4 h5 h6 h7 h8)
              subst h0
              unfold leavesE
              rw [if_pos rfl, if_neg h9]
              rfl
theorem count_headL : ∀ (ks : List E) (s : St), goodE.all ks = true → ks.length = 1 → (readE.headL ks s).1.count = s.count + leavesE.lvL ks
  | [], s, _, h => by simp at h
  | e :: r, s, h, h1 => by
    have hr : r = [] := List.eq_nil_of_length_eq_zero (by simpa using h1)
    subst hr
    unfold goodE.all at h
    simp only [Bool.and_eq_true] at h
    unfold readE.headL
    rw [count_readE e s h.1]
    rfl
theorem count_seqL : ∀ (ks : List E) (s : St) (a : Sp), goodE.all ks = true → (readE.seqL ks s a).1.count = s.count + leavesE.lvL ks
  | [], s, a, _ => rfl
  | e :: r, s, a, h => by
    unfold goodE.all at h
    simp only [Bool.and_eq_true] at h
    unfold readE.seqL
    dsimp only
    rw [count_seqL r _ _ h.2]
    have := count_readE e s h.1
    have e2 : leavesE.lvL (e :: r) = leavesE e + leavesE.lvL r := rfl
    have e3 : ((readE e s).1.link a.last (readE e s).2.first).count = (readE e s).1.count := rfl
    omega
theorem count_altL : ∀ (ks : List E) (s : St) (a : Sp), goodE.all ks = true → (readE.altL ks s a).1.count = s.count + leavesE.lvL ks
  | [], s, a, _ => rfl
  | e :: r, s, a, h => by
    unfold goodE.all at h
    simp only [Bool.and_eq_true] at h
    unfold readE.altL
    dsimp only
    rw [count_altL r _ _ h.2]
    have := count_readE e s h.1
    have e2 : leavesE.lvL (e :: r) = leavesE e + leavesE.lvL r := rfl
    omega
end
theorem lvL_append (a b : List E) : lvL (a ++ b) = lvL a + lvL b := by
  induction a with
  | nil => simp [lvL, leavesE.lvL]
  | cons e r ih => simp only [List.cons_append, lvL, leavesE.lvL] at *; omega
theorem lvL_take {ks : List E} {i : Nat} {e : E} (h : ks[i]? = some e) : lvL (ks.take (i + 1)) = lvL (ks.take i) + leavesE e := by
  rw [List.take_add_one, h, lvL_append]
  simp [lvL, leavesE.lvL]
theorem lvL_take_le (ks : List E) (i : Nat) : lvL (ks.take i) ≤ lvL ks := by
  have := lvL_append (ks.take i) (ks.drop i)
  rw [List.take_append_drop] at this
  omega
theorem seqL_take {ks : List E} {i : Nat} {e : E} (h : ks[i]? = some e) (s : St) (p : Sp) :
    seqL (ks.take (i + 1)) s p = seqL [e] (seqL (ks.take i) s p).1 (seqL (ks.take i) s p).2 := by
  rw [List.take_add_one, h, Option.toList_some, seqL_append]
theorem altL_take {ks : List E} {i : Nat} {e : E} (h : ks[i]? = some e) (s : St) (p : Sp) :
    altL (ks.take (i + 1)) s p = altL [e] (altL (ks.take i) s p).1 (altL (ks.take i) s p).2 := by
  rw [List.take_add_one, h, Option.toList_some, altL_append]
theorem good_taken {ks : List E} (h : goodE.all ks = true) (i : Nat) : goodE.all (ks.take i) = true := by
  induction ks generalizing i with
  | nil => simp [goodE.all]
  | cons e r ih =>
    unfold goodE.all at h
    simp only [Bool.and_eq_true] at h
    cases i with
    | zero => rfl
    | succ i =>
      rw [List.take_succ_cons]
      unfold goodE.all
      rw [h.1, ih h.2 i]; rfl
theorem leaves_le : ∀ N e, szE e ≤ N → leavesE e ≤ szE e := by
  intro N
  induction N with
  | zero => intro e h; have := szE_pos e; omega
  | succ N ih =>
    intro e h
    obtain ⟨k, c, ks⟩ := e
    have hz := szE_eq (.mk k c ks)
    simp only [E.ks] at hz
    by_cases hk : ks = []
    · subst hk
      unfold leavesE
      rw [if_pos rfl]
      split <;> omega
    · rw [leaves_kids hk]
      have hl : ∀ l : List E, (∀ e ∈ l, szE e ≤ N) → lvL l ≤ szL l := by
        intro l
        induction l with
        | nil => intro _; simp [lvL, leavesE.lvL]
        | cons a r ih2 =>
          intro hh
          have h1 := ih a (hh a (by simp))
          have h2 := ih2 (fun e he => hh e (by simp [he]))
          simp only [lvL, leavesE.lvL, szL, szE.szL] at *
          omega
      have := hl ks (fun e he => by have := szL_mem he; omega)
      omega
end Go.Proofs.YtlbcicoppglgjaaDoor
