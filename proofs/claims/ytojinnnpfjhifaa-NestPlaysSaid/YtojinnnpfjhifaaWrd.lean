/-
  Element: a name among names, with a blank before and behind each.
-/
import Derived.Lib.IndexMore
namespace Go.Proofs.Ytojinnnpfjhifaa
open Go.Lib

theorem contains_iff (s sub : List UInt8) : contains s sub = true ↔ ∃ a c, s = a ++ (sub ++ c) := by
  unfold contains
  rw [decide_eq_true_eq]
  constructor
  · intro h
    rcases index_spec s sub with ⟨h1, _⟩ | ⟨i, _, h2, h3, _⟩
    · omega
    · unfold occAt at h3
      obtain ⟨c, hc⟩ := List.isPrefixOf_iff_prefix.1 h3
      exact ⟨s.take i, c, by rw [hc, List.take_append_drop]⟩
  · rintro ⟨a, c, rfl⟩
    rcases index_spec (a ++ (sub ++ c)) sub with ⟨_, h2⟩ | ⟨i, h1, _⟩
    · have := h2 a.length (by simp)
      unfold occAt at this
      rw [List.drop_left] at this
      have h3 : sub.isPrefixOf (sub ++ c) = true := List.isPrefixOf_iff_prefix.2 ⟨c, rfl⟩
      rw [h3] at this
      cases this
    · omega
/-- Names, one behind another, with a blank before each, and one behind the last. -/
def joinB : List (List UInt8) → List UInt8
  | [] => [32]
  | w :: r => 32 :: (w ++ joinB r)
theorem joinB_head : ∀ ws : List (List UInt8), ∃ t, joinB ws = 32 :: t
  | [] => ⟨_, rfl⟩
  | _ :: _ => ⟨_, rfl⟩
theorem split32 : ∀ {n w x y : List UInt8}, 32 ∉ n → 32 ∉ w → n ++ 32 :: x = w ++ 32 :: y → n = w ∧ x = y
  | [], [], _, _, _, _, h => ⟨rfl, by simpa using h⟩
  | [], b :: w, _, _, _, hw, h => by
    simp at h
    rw [← h.1] at hw
    simp at hw
  | a :: n, [], _, _, hn, _, h => by
    simp at h
    rw [h.1] at hn
    simp at hn
  | a :: n, b :: w, x, y, hn, hw, h => by
    simp at h
    have h1 : 32 ∉ n := fun h => hn (List.mem_cons_of_mem _ h)
    have h2 : 32 ∉ w := fun h => hw (List.mem_cons_of_mem _ h)
    obtain ⟨e1, e2⟩ := split32 h1 h2 h.2
    exact ⟨by rw [h.1, e1], e2⟩
theorem skip32 : ∀ {w a x y : List UInt8}, 32 ∉ w → a ++ 32 :: x = w ++ y → ∃ a', a = w ++ a'
  | [], a, _, _, _, _ => ⟨a, rfl⟩
  | b :: w, [], _, _, hw, h => by
    simp at h
    rw [← h.1] at hw
    simp at hw
  | b :: w, c :: a, x, y, hw, h => by
    simp at h
    have h2 : 32 ∉ w := fun h => hw (List.mem_cons_of_mem _ h)
    obtain ⟨a', ha⟩ := skip32 h2 h.2
    exact ⟨a', by rw [h.1, ha]; rfl⟩
theorem in_join {n : List UInt8} (hn : 32 ∉ n) : ∀ {ws : List (List UInt8)}, (∀ w ∈ ws, 32 ∉ w) → ((∃ a c, joinB ws = a ++ (32 :: (n ++ [32]) ++ c)) ↔ n ∈ ws)
  | [], _ => by
    constructor
    · rintro ⟨a, c, h⟩
      have := congrArg List.length h
      simp [joinB] at this
      omega
    · intro h
      cases h
  | w :: r, hw => by
    have hw1 : 32 ∉ w := hw w (List.mem_cons_self ..)
    have ih := in_join hn (ws := r) (fun x hx => hw x (List.mem_cons_of_mem _ hx))
    obtain ⟨t, ht⟩ := joinB_head r
    constructor
    · rintro ⟨a, c, h⟩
      cases a with
      | nil =>
        unfold joinB at h
        rw [ht] at h
        simp at h
        exact List.mem_cons.2 (.inl (split32 hw1 hn h).1.symm)
      | cons b a =>
        unfold joinB at h
        simp at h
        obtain ⟨a', rfl⟩ := skip32 hw1 h.2.symm
        rw [List.append_assoc, List.append_cancel_left_eq] at h
        exact List.mem_cons_of_mem _ (ih.1 ⟨a', c, by rw [h.2]; simp⟩)
    · intro h
      rcases List.mem_cons.1 h with rfl | h
      · exact ⟨[], t, by unfold joinB; rw [ht]; simp⟩
      · obtain ⟨a, c, h2⟩ := ih.2 h
        exact ⟨32 :: (w ++ a), c, by rw [joinB, h2]; simp⟩
theorem contains_join {n : List UInt8} (hn : 32 ∉ n) {ws : List (List UInt8)} (hw : ∀ w ∈ ws, 32 ∉ w) : contains (joinB ws) (32 :: (n ++ [32])) = decide (n ∈ ws) := by
  rw [Bool.eq_iff_iff, contains_iff, decide_eq_true_eq, ← in_join hn hw]
theorem contains_blank (n : List UInt8) : contains n [32] = decide (32 ∈ n) := by
  rw [Bool.eq_iff_iff, contains_iff, decide_eq_true_eq]
  constructor
  · rintro ⟨a, c, rfl⟩
    simp
  · intro h
    obtain ⟨a, c, rfl⟩ := List.append_of_mem h
    exact ⟨a, c, by simp⟩
end Go.Proofs.Ytojinnnpfjhifaa
