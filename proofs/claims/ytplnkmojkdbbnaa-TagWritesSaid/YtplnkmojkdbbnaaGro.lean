/-
  What more bytes behind a mark change, without a program.
-/
import Derived.Test.YtplnkmojkdbbnaaRea
namespace Go.Proofs.Ytplnkmojkdbbnaa
open Go.RowKit Go.Shelf Go.Lib Go.Maps Go.Sort

theorem refEnd_c (N k : Nat) (s : RS) : (refEnd N k s).closed = false ∧ (refEnd N k s).size = N ∧ (refEnd N k s).single = false := ⟨rfl, rfl, rfl⟩
theorem ref_cons (N k : Nat) (s : RS) (c : Nat) (t : List Nat) : (∃ u, refStep s c = (u, true) ∧ refGo N k s (c :: t) = ⟨k, N - t.length, u.tn, u.«as», u.slash, true⟩) ∨ (∃ u, refStep s c = (u, false) ∧ refGo N k s (c :: t) = refGo N k u t) := by
  cases h : refStep s c with
  | mk u e =>
    cases e with
    | true => exact .inl ⟨u, rfl, ref_end h⟩
    | false => exact .inr ⟨u, rfl, ref_on h⟩
theorem ref_size_ge (N k : Nat) : ∀ (l : List Nat) (s : RS), N - l.length ≤ (refGo N k s l).size
  | [], s => by show N - 0 ≤ N; omega
  | c :: t, s => by
    rcases ref_cons N k s c t with ⟨u, _, h⟩ | ⟨u, _, h⟩
    · rw [h]; simp; omega
    · rw [h]
      have := ref_size_ge N k t u
      simp
      omega
theorem ref_closed (N k : Nat) (more : List Nat) : ∀ (l : List Nat) (s : RS), (refGo N k s l).closed = true → refGo (N + more.length) k s (l ++ more) = refGo N k s l ∧ (refGo N k s l).size ≤ N ∧ N - l.length + (if N < l.length then 0 else 1) ≤ (refGo N k s l).size
  | [], s, h => by cases h
  | c :: t, s, h => by
    rcases ref_cons N k s c t with ⟨u, hu, e⟩ | ⟨u, hu, e⟩
    · rw [e]
      refine ⟨?_, by simp, by simp; split <;> omega⟩
      rw [List.cons_append, ref_end hu]
      congr 1
      simp
      omega
    · rw [e] at h ⊢
      obtain ⟨h1, h2, h3⟩ := ref_closed N k more t u h
      refine ⟨?_, h2, ?_⟩
      · rw [List.cons_append, ref_on hu]; exact h1
      · simp
        split at h3 <;> split <;> omega
theorem ref_open (N k : Nat) (more : List Nat) : ∀ (l : List Nat) (s : RS), (refGo N k s l).closed = false → (refGo N k s l).size = N ∧ (refGo N k s l).single = false ∧ N ≤ (refGo (N + more.length) k s (l ++ more)).size
  | [], s, h => by
    refine ⟨rfl, rfl, ?_⟩
    have := ref_size_ge (N + more.length) k more s
    simp at this ⊢
    omega
  | c :: t, s, h => by
    rcases ref_cons N k s c t with ⟨u, hu, e⟩ | ⟨u, hu, e⟩
    · rw [e] at h; cases h
    · rw [e] at h ⊢
      rw [List.cons_append, ref_on hu]
      exact ref_open N k more t u h
theorem up_size_ge (N k : Nat) (e : List Nat) : ∀ (l : List Nat), N - l.length ≤ (upGo N k e l).size
  | [] => by show N - 0 ≤ N; omega
  | c :: t => by
    rw [upGo]
    split
    · simp
    · have := up_size_ge N k e t
      simp
      omega
theorem up_len (N k : Nat) (e : List Nat) : ∀ (l : List Nat), (upGo N k e l).closed = true → e.length ≤ l.length
  | [], h => by cases h
  | c :: t, h => by
    rw [upGo] at h
    split at h
    · rename_i hp
      exact (List.isPrefixOf_iff_prefix.1 hp).length_le
    · have := up_len N k e t h
      simp
      omega
theorem prefix_more {e l more : List Nat} (h : e.length ≤ l.length) : e.isPrefixOf (l ++ more) = e.isPrefixOf l := by
  rw [Bool.eq_iff_iff, List.isPrefixOf_iff_prefix, List.isPrefixOf_iff_prefix]
  constructor
  · intro hp
    exact List.prefix_of_prefix_length_le hp (List.prefix_append l more) h
  · intro hp
    exact hp.trans (List.prefix_append l more)
theorem up_closed (N k : Nat) (e more : List Nat) : ∀ (l : List Nat), l.length ≤ N → (upGo N k e l).closed = true → upGo (N + more.length) k e (l ++ more) = upGo N k e l ∧ (upGo N k e l).size ≤ N ∧ N - l.length + e.length ≤ (upGo N k e l).size
  | [], _, h => by cases h
  | c :: t, hN, h => by
    have hl := up_len N k e (c :: t) h
    have hp := prefix_more (more := more) hl
    simp at hN hl
    rw [upGo] at h
    rw [List.cons_append] at hp ⊢
    rw [upGo, upGo, hp]
    by_cases hh : e.isPrefixOf (c :: t) = true
    · rw [if_pos hh, if_pos hh]
      refine ⟨?_, by simp; omega, by simp⟩
      congr 1
      simp
      omega
    · rw [if_neg hh] at h ⊢
      rw [if_neg hh]
      obtain ⟨h1, h2, h3⟩ := up_closed N k e more t (by omega) h
      exact ⟨h1, h2, by simp; omega⟩
theorem up_open (N k : Nat) (e more : List Nat) : ∀ (l : List Nat), l.length ≤ N → (upGo N k e l).closed = false → (upGo N k e l).size = N ∧ N ≤ (upGo (N + more.length) k e (l ++ more)).size
  | [], _, _ => by
    refine ⟨rfl, ?_⟩
    have := up_size_ge (N + more.length) k e more
    simp at this ⊢
    omega
  | c :: t, hN, h => by
    simp at hN
    rw [upGo] at h ⊢
    by_cases hh : e.isPrefixOf (c :: t) = true
    · rw [if_pos hh] at h; cases h
    · rw [if_neg hh] at h ⊢
      obtain ⟨h1, h2⟩ := up_open N k e more t (by omega) h
      refine ⟨h1, ?_⟩
      rw [List.cons_append, upGo]
      split
      · rename_i hp
        have : ¬ e.length ≤ (c :: t).length := fun hle => hh (by rw [← prefix_more (more := more) hle]; exact hp)
        simp at this ⊢
        omega
      · exact h2
/-- What is asked of two marks, one of which has more bytes. -/
def GrowOk (n : Nat) (O U : Option TG) : Prop :=
  (O = none ∧ (n < 2 ∨ U = none)) ∨ ∃ T V, O = some T ∧ U = some V ∧ T.size ≤ n ∧ 2 ≤ T.size ∧
    ((T.closed = true ∧ V = T) ∨ (T.closed = false ∧ T.size = n ∧ n ≤ V.size ∧ T.single = false))
theorem grow_ref (N k : Nat) (more l : List Nat) (s : RS) (hN : l.length + 1 ≤ N) (h2 : 2 ≤ N) : GrowOk N (some (refGo N k s l)) (some (refGo (N + more.length) k s (l ++ more))) := by
  refine .inr ⟨_, _, rfl, rfl, ?_⟩
  cases h : (refGo N k s l).closed with
  | true =>
    obtain ⟨h1, h3, h4⟩ := ref_closed N k more l s h
    rw [if_neg (by omega)] at h4
    exact ⟨h3, by omega, .inl ⟨rfl, h1⟩⟩
  | false =>
    obtain ⟨h1, h3, h4⟩ := ref_open N k more l s h
    exact ⟨by omega, by omega, .inr ⟨rfl, h1, h4, h3⟩⟩
theorem grow_up (N k : Nat) (e more l : List Nat) (hN : l.length + 2 ≤ N) (he : 1 ≤ e.length) : GrowOk N (some (upGo N k e l)) (some (upGo (N + more.length) k e (l ++ more))) := by
  refine .inr ⟨_, _, rfl, rfl, ?_⟩
  have hs := (upGo_plain N k e l).2.2
  cases h : (upGo N k e l).closed with
  | true =>
    obtain ⟨h1, h3, h4⟩ := up_closed N k e more l (by omega) h
    exact ⟨h3, by omega, .inl ⟨rfl, h1⟩⟩
  | false =>
    obtain ⟨h1, h4⟩ := up_open N k e more l (by omega) h
    exact ⟨by omega, by omega, .inr ⟨rfl, h1, h4, hs⟩⟩
/-- An unclosed mark, and another one that has no byte fewer. -/
theorem grow_any (N k _M : Nat) (e l : List Nat) (V : TG) (hN : l.length + 2 ≤ N) (hc : (upGo N k e l).closed = false) (hV : N ≤ V.size) : GrowOk N (some (upGo N k e l)) (some V) := by
  obtain ⟨h1, _⟩ := up_open N k e [] l (by omega) hc
  exact .inr ⟨_, _, rfl, rfl, by omega, by omega, .inr ⟨hc, h1, hV, (upGo_plain N k e l).2.2⟩⟩
theorem grow_rd (b more : List Nat) : GrowOk b.length (rdT b) (rdT (b ++ more)) := by
  match b with
  | [] => exact .inl ⟨rfl, .inl (by simp)⟩
  | [d] => exact .inl ⟨rfl, .inl (by simp)⟩
  | d :: c :: t =>
    have hl : (d :: c :: t).length = t.length + 2 := rfl
    rw [hl]
    have hm : (t ++ more).length + 2 = t.length + 2 + more.length := by simp; omega
    by_cases hd : d = 60
    case neg => exact .inl ⟨by simp [rdT, hd], .inr (by simp [rdT, hd])⟩
    subst hd
    by_cases hc : ltrB c = true
    · have e1 : rdT (60 :: c :: t) = some (refGo (t.length + 2) 0 rs0 (c :: t)) := by simp [rdT, hc]
      have e2 : rdT (60 :: c :: t ++ more) = some (refGo (t.length + 2 + more.length) 0 rs0 (c :: t ++ more)) := by
        show rdT (60 :: c :: (t ++ more)) = _
        simp only [rdT, hc, ne_eq, not_true_eq_false, if_false, if_true]
        rw [hm]
        rfl
      rw [e1, e2]
      exact grow_ref _ _ _ _ _ (by simp) (by omega)
    have hcf : ltrB c = false := by simpa using hc
    have R : ∀ u, rdT (60 :: c :: u) = if c = 47 ∧ (u.head?.map ltrB) = some true then some (refGo (u.length + 2) 1 rs0 u)
        else if c = 33 ∧ u.take 2 = [45, 45] then some (upGo (u.length + 2) 2 [45, 45, 62] (u.drop 2))
        else if c = 33 ∨ c = 63 ∨ c = 47 then some (upGo (u.length + 2) 3 [62] u) else none := fun u => by
      simp only [rdT, hcf, ne_eq, not_true_eq_false, if_false, Bool.false_eq_true]
    have Rm : rdT (60 :: c :: t ++ more) = _ := R (t ++ more)
    rw [Rm, R, hm]
    by_cases h1 : c = 47 ∧ (t.head?.map ltrB) = some true
    · have h1' : c = 47 ∧ ((t ++ more).head?.map ltrB) = some true := ⟨h1.1, by
        cases t with
        | nil => simp at h1
        | cons a u => exact h1.2⟩
      rw [if_pos h1, if_pos h1']
      exact grow_ref _ _ _ _ _ (by omega) (by omega)
    rw [if_neg h1]
    by_cases h2 : c = 33 ∧ t.take 2 = [45, 45]
    · have h1' : ¬ (c = 47 ∧ ((t ++ more).head?.map ltrB) = some true) := fun h => by omega
      have h2l : 2 ≤ t.length := by have := congrArg List.length h2.2; simp at this; omega
      have h2' : c = 33 ∧ (t ++ more).take 2 = [45, 45] := ⟨h2.1, by rw [List.take_append_of_le_length h2l]; exact h2.2⟩
      rw [if_pos h2, if_neg h1', if_pos h2', List.drop_append_of_le_length h2l]
      exact grow_up _ _ _ _ _ (by simp) (by simp)
    rw [if_neg h2]
    by_cases h3 : c = 33 ∨ c = 63 ∨ c = 47
    case neg =>
      rw [if_neg h3]
      refine .inl ⟨rfl, .inr ?_⟩
      rw [if_neg (fun h => h3 (.inr (.inr h.1))), if_neg (fun h => h3 (.inl h.1)), if_neg h3]
    rw [if_pos h3]
    by_cases h1' : c = 47 ∧ ((t ++ more).head?.map ltrB) = some true
    · have ht : t = [] := by
        cases t with
        | nil => rfl
        | cons a u => exact absurd ⟨h1'.1, h1'.2⟩ h1
      subst ht
      rw [if_pos h1']
      refine grow_any _ _ 0 _ _ _ (by simp) rfl ?_
      have := ref_size_ge (0 + 2 + more.length) 1 more rs0
      simp at this ⊢
      omega
    rw [if_neg h1']
    by_cases h2' : c = 33 ∧ (t ++ more).take 2 = [45, 45]
    · rw [if_pos h2']
      have hlt : t.length < 2 := by
        apply Nat.lt_of_not_le
        intro h
        rw [List.take_append_of_le_length h] at h2'
        exact h2 h2'
      have hge := up_size_ge (t.length + 2 + more.length) 2 [45, 45, 62] ((t ++ more).drop 2)
      have hlm : 2 ≤ (t ++ more).length := by have := congrArg List.length h2'.2; simp at this ⊢; omega
      refine grow_any _ _ 0 _ _ _ (by omega) ?_ ?_
      · match t, hlt with
        | [], _ => rfl
        | [a], _ =>
          have : a = 45 := by
            have := congrArg List.head? h2'.2
            simp at this
            exact this
          subst this
          rfl
      · simp at hge hlm ⊢
        omega
    rw [if_neg h2', if_pos h3]
    exact grow_up _ _ _ _ _ (by omega) (by simp)
end Go.Proofs.Ytplnkmojkdbbnaa
