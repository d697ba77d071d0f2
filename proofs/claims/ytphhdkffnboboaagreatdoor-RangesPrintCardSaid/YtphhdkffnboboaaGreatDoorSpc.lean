/-
  Plain mathematics: texts split at commas; the first place of a byte.
-/
import Derived.Test.YtphhdkffnboboaaGreatDoorLayU
namespace Go.Proofs.YtphhdkffnboboaaGreatDoor
open Go.RowKit Go.Shelf
open Go.Lib

/-- A text's parts between commas. -/
def splitC : List UInt8 → List (List UInt8)
  | [] => [[]]
  | c :: r => if c = 44 then [] :: splitC r else match splitC r with
    | [] => [[c]]
    | h :: t => (c :: h) :: t
theorem splitC_none : ∀ {L : List UInt8}, (∀ c ∈ L, c ≠ 44) → splitC L = [L]
  | [], _ => rfl
  | c :: r, h => by
    have h0 := h c List.mem_cons_self
    have ih := splitC_none (L := r) fun x hx => h x (List.mem_cons_of_mem _ hx)
    unfold splitC
    rw [if_neg h0, ih]
theorem splitC_at : ∀ {a b : List UInt8}, (∀ c ∈ a, c ≠ 44) → splitC (a ++ 44 :: b) = a :: splitC b
  | [], b, _ => by
    show splitC (44 :: b) = _
    rw [splitC, if_pos rfl]
  | c :: a, b, h => by
    have h0 := h c List.mem_cons_self
    have ih := splitC_at (a := a) (b := b) fun x hx => h x (List.mem_cons_of_mem _ hx)
    show splitC (c :: (a ++ 44 :: b)) = _
    rw [splitC, if_neg h0, ih]
theorem splitC_len : ∀ L : List UInt8, (splitC L).length = L.count 44 + 1
  | [] => rfl
  | c :: r => by
    have ih := splitC_len r
    unfold splitC
    by_cases h : c = 44
    · subst h
      rw [if_pos rfl, List.length_cons, ih, List.count_cons_self]
    · rw [if_neg h, List.count_cons_of_ne h]
      cases hs : splitC r with
      | nil => rw [hs] at ih; simp at ih
      | cons x t => rw [hs] at ih; simpa using ih
theorem splitC_part : ∀ (L : List UInt8), ∀ p ∈ splitC L, p.length ≤ L.length
  | [], p, hp => by
    obtain rfl : p = [] := List.mem_singleton.1 hp
    exact Nat.le_refl _
  | c :: r, p, hp => by
    have ih := splitC_part r
    unfold splitC at hp
    by_cases h : c = 44
    · rw [if_pos h] at hp
      rcases List.mem_cons.1 hp with rfl | hp
      · simp
      · have := ih p hp; simp; omega
    · rw [if_neg h] at hp
      cases hs : splitC r with
      | nil => rw [hs] at hp; obtain rfl : p = [c] := List.mem_singleton.1 hp; simp
      | cons x t =>
        rw [hs] at hp ih
        rcases List.mem_cons.1 hp with rfl | hp
        · have := ih x List.mem_cons_self; simp; omega
        · have := ih p (List.mem_cons_of_mem _ hp); simp; omega

/-- The first place of a byte. -/
theorem index_byte (x : UInt8) : ∀ L : List UInt8, (Lib.index L [x] = -1 ∧ ∀ c ∈ L, c ≠ x) ∨ ∃ a b, L = a ++ x :: b ∧ (∀ c ∈ a, c ≠ x) ∧ Lib.index L [x] = (a.length : Int)
  | [] => .inl ⟨rfl, fun c hc => by cases hc⟩
  | c :: r => by
    by_cases h : c = x
    · subst h
      refine .inr ⟨[], r, rfl, fun c hc => (by cases hc), ?_⟩
      simp [Lib.index]
    · have h' : (x == c) = false := beq_eq_false_iff_ne.2 fun e => h e.symm
      have hp : ([x] : List UInt8).isPrefixOf (c :: r) = false := by show (x == c && ([] : List UInt8).isPrefixOf r) = false; rw [h']; rfl
      rcases index_byte x r with ⟨h1, h2⟩ | ⟨a, b, rfl, h2, h3⟩
      · refine .inl ⟨?_, fun d hd => ?_⟩
        · unfold Lib.index
          rw [hp, h1]
          rfl
        · rcases List.mem_cons.1 hd with rfl | hd
          · exact h
          · exact h2 d hd
      · refine .inr ⟨c :: a, b, rfl, fun d hd => ?_, ?_⟩
        · rcases List.mem_cons.1 hd with rfl | hd
          · exact h
          · exact h2 d hd
        · unfold Lib.index
          have hm : ((a.length : Int) == -1) = false := by rw [beq_eq_false_iff_ne]; omega
          rw [hp, h3, hm]
          simp
end Go.Proofs.YtphhdkffnboboaaGreatDoor
