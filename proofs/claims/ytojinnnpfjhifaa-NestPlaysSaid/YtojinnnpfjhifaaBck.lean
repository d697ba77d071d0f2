/-
  What leads back: tags, and then their end tags; no program.
-/
import Derived.Test.YtojinnnpfjhifaaFul
import Derived.Test.YtojinnnpfjhifaaAgn
import Derived.Test.YtojinnnpfjhifaaLtr
namespace Go.Proofs.Ytojinnnpfjhifaa
open Go.RowKit Go.Shelf Go.Lib Go.Maps

theorem dis23 : ∀ x ∈ nmL 2, x ∉ nmL 3 := by decide +kernel
theorem dis24 : ∀ x ∈ nmL 2, x ∉ nmL 4 := by decide +kernel
theorem bits_alone : ∀ b0 b1 b2 b3 b4 b5 b6 : Bool, (b2 = true → b3 = false) → (b2 = true → b4 = false) →
    ∀ N, N = b0.toNat + 2 * b1.toNat + 4 * b2.toNat + 8 * b3.toNat + 16 * b4.toNat + 32 * b5.toNat + 64 * b6.toNat →
    isB N 2 = true → isB N 3 = false ∧ isB N 4 = false := by
  intro b0 b1 b2 b3 b4 b5 b6 h3 h4 N e
  subst e
  cases b2 <;> cases b3 <;> cases b4 <;> first
    | exact absurd (h3 rfl) (by decide)
    | exact absurd (h4 rfl) (by decide)
    | (cases b0 <;> cases b1 <;> cases b5 <;> cases b6 <;> decide +kernel)
theorem name_alone (nm : ByteArray) : isB (nameN nm) 2 = true → isB (nameN nm) 3 = false ∧ isB (nameN nm) 4 = false := by
  unfold nameN
  generalize nm.data.toList = n
  have key : ∀ j c, (if n ∈ nmL j then c else 0) = c * (decide (n ∈ nmL j)).toNat := fun j c => by by_cases h : n ∈ nmL j <;> simp [h]
  refine bits_alone (decide (n ∈ nmL 0)) (decide (n ∈ nmL 1)) (decide (n ∈ nmL 2)) (decide (n ∈ nmL 3)) (decide (n ∈ nmL 4)) (decide (n ∈ nmL 5)) (decide (n ∈ nmL 6)) ?_ ?_ _ ?_
  · simpa using dis23 n
  · simpa using dis24 n
  · rw [ofN_succ, ofN_succ, ofN_succ, ofN_succ, ofN_succ, ofN_succ, ofN_succ, ofN_zero]
    simp only [key]
    omega
/-- The counts are no greater than a number. -/
def Ct.le (c : Ct) (n : Nat) : Prop := c.h ≤ n ∧ c.p ≤ n ∧ c.n ≤ n
theorem clampN_step (x n : Nat) (h : x ≤ n) (b : Int) (hb : b = 0 ∨ b = 1 ∨ b = -1) : clampN x b ≤ n + 1 := by unfold clampN; omega
theorem takeC_le (N : Nat) (kd : Int) (sg : Bool) {c : Ct} {n : Nat} (h : c.le n) : (takeC N kd sg c).le (n + 1) := by
  obtain ⟨h1, h2, h3⟩ := h
  have hb := byN_cases N kd sg
  unfold takeC
  split
  · refine ⟨?_, ?_, ?_⟩
    · show (if _ then _ else _) ≤ n + 1
      split
      · exact clampN_step _ _ h1 _ hb
      · omega
    · show (if _ then _ else _) ≤ n + 1
      split
      · exact clampN_step _ _ h2 _ hb
      · omega
    · show (if _ then _ else _) ≤ n + 1
      split
      · exact clampN_step _ _ h3 _ hb
      · omega
  · exact ⟨by omega, by omega, by omega⟩
theorem Ct.le.ok {c : Ct} {n : Nat} (h : c.le n) (hn : n ≤ 255) : c.ok := ⟨by have := h.1; omega, by have := h.2.1; omega, by have := h.2.2; omega⟩
/-- A start tag, and then its end tag, lead back. -/
theorem take_back (N : Nat) (hN : isB N 2 = true → isB N 3 = false ∧ isB N 4 = false) {c : Ct} (h : c.le 200) : takeC N 3 false (takeC N 2 false c) = c := by
  obtain ⟨h1, h2, h3⟩ := h
  obtain ⟨ch, cp, cn⟩ := c
  simp only at h1 h2 h3
  unfold takeC
  rw [if_pos (show (3 : Int) = 2 ∨ (3 : Int) = 3 from .inr rfl), if_pos (show (2 : Int) = 2 ∨ (2 : Int) = 3 from .inl rfl)]
  unfold byN
  cases b1 : isB N 1
  · simp only [Bool.false_eq_true, if_false, show ¬ ((2 : Int) = 3) by omega, if_true]
    unfold addN
    have u : ∀ x : Nat, x ≤ 200 → clampN x 1 = x + 1 := fun x hx => clampN_up x (by omega)
    have d : ∀ x : Nat, x ≤ 200 → clampN (x + 1) (-1) = x := fun x hx => clampN_down x (by omega)
    cases b2 : isB N 2
    · cases b3 : isB N 3 <;> cases b4 : isB N 4 <;> by_cases e : ch = 0 <;> simp [e, u, d, h2, h3]
    · obtain ⟨b3, b4⟩ := hN b2
      simp [b3, b4, u, d, h1]
  · simp only [if_true]
    unfold addN
    have z : ∀ x : Nat, x ≤ 200 → clampN x 0 = x := fun x hx => clampN_zero x (by omega)
    by_cases e : ch = 0 <;> simp [e, z, h1, h2, h3]
/-- Tags, taken. -/
def foldT (l : List TG) (c : Ct) : Ct := l.foldl (fun c t => takeC (nameN t.n) t.k t.s c) c
/-- Start tags, taken. -/
def upT (l : List TG) (c : Ct) : Ct := l.foldl (fun c t => takeC (nameN t.n) 2 false c) c
theorem foldT_snoc {l : List TG} {i : Nat} {t : TG} (h : l[i]? = some t) (c : Ct) : foldT (l.take (i + 1)) c = takeC (nameN t.n) t.k t.s (foldT (l.take i) c) := by
  rw [List.take_add_one, h]
  simp [foldT]
theorem upT_snoc {l : List TG} {i : Nat} {t : TG} (h : l[i]? = some t) (c : Ct) : upT (l.take (i + 1)) c = takeC (nameN t.n) 2 false (upT (l.take i) c) := by
  rw [List.take_add_one, h]
  simp [upT]
theorem foldT_le (l : List TG) {c : Ct} {n : Nat} (h : c.le n) : (foldT l c).le (n + l.length) := by
  induction l generalizing c n with
  | nil => exact h
  | cons t r ih =>
    have := ih (takeC_le (nameN t.n) t.k t.s h)
    rw [show n + (t :: r).length = n + 1 + r.length by simp; omega]
    exact this
theorem upT_le (l : List TG) {c : Ct} {n : Nat} (h : c.le n) : (upT l c).le (n + l.length) := by
  induction l generalizing c n with
  | nil => exact h
  | cons t r ih =>
    have := ih (takeC_le (nameN t.n) 2 false h)
    rw [show n + (t :: r).length = n + 1 + r.length by simp; omega]
    exact this
theorem upT_back {l : List TG} {i : Nat} {t : TG} (h : l[i]? = some t) {c : Ct} (hc : c.le 40) (hl : l.length ≤ 40) : takeC (nameN t.n) 3 false (upT (l.take (i + 1)) c) = upT (l.take i) c := by
  rw [upT_snoc h]
  refine take_back _ (name_alone t.n) ?_
  have := upT_le (l.take i) hc
  have e : (l.take i).length ≤ 40 := by rw [List.length_take]; omega
  exact ⟨by have := this.1; omega, by have := this.2.1; omega, by have := this.2.2; omega⟩
end Go.Proofs.Ytojinnnpfjhifaa
