/-
  Mathematics of references: all lengths tried one by one, and the styles, find the same.
-/
import Derived.Test.YtpimadgcojgjaaaDoorMta
namespace Go.Proofs.YtpimadgcojgjaaaDoor
open Go.RowKit Go.Shelf Go.Lib Go.Maps Go.Great

def inner (ys : List Nat) (n : Nat) : List Nat := (ys.take (n - 1)).drop 1
structure Good (ys : List Nat) (n : Nat) : Prop where
  h3 : 3 ≤ n
  hn : n ≤ ys.length
  he : ys[n - 1]? = some 59
  hi : 0 ≤ innZ (u8s (inner ys n))
theorem inner_len {ys : List Nat} {n : Nat} (h : n ≤ ys.length) : (inner ys n).length = n - 2 := by simp [inner]; omega
theorem inner_at {ys : List Nat} {n j c : Nat} (h1 : 1 ≤ j) (h2 : j < n - 1) (hc : ys[j]? = some c) : (inner ys n)[j - 1]? = some c := by
  rw [inner, List.getElem?_drop, show 1 + (j - 1) = j by omega, List.getElem?_take, if_pos h2, hc]
theorem u8s_lenE (l : List Nat) : (u8s l).length = l.length := by simp [u8s]
theorem inner_lt {ys : List Nat} (h : ∀ x ∈ ys, x < 256) (n : Nat) : ∀ x ∈ inner ys n, x < 256 := fun x hx => h x (List.mem_of_mem_take (List.mem_of_mem_drop hx))
theorem good_no {ys : List Nat} (h256 : ∀ x ∈ ys, x < 256) {n j : Nat} (h : Good ys n) (h1 : 1 ≤ j) (h2 : j < n - 1) : ys[j]? ≠ some 59 := fun hc => by
  have := (innZ_len h.hi).1
  rw [nats_u8s _ (inner_lt h256 n)] at this
  exact this (List.mem_of_getElem? (inner_at h1 h2 hc))
theorem good_uni {ys : List Nat} (h256 : ∀ x ∈ ys, x < 256) {n m : Nat} (h : Good ys n) (h' : Good ys m) : n = m := by
  have a := h.h3
  have b := h'.h3
  rcases Nat.lt_trichotomy n m with e | e | e
  · exact absurd h.he (good_no h256 h' (j := n - 1) (by omega) (by omega))
  · exact e
  · exact absurd h'.he (good_no h256 h (j := m - 1) (by omega) (by omega))
theorem good_10 {ys : List Nat} {n : Nat} (h : Good ys n) : n ≤ 10 ∧ 4 ≤ n := by
  have h1 := (innZ_len h.hi).2
  have h3 := h.h3
  rw [u8s_lenE, inner_len h.hn] at h1
  omega
theorem cut_eq (xs : List Nat) (k n : Nat) : cutT xs k n = (xs.drop k).take n := by
  rw [cutT, List.drop_take]
  congr 1
  omega
theorem whole_eq {ys : List Nat} (h256 : ∀ x ∈ ys, x < 256) {n : Nat} (h3 : 3 ≤ n) (hn : n ≤ ys.length) : wholeZ (u8s (ys.take n)) = if ys.getD 0 0 ≠ 38 ∨ ys.getD (n - 1) 0 ≠ 59 then -1 else innZ (u8s (inner ys n)) := by
  have hl : (ys.take n).length = n := by rw [List.length_take]; omega
  have hN : nats (u8s (ys.take n)) = ys.take n := nats_u8s _ fun x hx => h256 x (List.mem_of_mem_take hx)
  have g0 : (ys.take n).getD 0 0 = ys.getD 0 0 := by
    simp only [List.getD_eq_getElem?_getD, List.getElem?_take]
    rw [if_pos (by omega)]
  have g1 : (ys.take n).getD (n - 1) 0 = ys.getD (n - 1) 0 := by
    simp only [List.getD_eq_getElem?_getD, List.getElem?_take]
    rw [if_pos (by omega)]
  have hin : ((u8s (ys.take n)).take (n - 1)).drop 1 = u8s (inner ys n) := by
    simp only [u8s, inner, List.map_drop, List.map_take, List.take_take]
    rw [show min (n - 1) n = n - 1 by omega]
  rw [wholeZ, u8s_lenE, hl, hN, g0, g1, hin]
  by_cases hc : ys.getD 0 0 ≠ 38 ∨ ys.getD (n - 1) 0 ≠ 59
  · rw [if_pos hc, if_pos (Or.inr hc)]
  · rw [if_neg hc, if_neg (fun e => e.elim (fun e => by omega) hc)]
theorem whole_good {ys : List Nat} (h256 : ∀ x ∈ ys, x < 256) {n : Nat} (h3 : 3 ≤ n) (hn : n ≤ ys.length) (h : 0 ≤ wholeZ (u8s (ys.take n))) : ys.getD 0 0 = 38 ∧ Good ys n := by
  rw [whole_eq h256 h3 hn] at h
  split at h
  · omega
  · rename_i hc
    have c0 : ys.getD 0 0 = 38 := Classical.byContradiction fun e => hc (Or.inl e)
    have c1 : ys.getD (n - 1) 0 = 59 := Classical.byContradiction fun e => hc (Or.inr e)
    refine ⟨c0, h3, hn, ?_, h⟩
    obtain ⟨c, hcc⟩ := at_lt (l := ys) (k := n - 1) (by omega)
    rw [List.getD_eq_getElem?_getD, hcc] at c1
    rw [hcc]
    exact congrArg some c1
theorem good_whole {ys : List Nat} (h256 : ∀ x ∈ ys, x < 256) {n : Nat} (h0 : ys.getD 0 0 = 38) (h : Good ys n) : wholeZ (u8s (ys.take n)) = innZ (u8s (inner ys n)) := by
  rw [whole_eq h256 h.h3 h.hn, if_neg]
  rintro (e | e)
  · exact e h0
  · rw [List.getD_eq_getElem?_getD, h.he] at e
    exact e rfl
/-- What the document's side answers. -/
theorem ref_good {xs : List Nat} {k n : Nat} (h256 : ∀ x ∈ xs.drop k, x < 256) (hk : k < xs.length) (h0 : (xs.drop k).getD 0 0 = 38) (h : Good (xs.drop k) n) : refFrom xs k 8 3 = (innZ (u8s (inner (xs.drop k) n)), n) := by
  have hl : (xs.drop k).length = xs.length - k := List.length_drop
  have hn := h.hn
  have hw := good_whole h256 h0 h
  have := refFrom_hit (xs := xs) (k := k) (p := n) (by omega) (by rw [cut_eq, hw]; exact h.hi) 8 3 h.h3 (by have := (good_10 h).1; omega) (fun j h3 hj hz => by
    rw [cut_eq] at hz
    have := (whole_good h256 h3 (by omega) hz).2
    have := good_uni h256 h this
    omega)
  rw [this, cut_eq, hw]
theorem ref_none {xs : List Nat} {k : Nat} (h256 : ∀ x ∈ xs.drop k, x < 256) (hk : k < xs.length) (h : ∀ n, (xs.drop k).getD 0 0 = 38 → ¬ Good (xs.drop k) n) : refFrom xs k 8 3 = (0, 0) := by
  have hl : (xs.drop k).length = xs.length - k := List.length_drop
  refine refFrom_none 8 3 fun j h3 hj hz => ?_
  rw [cut_eq] at hz
  obtain ⟨a, b⟩ := whole_good h256 h3 (by omega) hz
  exact h j a b
/-- All styles in turn. -/
theorem readS_is {ys : List Nat} {Z : Int} {n : Nat} : ∀ (L : List Sty), (∀ s ∈ L, ∀ m, followR s.beg s.may ys = (m, true) → s.means ((ys.take (m - 1)).drop s.beg.length) = Z ∧ m = n) → (∃ s ∈ L, ∃ m, followR s.beg s.may ys = (m, true)) → readS L ys = (Z, n)
  | [], _, h => by obtain ⟨s, hs, _⟩ := h; cases hs
  | s :: L, h1, h2 => by
    rw [readS]
    obtain ⟨m, b, hf⟩ : ∃ m b, followR s.beg s.may ys = (m, b) := ⟨_, _, rfl⟩
    rw [hf]
    cases b with
    | true =>
      obtain ⟨e1, e2⟩ := h1 s (by simp) m hf
      simp only [if_true]
      rw [e1, e2]
    | false =>
      simp only [Bool.false_eq_true, if_false]
      refine readS_is L (fun s' hs' => h1 s' (by simp [hs'])) ?_
      obtain ⟨s', hs', m', hf'⟩ := h2
      rcases List.mem_cons.1 hs' with rfl | hs'
      · rw [hf] at hf'
        cases hf'
      · exact ⟨s', hs', m', hf'⟩
theorem readS_none {ys : List Nat} : ∀ (L : List Sty), (∀ s ∈ L, ∀ m, followR s.beg s.may ys ≠ (m, true)) → readS L ys = (0, 0)
  | [], _ => rfl
  | s :: L, h1 => by
    rw [readS]
    obtain ⟨m, b, hf⟩ : ∃ m b, followR s.beg s.may ys = (m, b) := ⟨_, _, rfl⟩
    rw [hf]
    cases b with
    | true => exact absurd hf (h1 s (by simp) m)
    | false =>
      simp only [Bool.false_eq_true, if_false]
      exact readS_none L fun s' hs' => h1 s' (by simp [hs'])
end Go.Proofs.YtpimadgcojgjaaaDoor
