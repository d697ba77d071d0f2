/-
  Mathematics of references: where one ends; all lengths tried one by one; what lies within.
-/
import Derived.Test.YtpimadgcojgjaaaDoorRre
import Derived.Test.YtpimadgcojgjaaaDoorSty
namespace Go.Proofs.YtpimadgcojgjaaaDoor
open Go.RowKit Go.Shelf Go.Lib Go.Maps Go.Great

theorem refFrom_none {xs : List Nat} {k : Nat} : ∀ (f n : Nat), (∀ j, n ≤ j → k + j ≤ xs.length → ¬ 0 ≤ wholeZ (u8s (cutT xs k j))) → refFrom xs k f n = (0, 0)
  | 0, n, _ => rfl
  | f + 1, n, h => by
    rw [refFrom]
    split
    · rename_i hk
      rw [if_neg (h n (Nat.le_refl _) hk), refFrom_none f (n + 1) (fun j hj => h j (by omega))]
    · rfl
theorem refFrom_hit {xs : List Nat} {k p : Nat} (hp : k + p ≤ xs.length) (hw : 0 ≤ wholeZ (u8s (cutT xs k p))) : ∀ (f n : Nat), n ≤ p → p < n + f → (∀ j, n ≤ j → j < p → ¬ 0 ≤ wholeZ (u8s (cutT xs k j))) → refFrom xs k f n = (wholeZ (u8s (cutT xs k p)), p)
  | 0, n, h1, h2, _ => by omega
  | f + 1, n, h1, h2, h => by
    rw [refFrom, if_pos (by omega)]
    by_cases e : n = p
    · subst e
      rw [if_pos hw]
    · rw [if_neg (h n (Nat.le_refl _) (by omega)), refFrom_hit hp hw f (n + 1) (by omega) (by omega) (fun j hj => h j (by omega))]
theorem nm_inn : ∀ x ∈ nmE, 59 ∉ nats x.1 ∧ 2 ≤ x.1.length ∧ x.1.length ≤ 8 ∧ 0 ≤ x.2 ∧ (nats x.1).getD 0 0 ≠ 35 := by decide +kernel
theorem numZ_ok {b most : Nat} {u : List Nat} (h : 0 ≤ numZ b most u) : u ≠ [] ∧ u.length ≤ most ∧ (∀ x ∈ u, dgB b x = true) ∧ numZ b most u = mnR (nbV b u 0) := by
  unfold numZ at h ⊢
  split at h
  · omega
  · rename_i h1
    rw [if_neg h1]
    split at h
    · rename_i h2
      rw [if_pos h2]
      exact ⟨fun e => h1 (Or.inl e), by
        rcases Nat.lt_or_ge most u.length with e | e
        · exact absurd (Or.inr e) h1
        · exact e, List.all_eq_true.1 h2, rfl⟩
    · omega
theorem no59 {b : Nat} (hb : b = 10 ∨ b = 16) : dgB b 59 = false := by rcases hb with rfl | rfl <;> decide
/-- Where a style's bytes are whole, the first ; behind its beginning ends them, and it may stand there. -/
theorem fol_last {may : List Nat → Nat → Bool} {xs : List Nat} {h m : Nat} : ∀ (r : List Nat) (n : Nat), r = xs.drop n → h ≤ n → fol may xs h n r = (m, true) → xs[m - 1]? = some 59 ∧ may ((xs.take (m - 1)).drop h) 59 = true ∧ ∀ j, n ≤ j → j < m - 1 → xs[j]? ≠ some 59
  | [], n, _, _, e => by simp [fol] at e
  | c :: r, n, hr, hh, e => by
    have hx : xs[n]? = some c := by have := congrArg (·[0]?) hr; simpa using this.symm
    have hr2 : r = xs.drop (n + 1) := by
      have := drop_at hx
      rw [← hr] at this
      injection this
    have hft := fun e => fol_true (may := may) (h := h) (m := m) r (n + 1) hr2 (by omega) e
    rw [fol] at e
    split at e
    · rename_i hmay
      split at e
      · rename_i hc
        simp at e
        obtain rfl := e
        subst hc
        refine ⟨by simpa using hx, by simpa using hmay, fun j h1 h2 => by omega⟩
      · rename_i hc
        obtain ⟨h1, h2, h3⟩ := fol_last r (n + 1) hr2 (by omega) e
        refine ⟨h1, h2, fun j hj hjm => ?_⟩
        by_cases e2 : j = n
        · subst e2
          rw [hx]
          intro e3
          injection e3 with e3
          exact hc e3
        · exact h3 j (by omega) hjm
    · simp at e
/-- The other way: what may follow byte for byte, and the ; last, is whole. -/
theorem fol_whole {may : List Nat → Nat → Bool} {xs : List Nat} {h p : Nat} (hp : xs[p]? = some 59) (hl : may ((xs.take p).drop h) 59 = true) (hm : ∀ j c, h ≤ j → j < p → xs[j]? = some c → c ≠ 59 ∧ may ((xs.take j).drop h) c = true) : ∀ (r : List Nat) (n : Nat), r = xs.drop n → h ≤ n → n ≤ p → fol may xs h n r = (p + 1, true)
  | [], n, hr, _, hn => by
    have := congrArg List.length hr
    have h1 := (List.getElem?_eq_some_iff.1 hp).1
    simp at this
    omega
  | c :: r, n, hr, hh, hn => by
    have hx : xs[n]? = some c := by have := congrArg (·[0]?) hr; simpa using this.symm
    have hr2 : r = xs.drop (n + 1) := by
      have := drop_at hx
      rw [← hr] at this
      injection this
    rw [fol]
    by_cases e : n = p
    · subst e
      obtain rfl := Option.some.inj (hx.symm.trans hp)
      rw [if_pos hl, if_pos rfl]
    · obtain ⟨h1, h2⟩ := hm n c hh (by omega) hx
      rw [if_pos h2, if_neg h1]
      exact fol_whole hp hl hm r (n + 1) hr2 (by omega) (by omega)
end Go.Proofs.YtpimadgcojgjaaaDoor
