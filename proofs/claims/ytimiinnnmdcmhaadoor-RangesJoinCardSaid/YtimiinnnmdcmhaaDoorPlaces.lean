/-
  PLAIN LEAN over the contracts' words: which scalar a byte is in.
-/
import Derived.Test.YtimiinnnmdcmhaaDoorWhole
namespace Go.Proofs.YtimiinnnmdcmhaaDoor
open Go.RowKit Go.Shelf
open Go.Lib

/-- Behind a sequence's first byte its bytes continue it. -/
theorem pc_cont (n : Nat) (f : Nat → Nat) (hn : 1 ≤ n) (h8 : f 0 < 256) (j : Nat) (h1 : 1 ≤ j) (hj : j < (pc n f).2.1) : 128 ≤ f j ∧ f j ≤ 191 := by
  by_cases a1 : f 0 < 128
  · rw [pcA hn a1] at hj; simp at hj; omega
  · by_cases a2 : f 0 < 194 ∨ 245 ≤ f 0
    · rw [pcX hn (by omega)] at hj; simp at hj; omega
    · by_cases a3 : f 0 < 224
      · rw [pc2 hn (by omega)] at hj
        by_cases c : 1 < n ∧ 128 ≤ f 1 ∧ f 1 ≤ 191
        · rw [if_pos c] at hj
          have : j < 2 := hj
          obtain rfl : j = 1 := by omega
          exact c.2
        · rw [if_neg c] at hj
          have : j < 1 := hj
          omega
      · by_cases a4 : f 0 < 240
        · rw [pc3 hn (by omega)] at hj
          by_cases c : 1 < n ∧ (if f 0 = 224 then 160 else 128) ≤ f 1 ∧ f 1 ≤ (if f 0 = 237 then 159 else 191)
          · have c1 : 128 ≤ f 1 ∧ f 1 ≤ 191 := by
              obtain ⟨_, c2, c3⟩ := c
              split at c2 <;> split at c3 <;> omega
            rw [if_pos c] at hj
            by_cases d : 2 < n ∧ 128 ≤ f 2 ∧ f 2 ≤ 191
            · rw [if_pos d] at hj
              have : j < 3 := hj
              obtain rfl | rfl : j = 1 ∨ j = 2 := by omega
              · exact c1
              · exact d.2
            · rw [if_neg d] at hj
              have : j < 2 := hj
              obtain rfl : j = 1 := by omega
              exact c1
          · rw [if_neg c] at hj
            have : j < 1 := hj
            omega
        · rw [pc4 hn (by omega)] at hj
          by_cases c : 1 < n ∧ (if f 0 = 240 then 144 else 128) ≤ f 1 ∧ f 1 ≤ (if f 0 = 244 then 143 else 191)
          · have c1 : 128 ≤ f 1 ∧ f 1 ≤ 191 := by
              obtain ⟨_, c2, c3⟩ := c
              split at c2 <;> split at c3 <;> omega
            rw [if_pos c] at hj
            by_cases d : 2 < n ∧ 128 ≤ f 2 ∧ f 2 ≤ 191
            · rw [if_pos d] at hj
              by_cases e : 3 < n ∧ 128 ≤ f 3 ∧ f 3 ≤ 191
              · rw [if_pos e] at hj
                have : j < 4 := hj
                obtain rfl | rfl | rfl : j = 1 ∨ j = 2 ∨ j = 3 := by omega
                · exact c1
                · exact d.2
                · exact e.2
              · rw [if_neg e] at hj
                have : j < 3 := hj
                obtain rfl | rfl : j = 1 ∨ j = 2 := by omega
                · exact c1
                · exact d.2
            · rw [if_neg d] at hj
              have : j < 2 := hj
              obtain rfl : j = 1 := by omega
              exact c1
          · rw [if_neg c] at hj
            have : j < 1 := hj
            omega

theorem rd_cont {n : Nat} {f : Nat → Nat} {i j : Nat} (h8 : ∀ j, j < n → f j < 256) (hi : i < n) (h1 : i < j) (h2 : j < i + (rd n f i).2.2.1) : 128 ≤ f j ∧ f j ≤ 191 := by
  have := pc_cont (n - i) (fun q => f (i + q)) (by omega) (h8 i hi) (j - i) (by omega) (by show j - i < (rd n f i).2.2.1; omega)
  rw [show i + (j - i) = j from by omega] at this
  exact this
theorem rd_one {n : Nat} {f : Nat → Nat} {i : Nat} (hi : i < n) (h : 128 ≤ f i ∧ f i ≤ 191) : (rd n f i).2.2.1 = 1 := by
  have := pcX (n := n - i) (f := fun q => f (i + q)) (by omega) (.inl ⟨h.1, by show f (i + 0) < 194; simp; omega⟩)
  show (pc (n - i) (fun q => f (i + q))).2.1 = 1
  rw [this]
theorem rd_four (n : Nat) (f : Nat → Nat) {i : Nat} (hi : i < n) : (rd n f i).2.2.1 ≤ 4 := (pc_size (n - i) (fun j => f (i + j)) (by omega)).2.2

/-- A byte is in some scalar. -/
theorem exists_piece (n : Nat) (f : Nat → Nat) (at_ : Nat) (ha : at_ < n) (m : Nat) : ∀ i, n - i ≤ m → i ≤ at_ → ∃ (k : Nat) (x : Rec), (rest n f i)[k]? = some x ∧ x.2.1 ≤ at_ ∧ at_ < x.2.1 + x.2.2.1 := by
  induction m with
  | zero => intro i h1 h2; omega
  | succ m ih =>
    intro i h1 h2
    have hs := rd_size n f (i := i) (by omega)
    rw [rest_cons n f (by omega)]
    by_cases c : at_ < i + (rd n f i).2.2.1
    · exact ⟨0, rd n f i, rfl, h2, c⟩
    · obtain ⟨k, x, hx, h⟩ := ih (i + (rd n f i).2.2.1) (by omega) (by omega)
      exact ⟨k + 1, x, by rw [List.getElem?_cons_succ]; exact hx, h⟩

theorem rest_rd {n : Nat} {f : Nat → Nat} {k : Nat} {x : Rec} (h : (rest n f 0)[k]? = some x) : x = rd n f x.2.1 ∧ x.2.1 < n := rest_mem n f n 0 k x (by omega) h

/-- Scalars don't overlap. -/
theorem rest_order {n : Nat} {f : Nat → Nat} {k : Nat} {x : Rec} (h : (rest n f 0)[k]? = some x) (d : Nat) : ∀ y, (rest n f 0)[k + d + 1]? = some y → x.2.1 + x.2.2.1 ≤ y.2.1 := by
  induction d with
  | zero =>
    intro y hy
    have := np_succ n f n 0 k x (by omega) (by omega) h
    rw [this, np_at hy]
    exact Nat.le_refl _
  | succ d ih =>
    intro y hy
    have hlt := (List.getElem?_eq_some_iff.1 hy).1
    obtain ⟨z, hz⟩ : ∃ z, (rest n f 0)[k + d + 1]? = some z := ⟨_, List.getElem?_eq_getElem (by omega)⟩
    have h1 := ih z hz
    have h2 := np_succ n f n 0 (k + d + 1) z (by omega) (by omega) hz
    rw [show k + d + 1 + 1 = k + (d + 1) + 1 from by omega, np_at hy] at h2
    omega
theorem rest_unique {n : Nat} {f : Nat → Nat} {k k' at_ : Nat} {x y : Rec} (h : (rest n f 0)[k]? = some x) (h' : (rest n f 0)[k']? = some y)
    (h1 : x.2.1 ≤ at_) (h2 : at_ < x.2.1 + x.2.2.1) (h3 : y.2.1 ≤ at_) (h4 : at_ < y.2.1 + y.2.2.1) : k = k' := by
  rcases Nat.lt_trichotomy k k' with c | c | c
  · have := rest_order h (k' - k - 1) y (by rw [show k + (k' - k - 1) + 1 = k' from by omega]; exact h')
    omega
  · exact c
  · have := rest_order h' (k - k' - 1) x (by rw [show k' + (k - k' - 1) + 1 = k from by omega]; exact h)
    omega

/-- The scalar that a byte is in begins at p. -/
def PlaceOf (n : Nat) (f : Nat → Nat) (at_ p : Nat) : Prop := ∃ (k : Nat) (x : Rec), (rest n f 0)[k]? = some x ∧ x.2.1 = p ∧ p ≤ at_ ∧ at_ < p + x.2.2.1

/-- A byte that doesn't continue a sequence begins a scalar. -/
theorem begins_one {n : Nat} {f : Nat → Nat} (h8 : ∀ j, j < n → f j < 256) {i : Nat} (hi : i < n) (h : ¬ (128 ≤ f i ∧ f i ≤ 191)) : ∃ k : Nat, (rest n f 0)[k]? = some (rd n f i) := by
  obtain ⟨k, x, hx, h1, h2⟩ := exists_piece n f i hi n 0 (by omega) (by omega)
  obtain ⟨e, hl⟩ := rest_rd hx
  by_cases c : x.2.1 = i
  · exact ⟨k, by rw [hx, e, c]⟩
  · exact absurd (rd_cont h8 hl (show x.2.1 < i by omega) (by rw [← e]; exact h2)) h
theorem place_i {n : Nat} {f : Nat → Nat} (h8 : ∀ j, j < n → f j < 256) {i at_ : Nat} (ha : at_ < n) (hi : i ≤ at_) (h : ¬ (128 ≤ f i ∧ f i ≤ 191)) (hs : at_ < i + (rd n f i).2.2.1) : PlaceOf n f at_ i := by
  obtain ⟨k, hk⟩ := begins_one h8 (i := i) (by omega) h
  exact ⟨k, _, hk, rfl, hi, hs⟩
theorem place_at {n : Nat} {f : Nat → Nat} (h8 : ∀ j, j < n → f j < 256) {at_ : Nat} (ha : at_ < n) (c : Nat) (hc : ∀ j, at_ < j + c → j ≤ at_ → 128 ≤ f j ∧ f j ≤ 191)
    (h : 4 ≤ c ∨ at_ < c ∨ (c ≤ at_ ∧ ¬ (128 ≤ f (at_ - c) ∧ f (at_ - c) ≤ 191) ∧ (rd n f (at_ - c)).2.2.1 ≤ c)) : PlaceOf n f at_ at_ := by
  obtain ⟨k, x, hx, h1, h2⟩ := exists_piece n f at_ ha n 0 (by omega) (by omega)
  obtain ⟨e, hl⟩ := rest_rd hx
  have h4 := rd_four n f hl
  rw [← e] at h4
  have hin : at_ < x.2.1 + c := by
    rcases h with h | h | ⟨h5, h6, h7⟩
    · omega
    · omega
    · obtain ⟨k', hk'⟩ := begins_one h8 (i := at_ - c) (by omega) h6
      rcases Nat.lt_trichotomy k k' with q | q | q
      · have := rest_order hx (k' - k - 1) _ (by rw [show k + (k' - k - 1) + 1 = k' from by omega]; exact hk')
        have : x.2.1 + x.2.2.1 ≤ at_ - c := this
        omega
      · subst q
        rw [hx] at hk'
        injection hk' with hk'
        rw [hk'] at h2 h1
        have g1 : at_ < (at_ - c) + (rd n f (at_ - c)).2.2.1 := h2
        omega
      · have g := rest_order hk' (k - k' - 1) _ (by rw [show k' + (k - k' - 1) + 1 = k from by omega]; exact hx)
        have g' : at_ - c + (rd n f (at_ - c)).2.2.1 ≤ x.2.1 := g
        have := (rd_size n f (i := at_ - c) (by omega)).1
        omega
  have hcx := hc x.2.1 hin h1
  have h6 := rd_one hl hcx
  rw [← e] at h6
  have : x.2.1 = at_ := by omega
  exact ⟨k, x, hx, this, Nat.le_refl _, by omega⟩
end Go.Proofs.YtimiinnnmdcmhaaDoor
