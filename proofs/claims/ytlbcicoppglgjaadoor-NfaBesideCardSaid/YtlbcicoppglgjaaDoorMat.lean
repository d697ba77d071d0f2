/-
  What an automaton is, as numbers: sets of places as masks; how it is read off expressions, part by part. No program.
-/
import Derived.Test.YtlbcicoppglgjaaDoorTre
import Derived.Lib.TrailingZeros
namespace Go.Proofs.YtlbcicoppglgjaaDoor
open Go.RowKit Go.Shelf Go.Lib

/-- What is known of a part: its first leaves, its last ones, and whether it matches nothing, too. -/
structure Sp where
  first : Nat
  last : Nat
  empty : Bool
/-- An automaton: how many places, which follow each, which take each symbol, what each tells. Sets are masks. -/
structure St where
  count : Nat
  next : Nat → Nat
  takers : Nat → Nat
  tells : Nat → Nat
/-- Is a place in a set? -/
def inM (m p : Nat) : Bool := decide (p < 1024) && m.testBit p
/-- The places of a set, rising. -/
def posL (m : Nat) : List Nat := (List.range 1024).filter (inM m)
def St.link (s : St) (a b : Nat) : St := { s with next := fun p => if inM a p then s.next p ||| b else s.next p }
def takesE (k c : Int) (m : Nat) : Bool :=
  if k = 3 then m == 36 else decide (m ≤ 35) && (k == 1 || (k == 0 && (m : Int) == c) || (k == 2 && (m : Int) != c))
def St.leaf (s : St) (k c : Int) : St :=
  { s with count := s.count + 1, takers := fun m => if decide (m ≤ 36) && takesE k c m then s.takers m ||| 2 ^ s.count else s.takers m }
def readE : E → St → St × Sp
  | .mk k c ks, s =>
    if k = 9 then (s, ⟨0, 0, true⟩)
    else if k = 4 then seqL ks s ⟨0, 0, true⟩
    else if k = 5 then altL ks s ⟨0, 0, false⟩
    else if k = 6 then
      let r := headL ks s
      (r.1.link r.2.last r.2.first, ⟨r.2.first, r.2.last, true⟩)
    else if k = 7 then
      let r := headL ks s
      (r.1.link r.2.last r.2.first, r.2)
    else if k = 8 then
      let r := headL ks s
      (r.1, ⟨r.2.first, r.2.last, true⟩)
    else (s.leaf k c, ⟨2 ^ s.count, 2 ^ s.count, false⟩)
where
  headL : List E → St → St × Sp
    | [], s => (s, ⟨0, 0, false⟩)
    | e :: _, s => readE e s
  seqL : List E → St → Sp → St × Sp
    | [], s, a => (s, a)
    | e :: r, s, a =>
      let q := readE e s
      seqL r (q.1.link a.last q.2.first) ⟨if a.empty then a.first ||| q.2.first else a.first, if q.2.empty then q.2.last ||| a.last else q.2.last, a.empty && q.2.empty⟩
  altL : List E → St → Sp → St × Sp
    | [], s, a => (s, a)
    | e :: r, s, a =>
      let q := readE e s
      altL r q.1 ⟨a.first ||| q.2.first, a.last ||| q.2.last, a.empty || q.2.empty⟩
abbrev seqL := readE.seqL
abbrev altL := readE.altL
abbrev headL := readE.headL
theorem seqL_append (a b : List E) : ∀ s p, seqL (a ++ b) s p = seqL b (seqL a s p).1 (seqL a s p).2 := by
  induction a with
  | nil => intro s p; simp [seqL, readE.seqL]
  | cons e r ih => intro s p; simp only [List.cons_append, seqL, readE.seqL] at *; rw [ih]
theorem altL_append (a b : List E) : ∀ s p, altL (a ++ b) s p = altL b (altL a s p).1 (altL a s p).2 := by
  induction a with
  | nil => intro s p; simp [altL, readE.altL]
  | cons e r ih => intro s p; simp only [List.cons_append, altL, readE.altL] at *; rw [ih]
def St.tell (s : St) (a bit : Nat) : St := { s with tells := fun p => if inM a p then s.tells p ||| bit else s.tells p }
def addE (s : St) (e : E) (bit : Nat) : St :=
  let r := readE e s
  let s2 := (r.1.link 1 r.2.first).tell r.2.last bit
  if r.2.empty then s2.tell 1 bit else s2
def st0 : St := ⟨1, fun _ => 0, fun _ => 0, fun _ => 0⟩
def mkL : List E → Nat → St → St
  | [], _, s => s
  | e :: r, i, s => mkL r (i + 1) (addE s e (2 ^ i))
def mkN (l : List E) : St := mkL l 0 st0
theorem mkL_append (a b : List E) : ∀ i s, mkL (a ++ b) i s = mkL b (i + a.length) (mkL a i s) := by
  induction a with
  | nil => intro i s; simp [mkL]
  | cons e r ih => intro i s; simp only [List.cons_append, mkL, List.length_cons] at *; rw [ih]; congr 1; omega
/-- How many leaves. -/
def leavesE : E → Nat
  | .mk k _ ks => if ks = [] then (if k = 9 then 0 else 1) else lvL ks
where lvL : List E → Nat
  | [] => 0
  | e :: r => leavesE e + lvL r
/-- From a set by a mark. -/
def nextU (s : St) : List Int → Nat
  | [] => 0
  | p :: r => (if 0 ≤ p then s.next p.toNat else 0) ||| nextU s r
def tellsU (s : St) : List Int → Nat
  | [] => 0
  | p :: r => (if 0 ≤ p then s.tells p.toNat else 0) ||| tellsU s r
def takersI (s : St) (m : Int) : Nat := if 0 ≤ m then s.takers m.toNat else 0
def stepM (search : Bool) (s : St) (set : List Int) (m : Int) : Nat :=
  let x := nextU s set &&& takersI s m
  if search then x ||| 1 else x
def seqEx : E := .mk 4 0 [.mk 0 11 [], .mk 6 0 [.mk 0 12 []]]
def posI (m : Nat) : List Int := (posL m).map (fun (n : Nat) => (n : Int))
example : posI (stepM true (mkN [seqEx]) (posI (stepM true (mkN [seqEx]) [0] 11)) 12) = [0, 2] := by decide +kernel
example : tellsU (mkN [seqEx]) [0, 2] = 1 := by decide +kernel
example : (mkN [seqEx]).count = 3 := by decide +kernel
/-! words -/
def wd (m i : Nat) : Nat := m / 2 ^ (64 * i) % 2 ^ 64
theorem wd_lt (m i : Nat) : wd m i < 18446744073709551616 := Nat.mod_lt _ (by decide)
theorem wd_bit (m i j : Nat) : (wd m i).testBit j = (decide (j < 64) && m.testBit (64 * i + j)) := by
  unfold wd
  rw [Nat.testBit_mod_two_pow, Nat.testBit_div_two_pow, Nat.add_comm]
theorem wd_or (a b i : Nat) : wd (a ||| b) i = wd a i ||| wd b i := by
  apply Nat.eq_of_testBit_eq
  intro j
  simp only [wd_bit, Nat.testBit_or]
  cases decide (j < 64) <;> simp
theorem wd_and (a b i : Nat) : wd (a &&& b) i = wd a i &&& wd b i := by
  apply Nat.eq_of_testBit_eq
  intro j
  simp only [wd_bit, Nat.testBit_and]
  cases decide (j < 64) <;> simp
theorem wd_zero (i : Nat) : wd 0 i = 0 := by simp [wd]
theorem wd_pow (p i : Nat) : wd (2 ^ p) i = if i = p / 64 then 2 ^ (p % 64) else 0 := by
  apply Nat.eq_of_testBit_eq
  intro j
  rw [wd_bit, Nat.testBit_two_pow]
  by_cases h : i = p / 64
  · rw [if_pos h, Nat.testBit_two_pow]
    by_cases hj : p % 64 = j
    · have : p = 64 * i + j := by omega
      simp [this]
      try omega
    · have : ¬ p = 64 * i + j := by omega
      simp [hj]
      intro _ h2; omega
  · rw [if_neg h]
    simp
    intro hj h2; omega
theorem inM_wd {m i j : Nat} (hi : i < 16) (hj : j < 64) : inM m (64 * i + j) = (wd m i).testBit j := by
  unfold inM
  rw [wd_bit]
  simp [hj, show 64 * i + j < 1024 by omega]
theorem clear_bit {x k m : Nat} (hx : x = 2 ^ k * (2 * m + 1)) (j : Nat) : (x &&& (x - 1)).testBit j = (x.testBit j && decide (j ≠ k)) := by
  have hp : 0 < 2 ^ k := Nat.two_pow_pos k
  have e1 : x = 2 ^ k * (2 * m + 1) + 0 := by omega
  have e2 : x - 1 = 2 ^ k * (2 * m) + (2 ^ k - 1) := by rw [hx, Nat.mul_add, Nat.mul_one]; omega
  rw [Nat.testBit_and, e2]
  rw [e1, Nat.testBit_two_pow_mul_add _ hp, Nat.testBit_two_pow_mul_add _ (by omega)]
  by_cases h : j < k
  · simp [h]
  · rw [if_neg h, if_neg h]
    by_cases h2 : j = k
    · subst h2; simp
    · obtain ⟨d, hd⟩ : ∃ d, j - k = d + 1 := ⟨j - k - 1, by omega⟩
      rw [hd, Nat.testBit_succ, Nat.testBit_succ]
      have : (2 * m + 1) / 2 = m := by omega
      have : 2 * m / 2 = m := by omega
      simp [*]
theorem low_bit {x k m : Nat} (hx : x = 2 ^ k * (2 * m + 1)) : (∀ j, j < k → x.testBit j = false) ∧ x.testBit k = true := by
  have hp : 0 < 2 ^ k := Nat.two_pow_pos k
  have e1 : x = 2 ^ k * (2 * m + 1) + 0 := by omega
  constructor
  · intro j h
    rw [e1, Nat.testBit_two_pow_mul_add _ hp]; simp [h]
  · rw [e1, Nat.testBit_two_pow_mul_add _ hp]; simp
/-- The places below a bound. -/
def posN (m t : Nat) : List Nat := (List.range t).filter (inM m)
theorem posN_succ (m t : Nat) : posN m (t + 1) = posN m t ++ if inM m t then [t] else [] := by
  unfold posN
  rw [List.range_succ, List.filter_append]
  congr 1
  by_cases h : inM m t <;> simp [h]
theorem posN_skip {m a b : Nat} (hab : a ≤ b) (h : ∀ j, a ≤ j → j < b → inM m j = false) : posN m b = posN m a := by
  induction b with
  | zero => have : a = 0 := by omega
            rw [this]
  | succ b ih =>
    by_cases hb : a = b + 1
    · rw [hb]
    · rw [posN_succ, h b (by omega) (by omega), ih (by omega) (fun j h1 h2 => h j h1 (by omega))]; simp
theorem posL_eq (m : Nat) : posL m = posN m 1024 := rfl
theorem posN_len (m t : Nat) : (posN m t).length ≤ t := by
  unfold posN
  refine Nat.le_trans (List.length_filter_le _ _) ?_
  rw [List.length_range]; exact Nat.le_refl _
/-- What is left of a word behind some of its bits. -/
def Left (m i t x : Nat) : Prop := x < 18446744073709551616 ∧ ∀ j, x.testBit j = (decide (t ≤ j) && (wd m i).testBit j)
theorem left_start (m i : Nat) : Left m i 0 (wd m i) := ⟨wd_lt _ _, fun j => by simp⟩
theorem left_end {m i t : Nat} (hi : i < 16) (ht : t ≤ 64) (h : Left m i t 0) : posN m (64 * i + t) = posN m (64 * (i + 1)) := by
  symm
  refine posN_skip (by omega) fun j h1 h2 => ?_
  have e : j = 64 * i + (j - 64 * i) := by omega
  rw [e, inM_wd hi (by omega)]
  have := h.2 (j - 64 * i)
  simp at this
  exact this (by omega)
theorem left_step {m i t x k q : Nat} (hi : i < 16) (h : Left m i t x) (hx : x = 2 ^ k * (2 * q + 1)) (hk : k < 64) :
    t ≤ k ∧ posN m (64 * i + (k + 1)) = posN m (64 * i + t) ++ [64 * i + k] ∧ Left m i (k + 1) (x &&& (x - 1)) := by
  obtain ⟨hl, hb⟩ := low_bit hx
  have h1 := h.2 k
  rw [hb] at h1
  simp at h1
  refine ⟨h1.1, ?_, ?_, ?_⟩
  · have : posN m (64 * i + k) = posN m (64 * i + t) := by
      refine posN_skip (by omega) fun j h2 h3 => ?_
      have e : j = 64 * i + (j - 64 * i) := by omega
      rw [e, inM_wd hi (by omega)]
      have h4 := h.2 (j - 64 * i)
      rw [hl _ (by omega)] at h4
      simp at h4
      exact h4 (by omega)
    rw [show 64 * i + (k + 1) = (64 * i + k) + 1 by omega, posN_succ, inM_wd hi hk, h1.2, this]
    simp
  · have := Nat.and_le_left (n := x) (m := x - 1); have := h.1; omega
  · intro j
    rw [clear_bit hx, h.2]
    by_cases h5 : j = k
    · subst h5; simp; intro h7; omega
    · by_cases h6 : k < j
      · simp [h5, show t ≤ j by omega, show k + 1 ≤ j by omega]
      · have h4 := h.2 j
        rw [hl j (by omega)] at h4
        have e1 : decide (k + 1 ≤ j) = false := by simp; omega
        rw [e1, ← h4]; simp
/-! sets -/
theorem inM_or (a b p : Nat) : inM (a ||| b) p = (inM a p || inM b p) := by
  unfold inM; rw [Nat.testBit_or]; cases decide (p < 1024) <;> simp
theorem inM_and (a b p : Nat) : inM (a &&& b) p = (inM a p && inM b p) := by
  unfold inM; rw [Nat.testBit_and]; cases decide (p < 1024) <;> simp
theorem mem_posI {m : Nat} {v : Int} : v ∈ posI m ↔ ∃ p : Nat, v = p ∧ inM m p = true := by
  unfold posI posL
  simp only [List.mem_map, List.mem_filter, List.mem_range]
  constructor
  · rintro ⟨p, ⟨_, h⟩, rfl⟩; exact ⟨p, rfl, h⟩
  · rintro ⟨p, rfl, h⟩
    refine ⟨p, ⟨?_, h⟩, rfl⟩
    unfold inM at h; simp at h; exact h.1
theorem posI_rises (m : Nat) : (posI m).Pairwise (· < ·) := by
  unfold posI posL
  rw [List.pairwise_map]
  refine List.Pairwise.imp ?_ (List.Pairwise.filter _ List.pairwise_lt_range)
  intro a b h; omega
theorem posI_len (m : Nat) : (posI m).length ≤ 1024 := by
  unfold posI; rw [List.length_map, posL_eq]; exact posN_len _ _
theorem posI_more {a b : Nat} (h : ∀ p, inM a p = true → inM b p = true) : (posI a).length ≤ (posI b).length := by
  unfold posI posL
  rw [List.length_map, List.length_map]
  have hs : List.Sublist ((List.range 1024).filter (inM a)) ((List.range 1024).filter (inM b)) := by
    rw [show (List.range 1024).filter (inM a) = ((List.range 1024).filter (inM b)).filter (inM a) from by
      rw [List.filter_filter]
      apply List.filter_congr
      intro x _
      cases hx : inM a x with
      | false => simp
      | true => simp [h x hx]]
    exact List.filter_sublist
  exact hs.length_le
theorem nextU_append (s : St) (a b : List Int) : nextU s (a ++ b) = nextU s a ||| nextU s b := by
  induction a with
  | nil => simp [nextU]
  | cons p r ih => simp only [List.cons_append, nextU]; rw [ih, Nat.or_assoc]
theorem tellsU_append (s : St) (a b : List Int) : tellsU s (a ++ b) = tellsU s a ||| tellsU s b := by
  induction a with
  | nil => simp [tellsU]
  | cons p r ih => simp only [List.cons_append, tellsU]; rw [ih, Nat.or_assoc]
theorem nextU_bit (s : St) (l : List Int) (j : Nat) : (nextU s l).testBit j = true ↔ ∃ p ∈ l, 0 ≤ p ∧ (s.next p.toNat).testBit j = true := by
  induction l with
  | nil => simp [nextU]
  | cons p r ih =>
    simp only [nextU, Nat.testBit_or, Bool.or_eq_true, ih, List.mem_cons]
    constructor
    · rintro (h | ⟨q, hq, h1, h2⟩)
      · by_cases hp : 0 ≤ p
        · rw [if_pos hp] at h; exact ⟨p, Or.inl rfl, hp, h⟩
        · rw [if_neg hp] at h; simp at h
      · exact ⟨q, Or.inr hq, h1, h2⟩
    · rintro ⟨q, rfl | hq, h1, h2⟩
      · rw [if_pos h1]; exact Or.inl h2
      · exact Or.inr ⟨q, hq, h1, h2⟩
theorem bit_ext {a b : Nat} (h : ∀ j, a.testBit j = true ↔ b.testBit j = true) : a = b := by
  apply Nat.eq_of_testBit_eq
  intro j
  have := h j
  cases h1 : a.testBit j <;> cases h2 : b.testBit j <;> simp_all
theorem nextU_or (s : St) (a b : Nat) : nextU s (posI (a ||| b)) = nextU s (posI a) ||| nextU s (posI b) := by
  apply bit_ext
  intro j
  rw [Nat.testBit_or, Bool.or_eq_true, nextU_bit, nextU_bit, nextU_bit]
  simp only [mem_posI, inM_or, Bool.or_eq_true]
  constructor
  · rintro ⟨v, ⟨p, rfl, h | h⟩, h1, h2⟩
    · exact Or.inl ⟨_, ⟨p, rfl, h⟩, h1, h2⟩
    · exact Or.inr ⟨_, ⟨p, rfl, h⟩, h1, h2⟩
  · rintro (⟨v, ⟨p, rfl, h⟩, h1, h2⟩ | ⟨v, ⟨p, rfl, h⟩, h1, h2⟩)
    · exact ⟨_, ⟨p, rfl, Or.inl h⟩, h1, h2⟩
    · exact ⟨_, ⟨p, rfl, Or.inr h⟩, h1, h2⟩
theorem stepM_append (se : Bool) (s : St) (a b : List Int) (m : Int) : stepM se s (a ++ b) m = stepM se s a m ||| stepM se s b m := by
  apply bit_ext
  intro j
  unfold stepM
  cases se <;> simp only [nextU_append, Nat.testBit_or, Nat.testBit_and, Bool.or_eq_true, Bool.and_eq_true, if_true, if_false, Bool.false_eq_true]
  · constructor
    · rintro ⟨h1 | h1, h2⟩
      · exact Or.inl ⟨h1, h2⟩
      · exact Or.inr ⟨h1, h2⟩
    · rintro (⟨h1, h2⟩ | ⟨h1, h2⟩)
      · exact ⟨Or.inl h1, h2⟩
      · exact ⟨Or.inr h1, h2⟩
  · constructor
    · rintro (⟨h1 | h1, h2⟩ | h3)
      · exact Or.inl (Or.inl ⟨h1, h2⟩)
      · exact Or.inr (Or.inl ⟨h1, h2⟩)
      · exact Or.inl (Or.inr h3)
    · rintro ((⟨h1, h2⟩ | h3) | (⟨h1, h2⟩ | h3))
      · exact Or.inl ⟨Or.inl h1, h2⟩
      · exact Or.inr h3
      · exact Or.inl ⟨Or.inr h1, h2⟩
      · exact Or.inr h3
/-- No leaf follows a number beyond the sets. -/
def Near (s : St) : Prop := ∀ p, 1024 ≤ p → s.next p = 0
theorem near_link {s : St} (h : Near s) (a b : Nat) : Near (s.link a b) := by
  intro p hp
  have : inM a p = false := by unfold inM; simp; omega
  simp [St.link, this, h p hp]
theorem near_tell {s : St} (h : Near s) (a b : Nat) : Near (s.tell a b) := h
theorem near_leaf {s : St} (h : Near s) (k c : Int) : Near (s.leaf k c) := h
mutual
theorem near_readE : ∀ (e : E) (s : St), Near s → Near (readE e s).1
  | .mk k c ks, s, h => by
    unfold readE
    split
    · exact h
    · split
      · exact near_seqL ks s _ h
      · split
        · exact near_altL ks s _ h
        · split
          · exact near_link (near_headL ks s h) _ _
          · split
            · exact near_link (near_headL ks s h) _ _
            · split
              · exact near_headL ks s h
              · exact near_leaf h _ _
theorem near_headL : ∀ (ks : List E) (s : St), Near s → Near (readE.headL ks s).1
  | [], _, h => h
  | e :: _, s, h => near_readE e s h
theorem near_seqL : ∀ (ks : List E) (s : St) (a : Sp), Near s → Near (readE.seqL ks s a).1
  | [], _, _, h => h
  | e :: r, s, a, h => by
    unfold readE.seqL
    exact near_seqL r _ _ (near_link (near_readE e s h) _ _)
theorem near_altL : ∀ (ks : List E) (s : St) (a : Sp), Near s → Near (readE.altL ks s a).1
  | [], _, _, h => h
  | e :: r, s, a, h => by
    unfold readE.altL
    exact near_altL r _ _ (near_readE e s h)
end
theorem near_addE {s : St} (h : Near s) (e : E) (b : Nat) : Near (addE s e b) := by
  unfold addE
  dsimp only
  split
  · exact near_tell (near_tell (near_link (near_readE e s h) _ _) _ _) _ _
  · exact near_tell (near_link (near_readE e s h) _ _) _ _
theorem near_mkL : ∀ (l : List E) (i : Nat) (s : St), Near s → Near (mkL l i s)
  | [], _, _, h => h
  | e :: r, i, _s, h => near_mkL r (i + 1) _ (near_addE h e _)
theorem near_mkN (l : List E) : Near (mkN l) := near_mkL l 0 _ (fun _ _ => rfl)
theorem stepM_far (se : Bool) {s : St} (h : Near s) (a b m : Int) (x : List Int) (ha : a < 0) (hb : 1024 ≤ b) : stepM se s (a :: b :: x) m = stepM se s x m := by
  unfold stepM
  have e : nextU s (a :: b :: x) = nextU s x := by
    simp only [nextU]
    rw [if_neg (by omega), if_pos (by omega), h _ (by omega)]
    simp
  rw [e]
end Go.Proofs.YtlbcicoppglgjaaDoor
