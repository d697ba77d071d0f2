/-
  Slots as words; the least base; rows that are packed: no program.
-/
import Derived.Test.YtadipgkgllcicaaRwt
import Derived.Laws.Bits64
import Derived.Laws.Bits64b
namespace Go.Proofs.Ytadipgkgllcicaa
open Go.RowKit Go.Shelf Go.Lib Go.Maps

theorem getD_get {α : Type} {l : List α} {i : Nat} {x d : α} (h : l[i]? = some x) : l.getD i d = x := by simp [List.getD_eq_getElem?_getD, h]
theorem getD_none {α : Type} {l : List α} {i : Nat} {d : α} (h : l.length ≤ i) : l.getD i d = d := by rw [List.getD_eq_getElem?_getD, List.getElem?_eq_none h]; rfl
/-- A fold over a list and its places. -/
def foldI {σ : Type} (f : σ → Int → Nat → σ) (s : σ) (row : List Int) : σ := row.zipIdx.foldl (fun s xc => f s xc.1 xc.2) s
theorem foldI_nil {σ : Type} (f : σ → Int → Nat → σ) (s : σ) : foldI f s [] = s := rfl
theorem foldI_snoc {σ : Type} (f : σ → Int → Nat → σ) (s : σ) (row : List Int) (x : Int) : foldI f s (row ++ [x]) = f (foldI f s row) x row.length := by
  unfold foldI
  rw [List.zipIdx_append, List.foldl_append]
  simp
theorem foldI_take {σ : Type} (f : σ → Int → Nat → σ) (s : σ) {row : List Int} {k : Nat} {x : Int} (h : row[k]? = some x) : foldI f s (row.take (k + 1)) = f (foldI f s (row.take k)) x k := by
  have hk : k < row.length := (List.getElem?_eq_some_iff.1 h).1
  rw [List.take_add_one, h, Option.toList_some, foldI_snoc, List.length_take, Nat.min_eq_left (by omega)]

/-- The columns whose element isn't the usual one, as bits. -/
def maskR (u : Int) (row : List Int) : Nat := foldI (fun m x c => if x = u then m else m ||| 2 ^ c) 0 row
def otherB (u : Int) (row : List Int) (c : Nat) : Bool := match row[c]? with | some x => decide (x ≠ u) | none => false
theorem mask_take (u : Int) (row : List Int) : ∀ k, k ≤ row.length → (∀ c, (maskR u (row.take k)).testBit c = (decide (c < k) && otherB u row c)) := by
  intro k
  induction k with
  | zero => intro _ c; simp [maskR, foldI]
  | succ k ih =>
    intro hk c
    obtain ⟨x, hx⟩ := list_at (xs := row) (i := k) (by omega)
    have e := foldI_take (fun m x c => if x = u then m else m ||| 2 ^ c) 0 hx
    show (foldI _ 0 (row.take (k + 1))).testBit c = _
    rw [e]
    have ih' := ih (by omega) c
    unfold maskR at ih'
    by_cases hu : x = u
    · rw [if_pos hu, ih']
      by_cases hc : c = k
      · subst hc; simp [otherB, hx, hu]
      · have e1 : decide (c < k + 1) = decide (c < k) := by simp; omega
        rw [e1]
    · rw [if_neg hu, Nat.testBit_or, ih', Nat.testBit_two_pow]
      by_cases hc : c = k
      · subst hc; simp [otherB, hx, hu]
      · have e1 : decide (c < k + 1) = decide (c < k) := by simp; omega
        have e2 : decide (k = c) = false := by simp; omega
        rw [e1, e2]; simp
theorem mask_bit (u : Int) (row : List Int) (c : Nat) : (maskR u row).testBit c = otherB u row c := by
  have h := mask_take u row row.length (Nat.le_refl _) c
  rw [List.take_length] at h
  rw [h]
  by_cases hc : c < row.length
  · simp [hc]
  · simp [hc, otherB]
theorem lt_of_bits {x n : Nat} (h : ∀ i, n ≤ i → x.testBit i = false) : x < 2 ^ n := by
  refine Nat.lt_pow_two_of_testBit x h
theorem mask_lt (u : Int) (row : List Int) (h : row.length ≤ 64) : maskR u row < 2 ^ 64 := by
  refine lt_of_bits fun i hi => ?_
  rw [mask_bit]
  simp [otherB, List.getElem?_eq_none (show row.length ≤ i by omega)]
theorem mask_lt_take (u : Int) (row : List Int) (h : row.length ≤ 64) (k : Nat) : maskR u (row.take k) < 2 ^ 64 := mask_lt u _ (by rw [List.length_take]; omega)

/-- Is a slot used? -/
def usedB (T : List Nat) (j : Nat) : Bool := (T.getD (j / 64) 0).testBit (j % 64)
def frm (T : List Nat) (base : Nat) : Nat := T.getD (base / 64) 0 / 2 ^ (base % 64) ||| (T.getD (base / 64 + 1) 0 * 2 ^ (64 - base % 64)) % 2 ^ 64
theorem getD_lt {T : List Nat} (h : ∀ x ∈ T, x < 2 ^ 64) (i : Nat) : T.getD i 0 < 2 ^ 64 := by
  rw [List.getD_eq_getElem?_getD]
  cases e : T[i]? with
  | none => simp
  | some x => exact h x (List.mem_of_getElem? e)
theorem frm_lt {T : List Nat} (h : ∀ x ∈ T, x < 2 ^ 64) (base : Nat) : frm T base < 2 ^ 64 := by
  unfold frm
  refine Nat.or_lt_two_pow ?_ (Nat.mod_lt _ (by decide))
  exact Nat.lt_of_le_of_lt (Nat.div_le_self _ _) (getD_lt h _)
theorem frm_bit {T : List Nat} (h : ∀ x ∈ T, x < 2 ^ 64) (base i : Nat) (hi : i < 64) : (frm T base).testBit i = usedB T (base + i) := by
  obtain ⟨q, b, hb, rfl⟩ : ∃ q b : Nat, b < 64 ∧ base = 64 * q + b := ⟨base / 64, base % 64, Nat.mod_lt _ (by omega), by omega⟩
  unfold frm usedB
  have e1 : (64 * q + b) / 64 = q := by omega
  have e2 : (64 * q + b) % 64 = b := by omega
  rw [e1, e2, Nat.testBit_or, Nat.testBit_div_two_pow, Nat.testBit_mod_two_pow, Nat.testBit_mul_two_pow]
  by_cases hs : i + b < 64
  · have e3 : (64 * q + b + i) / 64 = q := by omega
    have e4 : (64 * q + b + i) % 64 = i + b := by omega
    have e5 : decide (64 - b ≤ i) = false := by simp; omega
    rw [e3, e4, e5]; simp
  · have e3 : (64 * q + b + i) / 64 = q + 1 := by omega
    have e4 : (64 * q + b + i) % 64 = i - (64 - b) := by omega
    have e5 : decide (64 - b ≤ i) = true := by simp; omega
    have e6 : decide (i < 64) = true := by simpa using hi
    have e7 : (T.getD q 0).testBit (i + b) = false := Nat.testBit_lt_two_pow (Nat.lt_of_lt_of_le (getD_lt h q) (Nat.pow_le_pow_right (by decide) (by omega)))
    rw [e3, e4, e5, e6, e7]; simp
theorem usedB_none {T : List Nat} {j : Nat} (h : 64 * T.length ≤ j) : usedB T j = false := by
  unfold usedB
  rw [getD_none (by omega)]; simp
/-- The least from a place on. -/
def leastB (f : Nat → Bool) : Nat → Nat → Nat
  | 0, b => b
  | n + 1, b => if f b then b else leastB f n (b + 1)
theorem leastB_spec (f : Nat → Bool) : ∀ n b, f (b + n) = true → f (leastB f n b) = true ∧ b ≤ leastB f n b ∧ leastB f n b ≤ b + n ∧ ∀ j, b ≤ j → j < leastB f n b → f j = false := by
  intro n
  induction n with
  | zero => intro b h; exact ⟨h, Nat.le_refl _, Nat.le_refl _, fun j h1 h2 => by unfold leastB at h2; omega⟩
  | succ n ih =>
    intro b h
    unfold leastB
    by_cases hb : f b = true
    · rw [if_pos hb]; exact ⟨hb, Nat.le_refl _, by omega, fun j h1 h2 => by omega⟩
    · rw [if_neg hb]
      obtain ⟨h1, h2, h3, h4⟩ := ih (b + 1) (by rw [show b + 1 + n = b + (n + 1) by omega]; exact h)
      refine ⟨h1, by omega, by omega, fun j hj hl => ?_⟩
      by_cases e : j = b
      · subst e; simpa using hb
      · exact h4 j (by omega) hl
theorem least_unique {f : Nat → Bool} {a b : Nat} (ha : f a = true) (ha' : ∀ j, j < a → f j = false) (hb : f b = true) (hb' : ∀ j, j < b → f j = false) : a = b := by
  rcases Nat.lt_trichotomy a b with h | h | h
  · have := hb' a h; rw [ha] at this; cases this
  · exact h
  · have := ha' b h; rw [hb] at this; cases this
/-- What stands in a list of who has a slot. -/
def chkB (cs : List Int) (j : Nat) : Bool := match cs[j]? with | some x => decide (x ≠ -1) | none => false
def freeR (cs row : List Int) (u : Int) (b : Nat) : Bool := (List.range row.length).all fun c => !(otherB u row c && chkB cs (b + c))
def baseR (cs row : List Int) (u : Int) : Nat := leastB (freeR cs row u) cs.length 0
theorem chkB_none {cs : List Int} {j : Nat} (h : cs.length ≤ j) : chkB cs j = false := by simp [chkB, List.getElem?_eq_none h]
theorem freeR_end (cs row : List Int) (u : Int) : freeR cs row u cs.length = true := by
  unfold freeR
  rw [List.all_eq_true]
  intro c _
  rw [chkB_none (by omega)]; simp
theorem baseR_spec (cs row : List Int) (u : Int) : freeR cs row u (baseR cs row u) = true ∧ baseR cs row u ≤ cs.length ∧ ∀ j, j < baseR cs row u → freeR cs row u j = false := by
  obtain ⟨h1, h2, h3, h4⟩ := leastB_spec (freeR cs row u) cs.length 0 (by rw [Nat.zero_add]; exact freeR_end cs row u)
  exact ⟨h1, by unfold baseR; omega, fun j hj => h4 j (by omega) hj⟩
theorem freeR_iff {cs row : List Int} {u : Int} {b : Nat} : freeR cs row u b = true ↔ ∀ c, otherB u row c = true → chkB cs (b + c) = false := by
  unfold freeR
  rw [List.all_eq_true]
  constructor
  · intro h c hc
    have hl : c < row.length := by
      rcases Nat.lt_or_ge c row.length with e | e
      · exact e
      · simp [otherB, List.getElem?_eq_none e] at hc
    have := h c (List.mem_range.2 hl)
    rw [hc] at this
    simpa using this
  · intro h c _
    cases hc : otherB u row c with
    | false => simp
    | true => simp [h c hc]
theorem and_zero {x m : Nat} : x &&& m = 0 ↔ ∀ i, m.testBit i = true → x.testBit i = false := by
  constructor
  · intro h i hi
    have := congrArg (fun z => Nat.testBit z i) h
    simp only [Nat.testBit_and, Nat.zero_testBit, hi, Bool.and_true] at this
    exact this
  · intro h
    refine Nat.eq_of_testBit_eq fun i => ?_
    rw [Nat.testBit_and, Nat.zero_testBit]
    cases hi : m.testBit i with
    | false => simp
    | true => rw [h i hi]; rfl
/-- Words and slots say the same. -/
theorem free_frm {T : List Nat} {cs row : List Int} {u : Int} (h : ∀ x ∈ T, x < 2 ^ 64) (hu : ∀ j, usedB T j = chkB cs j) (hl : row.length ≤ 64) (b : Nat) : freeR cs row u b = decide (frm T b &&& maskR u row = 0) := by
  have key : freeR cs row u b = true ↔ frm T b &&& maskR u row = 0 := by
    rw [freeR_iff, and_zero]
    constructor
    · intro k i hi
      rw [mask_bit] at hi
      have h64 : i < 64 := by
        rcases Nat.lt_or_ge i 64 with e | e
        · exact e
        · simp [otherB, List.getElem?_eq_none (show row.length ≤ i by omega)] at hi
      rw [frm_bit h _ _ h64, hu]
      exact k i hi
    · intro k c hc
      have h64 : c < 64 := by
        rcases Nat.lt_or_ge c 64 with e | e
        · exact e
        · simp [otherB, List.getElem?_eq_none (show row.length ≤ c by omega)] at hc
      have := k c (by rw [mask_bit]; exact hc)
      rw [frm_bit h _ _ h64, hu] at this
      exact this
  by_cases e : frm T b &&& maskR u row = 0
  · rw [key.2 e]; simp [e]
  · have : ¬ freeR cs row u b = true := fun k => e (key.1 k)
    simp [e]; simpa using this
end Go.Proofs.Ytadipgkgllcicaa
