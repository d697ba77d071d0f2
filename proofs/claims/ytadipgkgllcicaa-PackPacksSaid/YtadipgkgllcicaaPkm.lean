/-
  Packing, step by step: no program.
-/
import Derived.Test.YtadipgkgllcicaaSlm
namespace Go.Proofs.Ytadipgkgllcicaa
open Go.RowKit Go.Shelf Go.Lib Go.Maps

def padTo {α : Type} (n : Nat) (l : List α) (d : α) : List α := l ++ List.replicate (n - l.length) d
theorem padTo_len {α : Type} (n : Nat) (l : List α) (d : α) : (padTo n l d).length = max l.length n := by simp [padTo]; omega
theorem padTo_get {α : Type} (n : Nat) (l : List α) (d : α) (i : Nat) : (padTo n l d)[i]? = if i < l.length then l[i]? else if i < n then some d else none := by
  unfold padTo
  by_cases h : i < l.length
  · rw [if_pos h, List.getElem?_append_left h]
  · rw [if_neg h, List.getElem?_append_right (by omega), List.getElem?_replicate]
    by_cases h2 : i < n
    · rw [if_pos h2, if_pos (by omega)]
    · rw [if_neg h2, if_neg (by omega)]
theorem padTo_getD {α : Type} (n : Nat) (l : List α) (d : α) (i : Nat) : (padTo n l d).getD i d = l.getD i d := by
  rw [List.getD_eq_getElem?_getD, padTo_get, List.getD_eq_getElem?_getD]
  by_cases h : i < l.length
  · rw [if_pos h]
  · rw [if_neg h, List.getElem?_eq_none (by omega)]
    split <;> rfl
theorem padTo_snoc {α : Type} (n : Nat) (l : List α) (d : α) (h : l.length < n) : padTo n (l ++ [d]) d = padTo n l d := by
  unfold padTo
  rw [List.append_assoc]
  congr 1
  rw [show n - l.length = (n - (l ++ [d]).length) + 1 by simp; omega, List.replicate_succ]
  rfl
theorem padTo_done {α : Type} (n : Nat) (l : List α) (d : α) (h : n ≤ l.length) : padTo n l d = l := by
  unfold padTo
  rw [show n - l.length = 0 by omega]; simp
theorem set_getD {α : Type} (l : List α) (i j : Nat) (v d : α) : (l.set i v).getD j d = if i = j ∧ i < l.length then v else l.getD j d := by
  rw [List.getD_eq_getElem?_getD, List.getElem?_set, List.getD_eq_getElem?_getD]
  by_cases e : i = j
  · subst e
    by_cases h : i < l.length
    · simp [h]
    · simp [h]
  · simp [e]
/-- The words behind a use. -/
def useR (T : List Nat) (base m : Nat) : List Nat :=
  ((padTo (base / 64 + 2) T 0).set (base / 64) (T.getD (base / 64) 0 ||| (m * 2 ^ (base % 64)) % 2 ^ 64)).set (base / 64 + 1) (T.getD (base / 64 + 1) 0 ||| m / 2 ^ (64 - base % 64))
theorem useR_lt {T : List Nat} (h : ∀ x ∈ T, x < 2 ^ 64) {base m : Nat} (hm : m < 2 ^ 64) : ∀ x ∈ useR T base m, x < 2 ^ 64 := by
  have a1 : T.getD (base / 64) 0 ||| (m * 2 ^ (base % 64)) % 2 ^ 64 < 2 ^ 64 := Nat.or_lt_two_pow (getD_lt h _) (Nat.mod_lt _ (by decide))
  have a2 : T.getD (base / 64 + 1) 0 ||| m / 2 ^ (64 - base % 64) < 2 ^ 64 := Nat.or_lt_two_pow (getD_lt h _) (Nat.lt_of_le_of_lt (Nat.div_le_self _ _) hm)
  intro x hx
  unfold useR at hx
  obtain ⟨i, hi⟩ := List.getElem?_of_mem hx
  have : (((padTo (base / 64 + 2) T 0).set (base / 64) (T.getD (base / 64) 0 ||| (m * 2 ^ (base % 64)) % 2 ^ 64)).set (base / 64 + 1) (T.getD (base / 64 + 1) 0 ||| m / 2 ^ (64 - base % 64))).getD i 0 = x := getD_get hi
  rw [set_getD, set_getD, padTo_getD] at this
  split at this
  · rw [← this]; exact a2
  · split at this
    · rw [← this]; exact a1
    · rw [← this]; exact getD_lt h _
theorem useR_used {T : List Nat} {base m : Nat} (hm : m < 2 ^ 64) (j : Nat) : usedB (useR T base m) j = (usedB T j || (decide (base ≤ j) && m.testBit (j - base))) := by
  obtain ⟨q, b, hb, rfl⟩ : ∃ q b : Nat, b < 64 ∧ base = 64 * q + b := ⟨base / 64, base % 64, Nat.mod_lt _ (by omega), by omega⟩
  have e1 : (64 * q + b) / 64 = q := by omega
  have e2 : (64 * q + b) % 64 = b := by omega
  unfold usedB useR
  rw [e1, e2, set_getD, set_getD, padTo_getD]
  have l1 : q < (padTo (q + 2) T 0).length := by rw [padTo_len]; omega
  have l2 : q + 1 < ((padTo (q + 2) T 0).set q (T.getD q 0 ||| (m * 2 ^ b) % 2 ^ 64)).length := by rw [List.length_set, padTo_len]; omega
  by_cases h2 : q + 1 = j / 64
  · rw [if_pos ⟨h2, l2⟩, Nat.testBit_or, Nat.testBit_div_two_pow, ← h2]
    have e3 : j % 64 + (64 - b) = j - (64 * q + b) := by omega
    have e4 : decide (64 * q + b ≤ j) = true := by simp; omega
    rw [e3, e4]; simp
  · rw [if_neg (fun h => h2 h.1)]
    by_cases h1 : q = j / 64
    · rw [if_pos ⟨h1, l1⟩, Nat.testBit_or, Nat.testBit_mod_two_pow, Nat.testBit_mul_two_pow, ← h1]
      have e3 : decide (j % 64 < 64) = true := by simp; omega
      have e4 : decide (b ≤ j % 64) = decide (64 * q + b ≤ j) := by
        by_cases h : b ≤ j % 64
        · simp [h]; omega
        · simp [h]; omega
      have e5 : j % 64 - b = j - (64 * q + b) := by omega
      rw [e3, e4, e5]; simp
    · rw [if_neg (fun h => h1 h.1)]
      by_cases hj : 64 * q + b ≤ j
      · have : m.testBit (j - (64 * q + b)) = false := Nat.testBit_lt_two_pow (Nat.lt_of_lt_of_le hm (Nat.pow_le_pow_right (by decide) (by omega)))
        rw [this]; simp
      · simp [hj]
/-- A slot is filled. -/
def fillR (s : List Int × List Int) (slot : Nat) (row el : Int) : List Int × List Int := ((padTo (slot + 1) s.1 (-1)).set slot row, (padTo (slot + 1) s.2 0).set slot el)
theorem fillR_len (s : List Int × List Int) (slot : Nat) (row el : Int) (h : s.2.length = s.1.length) : (fillR s slot row el).2.length = (fillR s slot row el).1.length ∧ (fillR s slot row el).1.length = max s.1.length (slot + 1) := by
  unfold fillR
  dsimp only
  rw [List.length_set, padTo_len, List.length_set, padTo_len, h]
  exact ⟨rfl, rfl⟩
theorem fillR_chk (s : List Int × List Int) (slot : Nat) (row el : Int) (hr : row ≠ -1) (j : Nat) : chkB (fillR s slot row el).1 j = (chkB s.1 j || decide (j = slot)) := by
  unfold chkB fillR
  dsimp only
  rw [List.getElem?_set, padTo_len, padTo_get]
  by_cases e : slot = j
  · subst e
    rw [if_pos rfl, if_pos (by omega)]
    simp [hr]
  · rw [if_neg e]
    have e2 : decide (j = slot) = false := by simp; exact fun h => e h.symm
    rw [e2]
    by_cases h : j < s.1.length
    · rw [if_pos h]; simp
    · rw [if_neg h, List.getElem?_eq_none (by omega)]
      by_cases h2 : j < slot + 1
      · rw [if_pos h2]; simp
      · rw [if_neg h2]; simp
/-- The slots of a row. -/
def fillsR (u : Int) (b : Nat) (i : Int) (s : List Int × List Int) (row : List Int) : List Int × List Int := foldI (fun s x c => if x = u then s else fillR s (b + c) i x) s row
theorem fills_take (u : Int) (b : Nat) (i : Int) (hi : i ≠ -1) (s : List Int × List Int) (hs : s.2.length = s.1.length) (row : List Int) : ∀ k, k ≤ row.length →
    (fillsR u b i s (row.take k)).2.length = (fillsR u b i s (row.take k)).1.length ∧ (fillsR u b i s (row.take k)).1.length ≤ max s.1.length (b + k) ∧ s.1.length ≤ (fillsR u b i s (row.take k)).1.length ∧
    ∀ j, chkB (fillsR u b i s (row.take k)).1 j = (chkB s.1 j || (decide (b ≤ j) && (decide (j < b + k) && otherB u row (j - b)))) := by
  intro k
  induction k with
  | zero =>
    intro _
    refine ⟨hs, by simp [fillsR, foldI]; omega, by simp [fillsR, foldI], fun j => ?_⟩
    have : (decide (b ≤ j) && (decide (j < b + 0) && otherB u row (j - b))) = false := by
      by_cases h : b ≤ j
      · have : decide (j < b + 0) = false := by simp; omega
        rw [this]; simp
      · simp [h]
    rw [this]; simp [fillsR, foldI]
  | succ k ih =>
    intro hk
    obtain ⟨x, hx⟩ := list_at (xs := row) (i := k) (by omega)
    obtain ⟨h1, h2, h3, h4⟩ := ih (by omega)
    have e := foldI_take (fun s x c => if x = u then s else fillR s (b + c) i x) s hx
    have e' : fillsR u b i s (row.take (k + 1)) = if x = u then fillsR u b i s (row.take k) else fillR (fillsR u b i s (row.take k)) (b + k) i x := e
    rw [e']
    have step : ∀ j, (decide (b ≤ j) && (decide (j < b + (k + 1)) && otherB u row (j - b))) = ((decide (b ≤ j) && (decide (j < b + k) && otherB u row (j - b))) || (decide (j = b + k) && decide (x ≠ u))) := by
      intro j
      by_cases hj : j = b + k
      · subst hj
        have o : otherB u row (b + k - b) = decide (x ≠ u) := by rw [show b + k - b = k by omega]; simp [otherB, hx]
        rw [o]; simp
      · have e1 : decide (j < b + (k + 1)) = decide (j < b + k) := by
          by_cases q : j < b + k
          · simp [q]; omega
          · simp [q]; omega
        rw [e1]; simp [hj]
    by_cases hu : x = u
    · rw [if_pos hu]
      refine ⟨h1, by omega, h3, fun j => ?_⟩
      rw [h4, step]; simp [hu]
    · rw [if_neg hu]
      obtain ⟨l1, l2⟩ := fillR_len (fillsR u b i s (row.take k)) (b + k) i x h1
      refine ⟨l1, by omega, by omega, fun j => ?_⟩
      rw [fillR_chk _ _ _ _ hi, h4, step]
      simp [hu, Bool.or_assoc]
theorem fills_all (u : Int) (b : Nat) (i : Int) (hi : i ≠ -1) (s : List Int × List Int) (hs : s.2.length = s.1.length) (row : List Int) :
    (fillsR u b i s row).2.length = (fillsR u b i s row).1.length ∧ (fillsR u b i s row).1.length ≤ max s.1.length (b + row.length) ∧ s.1.length ≤ (fillsR u b i s row).1.length ∧
    ∀ j, chkB (fillsR u b i s row).1 j = (chkB s.1 j || (decide (b ≤ j) && otherB u row (j - b))) := by
  obtain ⟨h1, h2, h3, h4⟩ := fills_take u b i hi s hs row row.length (Nat.le_refl _)
  rw [List.take_length] at h1 h2 h3 h4
  refine ⟨h1, h2, h3, fun j => ?_⟩
  rw [h4]
  by_cases hb : b ≤ j
  · by_cases hl : j < b + row.length
    · simp [hl]
    · simp [hl, otherB, List.getElem?_eq_none (show row.length ≤ j - b by omega)]
  · simp [hb]
def pickR (row : List Int) (u x : Int) : Int := if row.count u < row.count x ∨ (row.count x = row.count u ∧ x < u) then x else u
def usualR (row : List Int) : Int := row.foldl (pickR row) (row.getD 0 0)
/-- A row more. -/
def addR (p : Pk) (row : List Int) : Pk :=
  let s := fillsR (usualR row) (baseR p.cs row (usualR row)) (p.us.length : Int) (p.cs, p.ns) row
  ⟨p.w, p.us ++ [usualR row], p.bs ++ [(baseR p.cs row (usualR row) : Int)], s.1, s.2⟩
def packR (w : Int) (rows : List (List Int)) : Pk := rows.foldl addR ⟨w, [], [], [], []⟩
theorem packR_take (w : Int) {rows : List (List Int)} {k : Nat} {row : List Int} (h : rows[k]? = some row) : packR w (rows.take (k + 1)) = addR (packR w (rows.take k)) row := by
  unfold packR
  rw [List.take_add_one, h, Option.toList_some, List.foldl_append]
  rfl
/-- What holds while rows are packed. -/
structure Pd (p : Pk) (k : Nat) : Prop where
  u : p.us.length = k
  b : p.bs.length = k
  c : p.ns.length = p.cs.length
  l : p.cs.length ≤ 64 * k
theorem Pd.add {p : Pk} {k : Nat} (h : Pd p k) {row : List Int} (hl : row.length ≤ 64) : Pd (addR p row) (k + 1) ∧ baseR p.cs row (usualR row) ≤ 64 * k := by
  have hb := (baseR_spec p.cs row (usualR row)).2.1
  have hc := h.l
  obtain ⟨h1, h2, h3, h4⟩ := fills_all (usualR row) (baseR p.cs row (usualR row)) (p.us.length : Int) (by omega) (p.cs, p.ns) h.c row
  refine ⟨⟨by simp [addR, h.u], by simp [addR, h.b], h1, ?_⟩, by omega⟩
  show (fillsR _ _ _ _ _).1.length ≤ _
  dsimp only at h2
  omega
theorem packR_pd (w : Int) (rows : List (List Int)) (hl : ∀ r ∈ rows, r.length ≤ 64) : ∀ k, k ≤ rows.length → Pd (packR w (rows.take k)) k := by
  intro k
  induction k with
  | zero => intro _; exact ⟨rfl, rfl, rfl, by simp [packR]⟩
  | succ k ih =>
    intro hk
    have hx : rows[k]? = some (rows[k]'(by omega)) := List.getElem?_eq_getElem _
    rw [packR_take w hx]
    exact ((ih (by omega)).add (hl _ (List.mem_of_getElem? hx))).1
/-- Words follow slots. -/
theorem use_add {T : List Nat} {p : Pk} {row : List Int} (hp : p.ns.length = p.cs.length) (hl : row.length ≤ 64) (hu : ∀ j, usedB T j = chkB p.cs j) :
    ∀ j, usedB (useR T (baseR p.cs row (usualR row)) (maskR (usualR row) row)) j = chkB (addR p row).cs j := by
  intro j
  obtain ⟨_, _, _, h4⟩ := fills_all (usualR row) (baseR p.cs row (usualR row)) (p.us.length : Int) (by omega) (p.cs, p.ns) hp row
  rw [useR_used (mask_lt _ _ hl), mask_bit, hu]
  exact (h4 j).symm
end Go.Proofs.Ytadipgkgllcicaa
