/-
  What rows are packed to, entry by entry: no program.
-/
import Derived.Test.YtadipgkgllcicaaPck
namespace Go.Proofs.Ytadipgkgllcicaa
open Go.RowKit Go.Shelf Go.Lib Go.Maps

theorem fillR_get1 (s : List Int × List Int) (slot : Nat) (row el : Int) (j : Nat) : (fillR s slot row el).1[j]? = if j = slot then some row else if j < s.1.length then s.1[j]? else if j < max s.1.length (slot + 1) then some (-1) else none := by
  unfold fillR
  dsimp only
  rw [List.getElem?_set, padTo_len, padTo_get]
  grind
theorem fillR_get2 (s : List Int × List Int) (slot : Nat) (row el : Int) (hs : s.2.length = s.1.length) (j : Nat) : (fillR s slot row el).2[j]? = if j = slot then some el else if j < s.1.length then s.2[j]? else if j < max s.1.length (slot + 1) then some 0 else none := by
  unfold fillR
  dsimp only
  rw [List.getElem?_set, padTo_len, padTo_get, hs]
  grind
def cntU (cs : List Int) : Nat := cs.countP fun x => decide (0 ≤ x)
/-- What a row's slots are, entry by entry. -/
structure Fi (u : Int) (b : Nat) (i : Int) (s : List Int × List Int) (row : List Int) (k : Nat) (t : List Int × List Int) : Prop where
  e : t.2.length = t.1.length
  g : s.1.length ≤ t.1.length
  c : ∀ j, t.1[j]? = if b ≤ j ∧ j < b + k ∧ otherB u row (j - b) = true then some i else if j < s.1.length then s.1[j]? else if j < t.1.length then some (-1) else none
  n : ∀ j, t.2[j]? = if b ≤ j ∧ j < b + k ∧ otherB u row (j - b) = true then row[j - b]? else if j < s.1.length then s.2[j]? else if j < t.1.length then some 0 else none
  l : t.1.length = s.1.length ∨ ∃ j, t.1.length = j + 1 ∧ b ≤ j ∧ j < b + k ∧ otherB u row (j - b) = true
  q : cntU t.1 = cntU s.1 + (row.take k).countP fun x => decide (x ≠ u)
theorem cnt_fill (s : List Int × List Int) (slot : Nat) (row el : Int) (hr : 0 ≤ row) (hf : chkB s.1 slot = false) : cntU (fillR s slot row el).1 = cntU s.1 + 1 := by
  unfold fillR cntU
  dsimp only
  have hl : slot < (padTo (slot + 1) s.1 (-1)).length := by rw [padTo_len]; omega
  have hv : (padTo (slot + 1) s.1 (-1))[slot] = -1 := by
    have h1 : (padTo (slot + 1) s.1 (-1))[slot]? = some (padTo (slot + 1) s.1 (-1))[slot] := List.getElem?_eq_getElem hl
    rw [padTo_get] at h1
    by_cases h : slot < s.1.length
    · rw [if_pos h] at h1
      unfold chkB at hf
      rw [h1] at hf
      simpa using hf
    · rw [if_neg h, if_pos (by omega)] at h1
      injection h1 with h1
      exact h1.symm
  rw [List.countP_set hl, hv]
  have e1 : List.countP (fun x => decide (0 ≤ x)) (padTo (slot + 1) s.1 (-1)) = List.countP (fun x => decide (0 ≤ x)) s.1 := by
    unfold padTo
    rw [List.countP_append, List.countP_replicate]
    simp
  rw [e1]
  simp [hr]
set_option maxHeartbeats 4000000 in
theorem fi_take (u : Int) (b : Nat) (i : Int) (hi : 0 ≤ i) (s : List Int × List Int) (hs : s.2.length = s.1.length) (row : List Int) (hf : ∀ c, otherB u row c = true → chkB s.1 (b + c) = false) : ∀ k, k ≤ row.length → Fi u b i s row k (fillsR u b i s (row.take k)) := by
  intro k
  induction k with
  | zero =>
    intro _
    have e : fillsR u b i s (row.take 0) = s := by simp [fillsR, foldI]
    rw [e]
    refine ⟨hs, Nat.le_refl _, fun j => ?_, fun j => ?_, .inl rfl, by simp⟩
    · rw [if_neg (by omega)]
      by_cases h : j < s.1.length
      · rw [if_pos h]
      · rw [if_neg h, if_neg h, List.getElem?_eq_none (by omega)]
    · rw [if_neg (by omega)]
      by_cases h : j < s.1.length
      · rw [if_pos h]
      · rw [if_neg h, if_neg h, List.getElem?_eq_none (by omega)]
  | succ k ih =>
    intro hk
    obtain ⟨x, hx⟩ := list_at (xs := row) (i := k) (by omega)
    have h := ih (by omega)
    have e := foldI_take (fun s x c => if x = u then s else fillR s (b + c) i x) s hx
    have e' : fillsR u b i s (row.take (k + 1)) = if x = u then fillsR u b i s (row.take k) else fillR (fillsR u b i s (row.take k)) (b + k) i x := e
    rw [e']
    have o : otherB u row k = decide (x ≠ u) := by simp [otherB, hx]
    have ct : (row.take (k + 1)).countP (fun x => decide (x ≠ u)) = (row.take k).countP (fun x => decide (x ≠ u)) + if x ≠ u then 1 else 0 := by
      rw [List.take_add_one, hx, Option.toList_some, List.countP_append]
      congr 1
      by_cases q : x = u <;> simp [q]
    generalize fillsR u b i s (row.take k) = t at *
    by_cases hu : x = u
    · rw [if_pos hu]
      have same : ∀ j, (b ≤ j ∧ j < b + (k + 1) ∧ otherB u row (j - b) = true) ↔ (b ≤ j ∧ j < b + k ∧ otherB u row (j - b) = true) := fun j => by
        constructor
        · rintro ⟨h1, h2, h3⟩
          refine ⟨h1, ?_, h3⟩
          rcases Nat.lt_or_ge j (b + k) with q | q
          · exact q
          · have : j - b = k := by omega
            rw [this, o] at h3
            simp [hu] at h3
        · rintro ⟨h1, h2, h3⟩; exact ⟨h1, by omega, h3⟩
      refine ⟨h.e, h.g, fun j => ?_, fun j => ?_, ?_, by rw [ct, h.q]; simp [hu]⟩
      · rw [h.c j]; simp only [same j]
      · rw [h.n j]; simp only [same j]
      · rcases h.l with q | ⟨j, h1, h2, h3, h4⟩
        · exact .inl q
        · exact .inr ⟨j, h1, h2, by omega, h4⟩
    · rw [if_neg hu]
      have ok : otherB u row k = true := by rw [o]; simpa using hu
      obtain ⟨l1, l2⟩ := fillR_len t (b + k) i x h.e
      have hfree : chkB t.1 (b + k) = false := by
        have h1 := hf k ok
        unfold chkB at h1 ⊢
        rw [h.c (b + k), if_neg (by omega)]
        by_cases q : b + k < s.1.length
        · rw [if_pos q]; exact h1
        · rw [if_neg q]
          by_cases q2 : b + k < t.1.length
          · rw [if_pos q2]; rfl
          · rw [if_neg q2]
      have split : ∀ j, (b ≤ j ∧ j < b + (k + 1) ∧ otherB u row (j - b) = true) ↔ (j = b + k ∨ (b ≤ j ∧ j < b + k ∧ otherB u row (j - b) = true)) := fun j => by
        constructor
        · rintro ⟨h1, h2, h3⟩
          rcases Nat.lt_or_ge j (b + k) with q | q
          · exact .inr ⟨h1, q, h3⟩
          · exact .inl (by omega)
        · rintro (rfl | ⟨h1, h2, h3⟩)
          · exact ⟨by omega, by omega, by rw [show b + k - b = k by omega]; exact ok⟩
          · exact ⟨h1, by omega, h3⟩
      have hg := h.g
      refine ⟨l1, by omega, fun j => ?_, fun j => ?_, ?_, by rw [ct, cnt_fill _ _ _ _ hi hfree, h.q, if_pos hu]; omega⟩
      · have hs2 := split j
        have hlt : (b ≤ j ∧ j < b + k ∧ otherB u row (j - b) = true) → j < t.1.length := fun q2 => by
          have := h.c j
          rw [if_pos q2] at this
          exact (List.getElem?_eq_some_iff.1 this).1
        rw [fillR_get1, h.c j, l2]
        clear h hf ct hfree l1
        generalize otherB u row (j - b) = z at *
        generalize s.1[j]? = y at *
        grind
      · have hs2 := split j
        have hlt : (b ≤ j ∧ j < b + k ∧ otherB u row (j - b) = true) → j < t.1.length := fun q2 => by
          have := h.c j
          rw [if_pos q2] at this
          exact (List.getElem?_eq_some_iff.1 this).1
        rw [fillR_get2 _ _ _ _ h.e, h.n j, l2]
        have hjk : j = b + k → row[j - b]? = some x := fun q => by rw [q, show b + k - b = k by omega, hx]
        clear h hf ct hfree l1
        generalize otherB u row (j - b) = z at *
        generalize s.2[j]? = y at *
        generalize row[j - b]? = yy at *
        grind
      · rcases Nat.lt_or_ge (b + k) t.1.length with q | q
        · rw [l2, Nat.max_eq_left (by omega)]
          rcases h.l with z | ⟨j, h1, h2, h3, h4⟩
          · exact .inl z
          · exact .inr ⟨j, h1, h2, by omega, h4⟩
        · exact .inr ⟨b + k, by omega, by omega, by omega, by rw [show b + k - b = k by omega]; exact ok⟩
end Go.Proofs.Ytadipgkgllcicaa
