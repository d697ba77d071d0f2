/-
  What holds of groupings by the document: no program.
-/
import Derived.Test.YtmldgfplnacecaaDoorSqm
namespace Go.Proofs.YtmldgfplnacecaaDoor
open Go.RowKit Go.Shelf Go.Lib Go.Maps Go.Sort

/-- The number that a further group would have. -/
def nxt (g : List Int) (k : Nat) : Int := (g.take k).foldl (fun n x => max n (x + 1)) 0
theorem nxt_step {g : List Int} {k : Nat} {x : Int} (h : g[k]? = some x) : nxt g (k + 1) = max (nxt g k) (x + 1) := by
  unfold nxt
  rw [List.take_add_one, h, Option.toList_some, List.foldl_append]
  rfl
theorem nxt_nonneg (g : List Int) : ∀ k, k ≤ g.length → 0 ≤ nxt g k
  | 0, _ => Int.le_refl _
  | k + 1, hk => by
    obtain ⟨x, hx⟩ := list_at (xs := g) (i := k) (by omega)
    rw [nxt_step hx]
    have := nxt_nonneg g k (by omega)
    omega
/-- Each is one that was, or the next one. -/
def okN (g : List Int) (k : Nat) : Prop := ∀ i x, i < k → g[i]? = some x → 0 ≤ x ∧ x ≤ nxt g i
def rangeI (m : Nat) : List Int := (List.range m).map fun (i : Nat) => (i : Int)
theorem rangeI_len (m : Nat) : (rangeI m).length = m := by simp [rangeI]
theorem mem_rangeI {m : Nat} {x : Int} : x ∈ rangeI m ↔ 0 ≤ x ∧ x < m := by
  unfold rangeI
  simp only [List.mem_map, List.mem_range]
  constructor
  · rintro ⟨i, h, rfl⟩; omega
  · intro h; exact ⟨x.toNat, by omega, by omega⟩
theorem rangeI_get {m i : Nat} {x : Int} (h : (rangeI m)[i]? = some x) : x = (i : Int) ∧ i < m := by
  unfold rangeI at h
  rw [List.getElem?_map, Option.map_eq_some_iff] at h
  obtain ⟨j, hj, rfl⟩ := h
  obtain ⟨h1, h2⟩ := List.getElem?_eq_some_iff.1 hj
  simp at h1 h2
  exact ⟨by omega, by omega⟩
theorem rangeI_snoc (m : Nat) : rangeI m ++ [(m : Int)] = rangeI (m + 1) := by simp [rangeI, List.range_succ]
theorem seen_range (g : List Int) : ∀ k, k ≤ g.length → okN g k → seenL (g.take k) = rangeI (nxt g k).toNat
  | 0, _, _ => rfl
  | k + 1, hk, h => by
    obtain ⟨x, hx⟩ := list_at (xs := g) (i := k) (by omega)
    have ih := seen_range g k (by omega) (fun i y hi hy => h i y (by omega) hy)
    have hn := nxt_nonneg g k (by omega)
    obtain ⟨h0, h1⟩ := h k x (by omega) hx
    rw [seenL_take hx, ih, nxt_step hx]
    by_cases hm : x ∈ rangeI (nxt g k).toNat
    · rw [if_pos hm]
      have := (mem_rangeI.1 hm).2
      rw [show max (nxt g k) (x + 1) = nxt g k by omega]
    · rw [if_neg hm]
      have : x = ((nxt g k).toNat : Int) := by
        have : ¬ (0 ≤ x ∧ x < ((nxt g k).toNat : Int)) := fun hh => hm (mem_rangeI.2 hh)
        omega
      rw [this, rangeI_snoc]
      congr 1
      omega
theorem numT_range {m : Nat} {x : Int} (h : x ∈ rangeI m) : numT (rangeI m) x = x := by
  obtain ⟨i, h1, h2, _⟩ := numT_hit h
  rw [h1, (rangeI_get h2).1]
/-- What is numbered as it comes. -/
theorem num_ok {g : List Int} (h : numL g = g) : ∀ k, k ≤ g.length → okN g k
  | 0, _ => fun i x hi => by omega
  | k + 1, hk => by
    have ih := num_ok h k (by omega)
    intro i y hi hy
    rcases Nat.lt_or_ge i k with hlt | hge
    · exact ih i y hlt hy
    obtain rfl : i = k := by omega
    have hs := seen_range g i (by omega) ih
    have hn := nxt_nonneg g i (by omega)
    have e := numL_get hy (k := i + 1) (by omega) hk
    rw [h, hy, seenL_take hy, hs] at e
    injection e with e
    by_cases hm : y ∈ rangeI (nxt g i).toNat
    · have := mem_rangeI.1 hm; omega
    · rw [if_neg hm, numT_new hm, rangeI_len] at e
      omega
theorem ok_num {g : List Int} (h : okN g g.length) : numL g = g := by
  apply List.ext_getElem?
  intro i
  by_cases hi : i < g.length
  · obtain ⟨x, hx⟩ := list_at hi
    have ok2 : okN g i := fun j y hj hy => h j y (by omega) hy
    have hs := seen_range g i (by omega) ok2
    have hn := nxt_nonneg g i (by omega)
    obtain ⟨h0, h1⟩ := h i x hi hx
    rw [numL_get hx (k := i + 1) (by omega) hi, seenL_take hx, hs, hx]
    by_cases hm : x ∈ rangeI (nxt g i).toNat
    · rw [if_pos hm, numT_range hm]
    · rw [if_neg hm, numT_new hm, rangeI_len]
      have : ¬ (0 ≤ x ∧ x < ((nxt g i).toNat : Int)) := fun hh => hm (mem_rangeI.2 hh)
      congr 1; omega
  · rw [List.getElem?_eq_none (by rw [numL_len]; omega), List.getElem?_eq_none (by omega)]
theorem nxt_max (g : List Int) : ∀ k, 1 ≤ k → k ≤ g.length → (∀ x ∈ g, 0 ≤ x) → nxt g k = maxP g k + 1
  | 1, _, hk, h => by
    obtain ⟨x, hx⟩ := list_at (xs := g) (i := 0) (by omega)
    have hx0 := h x (List.mem_of_getElem? hx)
    rw [nxt_step hx, maxP_one hx, show nxt g 0 = 0 from rfl]
    omega
  | k + 2, _, hk, h => by
    obtain ⟨x, hx⟩ := list_at (xs := g) (i := k + 1) (by omega)
    rw [nxt_step hx, maxP_step hx, nxt_max g (k + 1) (by omega) (by omega) h]
    omega
/-- The document's count. -/
theorem many_ref {g : List Int} (h : okN g g.length) : manyL g = if g.length = 37 then nxt g g.length else 0 := by
  unfold manyL
  by_cases hl : g.length = 37
  · rw [if_pos ⟨hl, ok_num h⟩, if_pos hl]
    unfold maxL
    rw [nxt_max g g.length (by omega) (Nat.le_refl _) (fun x hx => by
      obtain ⟨i, hi⟩ := List.mem_iff_getElem?.1 hx
      exact (h i x (List.getElem?_eq_some_iff.1 hi).1 hi).1)]
  · rw [if_neg (fun hh => hl hh.1), if_neg hl]
theorem many_not {g : List Int} {i : Nat} {x : Int} (hx : g[i]? = some x) (h : ¬ (0 ≤ x ∧ x ≤ nxt g i)) : manyL g = 0 := by
  unfold manyL
  rw [if_neg fun hh => h (num_ok hh.2 g.length (Nat.le_refl _) i x (List.getElem?_eq_some_iff.1 hx).1 hx)]
/-- Each group has a mark. -/
theorem many_onto {g : List Int} (h : manyL g ≠ 0) {j : Nat} (hj : (j : Int) < manyL g) : ∃ m, m < 37 ∧ g[m]? = some (j : Int) := by
  have hq : g.length = 37 ∧ numL g = g := by
    unfold manyL at h
    by_cases hq : g.length = 37 ∧ numL g = g
    · exact hq
    · rw [if_neg hq] at h; exact absurd rfl h
  have ok := num_ok hq.2 g.length (Nat.le_refl _)
  have e := many_ref ok
  rw [if_pos hq.1] at e
  have hs := seen_range g g.length (Nat.le_refl _) ok
  rw [List.take_length] at hs
  have : (j : Int) ∈ seenL g := by rw [hs]; exact mem_rangeI.2 ⟨by omega, by omega⟩
  obtain ⟨m, hm⟩ := List.mem_iff_getElem?.1 (mem_seen.1 this)
  exact ⟨m, by rw [← hq.1]; exact (List.getElem?_eq_some_iff.1 hm).1, hm⟩
/-- Marks that lead to the same. -/
def alikeB (L : List Tab) (a b : Nat) : Bool := L.all fun t => !rightT t.1 t.2 || t.1.all fun r => decide (r.getD a 0 = r.getD b 0)
theorem col_same (R : List (List Int)) (a b : Nat) : colL R a = colL R b ↔ ∀ r ∈ R, r.getD a 0 = r.getD b 0 := by
  unfold colL
  induction R with
  | nil => simp
  | cons r R ih => simp
theorem alike_iff {L : List Tab} {a b : Nat} : alikeB L a b = true ↔ ∀ t ∈ L, rightT t.1 t.2 = true → colL t.1 a = colL t.1 b := by
  unfold alikeB
  rw [List.all_eq_true]
  constructor
  · intro h t ht hr
    have := h t ht
    rw [hr] at this
    rw [col_same]
    intro r hmr
    simp only [Bool.not_true, Bool.false_or, List.all_eq_true, decide_eq_true_eq] at this
    exact this r hmr
  · intro h t ht
    cases hr : rightT t.1 t.2 with
    | false => rfl
    | true =>
      have := (col_same t.1 a b).1 (h t ht hr)
      simp only [Bool.not_true, Bool.false_or, List.all_eq_true, decide_eq_true_eq]
      exact this
theorem alike_grp {L : List Tab} {a b : Nat} (ha : a < 37) (hb : b < 37) : alikeB L a b = true ↔ (groupsL L).getD a 0 = (groupsL L).getD b 0 := by
  rw [alike_iff, grp_eq L ha hb]
theorem grp_new {L : List Tab} {m : Nat} (hm : m < 37) (h : ∀ k, k < m → alikeB L k m = false) : (groupsL L).getD m 0 = nxt (groupsL L) m := by
  have G := grpOk_all L
  obtain ⟨g, hg⟩ : ∃ g, groupsL L = g := ⟨_, rfl⟩
  have hne : ∀ k, k < m → g.getD k 0 ≠ g.getD m 0 := fun k hk e => by
    have := h k hk
    have h2 := (alike_grp (L := L) (a := k) (b := m) (by omega) hm).2 (by rw [hg]; exact e)
    rw [this] at h2; cases h2
  rw [hg] at G ⊢
  have ok := num_ok G.n m (by rw [G.l]; omega)
  have hs := seen_range g m (by rw [G.l]; omega) ok
  have hn := nxt_nonneg g m (by rw [G.l]; omega)
  obtain ⟨x, hx⟩ := list_at (xs := g) (i := m) (by rw [G.l]; exact hm)
  rw [getD_get hx]
  have hnot : x ∉ seenL (g.take m) := fun hh => by
    rw [mem_seenT g m (by rw [G.l]; omega)] at hh
    obtain ⟨k, hk⟩ := List.mem_iff_getElem?.1 hh
    have hlt := (List.getElem?_eq_some_iff.1 hk).1
    rw [List.length_take] at hlt
    rw [List.getElem?_take, if_pos (by omega)] at hk
    exact hne k (by omega) (by rw [getD_get hk, getD_get hx])
  have e := numL_get hx (k := m + 1) (by omega) (by rw [G.l]; omega)
  rw [G.n, hx, seenL_take hx, if_neg hnot, numT_new hnot, hs, rangeI_len] at e
  injection e with e
  omega
theorem nxt_grp (L : List Tab) {m : Nat} (hm : m ≤ 37) : 0 ≤ nxt (groupsL L) m ∧ nxt (groupsL L) m ≤ m := by
  have G := grpOk_all L
  refine ⟨nxt_nonneg _ m (by rw [G.l]; omega), ?_⟩
  have hs := seen_range _ m (by rw [G.l]; omega) (num_ok G.n m (by rw [G.l]; omega))
  have := seenT_length (groupsL L) m (by rw [G.l]; omega)
  rw [hs, rangeI_len] at this
  omega
/-- A row, downwards: the first of a group's marks counts. -/
def dwnL (g row : List Int) (many k : Nat) : List Int := setL g.reverse row.reverse many k
theorem rev_getD {l : List Int} {i : Nat} (h : i < l.length) : l.reverse.getD i 0 = l.getD (l.length - 1 - i) 0 := by
  rw [List.getD_eq_getElem?_getD, List.getD_eq_getElem?_getD, List.getElem?_reverse h]
theorem dwn_step {g row : List Int} {many k : Nat} (hg : g.length = 37) (hr : row.length = 37) (hk : k < 37) : dwnL g row many (k + 1) = (dwnL g row many k).set (g.getD (36 - k) 0).toNat (row.getD (36 - k) 0) := by
  unfold dwnL
  rw [setL, rev_getD (by omega), rev_getD (by omega), hg, hr]
theorem dwn_len (g row : List Int) (many k : Nat) : (dwnL g row many k).length = many := setL_len _ _ _ _
/-- A row fits just if group by group it leads where its marks do. -/
theorem fit_dwn {g r : List Int} (h : manyL g ≠ 0) (hr : r.length = 37) : fitB g r = true ↔ ∀ m, m < 37 → (dwnL g r (manyL g).toNat 37).getD (g.getD m 0).toNat 0 = r.getD m 0 := by
  obtain ⟨hgl, hb, _, _⟩ := many_parts h
  have hb' : ∀ x ∈ g, 0 ≤ x ∧ x < ((manyL g).toNat : Int) := fun x hx => by have := hb x hx; omega
  constructor
  · intro hf m hm
    have hc : ∀ i j : Nat, i < 37 → j < 37 → g.getD i 0 = g.getD j 0 → r.getD i 0 = r.getD j 0 := by
      unfold fitB at hf
      rw [decide_eq_true_eq] at hf
      intro i j hi hj e
      have q : ∀ k, k < 37 → r.getD k 0 = (narL r g (manyL g).toNat).getD (g.getD k 0).toNat 0 := fun k hk => by
        obtain ⟨x, hx⟩ := list_at (xs := g) (i := k) (by omega)
        obtain ⟨y, hy⟩ := list_at (xs := r) (i := k) (by omega)
        have h3 := congrArg (fun l : List Int => l[k]?) hf
        simp only [widL] at h3
        rw [List.getElem?_map, hx, hy] at h3
        injection h3 with h3
        rw [getD_get hx, getD_get hy]
        exact h3.symm
      rw [q i hi, q j hj, e]
    have hk := set_keep (g := g.reverse) (row := r.reverse) (many := (manyL g).toNat) (fun x hx => hb' x (List.mem_reverse.1 hx)) (fun i j hi hj e => by
      rw [List.length_reverse, hgl] at hi hj
      rw [rev_getD (by omega), rev_getD (by omega), hgl] at e
      rw [rev_getD (by omega), rev_getD (by omega), hr]
      exact hc _ _ (by omega) (by omega) e) 37 (by rw [List.length_reverse]; omega) (36 - m) (by omega)
    rw [rev_getD (by omega), rev_getD (by omega), hgl, hr, show 37 - 1 - (36 - m) = m by omega] at hk
    exact hk
  · intro hk
    refine fit_ok (by omega) hb (fun i j hi hj e => ?_)
    rw [hgl] at hi hj
    rw [← hk i hi, ← hk j hj, e]
theorem fit_row {g r : List Int} (h : manyL g ≠ 0) (hr : r.length = 37) (hf : fitB g r = true) : dwnL g r (manyL g).toNat 37 = narL r g (manyL g).toNat := by
  obtain ⟨hgl, hb, _, _⟩ := many_parts h
  have hd := (fit_dwn h hr).1 hf
  unfold fitB at hf
  rw [decide_eq_true_eq] at hf
  have l1 := dwn_len g r (manyL g).toNat 37
  have l2 : (narL r g (manyL g).toNat).length = (manyL g).toNat := by unfold narL; rw [setL_len]
  have on := fun j => many_onto h (j := j)
  obtain ⟨D, hD⟩ : ∃ D, dwnL g r (manyL g).toNat 37 = D := ⟨_, rfl⟩
  obtain ⟨E, hE⟩ : ∃ E, narL r g (manyL g).toNat = E := ⟨_, rfl⟩
  rw [hD] at hd l1 ⊢
  rw [hE] at hf l2 ⊢
  clear hD hE
  apply List.ext_getElem?
  intro j
  by_cases hj : j < (manyL g).toNat
  · obtain ⟨m, hm, hgm⟩ := on j (by omega)
    have h1 := hd m hm
    obtain ⟨y, hy⟩ := list_at (xs := r) (i := m) (by omega)
    have h3 := congrArg (fun l : List Int => l[m]?) hf
    simp only [widL] at h3
    rw [List.getElem?_map, hgm, hy] at h3
    injection h3 with h3
    rw [getD_get hgm, getD_get hy] at h1
    obtain ⟨u, hu⟩ := list_at (xs := D) (i := j) (by omega)
    obtain ⟨v, hv⟩ := list_at (xs := E) (i := j) (by omega)
    rw [Int.toNat_natCast, getD_get hu] at h1
    have h4 : E.getD (j : Int).toNat 0 = y := h3
    rw [Int.toNat_natCast, getD_get hv] at h4
    rw [hu, hv, h1, h4]
  · rw [List.getElem?_eq_none (by omega), List.getElem?_eq_none (by omega)]
end Go.Proofs.YtmldgfplnacecaaDoor
