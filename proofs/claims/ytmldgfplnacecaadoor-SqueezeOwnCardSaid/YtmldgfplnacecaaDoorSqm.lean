/-
  What holds of groupings.
-/
import Derived.Test.YtmldgfplnacecaaDoorGrp
import Derived.Test.YtmldgfplnacecaaDoorMkw
namespace Go.Proofs.YtmldgfplnacecaaDoor
open Go.RowKit Go.Shelf Go.Lib Go.Maps Go.Sort

theorem idx_map {α β : Type} [DecidableEq α] [DecidableEq β] (f : α → β) (x : α) : ∀ S : List α, (∀ y ∈ S, f y = f x → y = x) → (S.map f).idxOf (f x) = S.idxOf x
  | [], _ => rfl
  | a :: S, h => by
    rw [List.map_cons, List.idxOf_cons, List.idxOf_cons]
    have ih := idx_map f x S (fun y hy => h y (by simp [hy]))
    by_cases e : a = x
    · subst e; simp
    · have e2 : ¬ f a = f x := fun e' => e (h a (by simp) e')
      have b1 : (a == x) = false := by simpa using e
      have b2 : (f a == f x) = false := by simpa using e2
      rw [b1, b2, ih]
theorem seen_map {α β : Type} [DecidableEq α] [DecidableEq β] (f : α → β) (l : List α) (hinj : ∀ x ∈ l, ∀ y ∈ l, f x = f y → x = y) : ∀ k, k ≤ l.length → seenL ((l.map f).take k) = (seenL (l.take k)).map f
  | 0, _ => rfl
  | k + 1, hk => by
    have e : l[k]? = some (l[k]'(by omega)) := List.getElem?_eq_getElem _
    have e2 : (l.map f)[k]? = some (f (l[k]'(by omega))) := by rw [List.getElem?_map, e]; rfl
    have hm : l[k]'(by omega) ∈ l := List.getElem_mem _
    have ih := seen_map f l hinj k (by omega)
    rw [seenL_take e, seenL_take e2, ih]
    have hin : ∀ y ∈ seenL (l.take k), y ∈ l := fun y hy => List.mem_of_mem_take ((mem_seenT l k (by omega) y).1 hy)
    by_cases hq : l[k]'(by omega) ∈ seenL (l.take k)
    · rw [if_pos hq, if_pos (List.mem_map_of_mem hq)]
    · rw [if_neg hq, if_neg (fun h => by
        obtain ⟨y, hy, e3⟩ := List.mem_map.1 h
        exact hq (hinj y (hin y hy) _ hm e3 ▸ hy))]
      simp
theorem numL_map {α β : Type} [DecidableEq α] [DecidableEq β] (f : α → β) (l : List α) (hinj : ∀ x ∈ l, ∀ y ∈ l, f x = f y → x = y) : numL (l.map f) = numL l := by
  have hs := seen_map f l hinj l.length (Nat.le_refl _)
  rw [List.take_length, show (l.map f).take l.length = l.map f by rw [← List.length_map (f := f), List.take_length]] at hs
  unfold numL
  rw [List.map_map, hs]
  refine List.map_congr_left fun x hx => ?_
  show numT ((seenL l).map f) (f x) = numT (seenL l) x
  unfold numT
  rw [idx_map f x (seenL l) (fun y hy e => hinj y (by
    have := (mem_seenT l l.length (Nat.le_refl _) y).1 (by rw [List.take_length]; exact hy)
    rw [List.take_length] at this; exact this) x hx e)]
theorem mem_seen {α : Type} [DecidableEq α] {l : List α} {x : α} : x ∈ seenL l ↔ x ∈ l := by
  have := mem_seenT l l.length (Nat.le_refl _) x
  rw [List.take_length] at this; exact this
theorem numT_inj {α : Type} [DecidableEq α] {S : List α} {x y : α} (hx : x ∈ S) (hy : y ∈ S) (h : numT S x = numT S y) : x = y := by
  obtain ⟨i, h1, h2, _⟩ := numT_hit hx
  obtain ⟨j, k1, k2, _⟩ := numT_hit hy
  rw [h1, k1] at h
  have : i = j := by omega
  subst this
  rw [h2] at k2
  injection k2
theorem numL_idem {α : Type} [DecidableEq α] (l : List α) : numL (numL l) = numL l := by
  show numL (l.map (numT (seenL l))) = numL l
  exact numL_map _ l (fun x hx y hy h => numT_inj (mem_seen.2 hx) (mem_seen.2 hy) h)
theorem numL_at {α : Type} [DecidableEq α] {l : List α} {i : Nat} {x : α} (h : l[i]? = some x) : (numL l).getD i 0 = numT (seenL l) x := by
  apply getD_get
  unfold numL
  rw [List.getElem?_map, h]; rfl
theorem numL_eq {α : Type} [DecidableEq α] {l : List α} {i j : Nat} {x y : α} (hx : l[i]? = some x) (hy : l[j]? = some y) : (numL l).getD i 0 = (numL l).getD j 0 ↔ x = y := by
  rw [numL_at hx, numL_at hy]
  exact ⟨fun h => numT_inj (mem_seen.2 (List.mem_of_getElem? hx)) (mem_seen.2 (List.mem_of_getElem? hy)) h, fun h => by rw [h]⟩
theorem numL_first {α : Type} [DecidableEq α] {l : List α} {x : α} (h : l[0]? = some x) : (numL l).getD 0 0 = 0 := by
  have h1 : 1 ≤ l.length := by have := (List.getElem?_eq_some_iff.1 h).1; omega
  have := numL_get h (j := 0) (k := 1) (by omega) h1
  rw [getD_get this, seenL_take h]
  simp [seenL, numT]
/-- What holds of every grouping. -/
structure GrpOk (g : List Int) : Prop where
  l : g.length = 37
  n : numL g = g
  z : g.getD 0 0 = 0
theorem grpOk_start : GrpOk (List.replicate 37 0) := ⟨by simp, by decide +kernel, by simp⟩
theorem grpOk_step {g : List Int} {t : Tab} (h : GrpOk g) : GrpOk (grpS g t) := by
  unfold grpS
  split
  · exact ⟨by rw [numL_len, conL_len], numL_idem _, numL_first (conL_get g t.1 (by omega))⟩
  · exact h
theorem grpOk_take (L : List Tab) : ∀ k, k ≤ L.length → GrpOk (groupsL (L.take k))
  | 0, _ => grpOk_start
  | k + 1, hk => by
    have e : L[k]? = some (L[k]'(by omega)) := List.getElem?_eq_getElem _
    rw [groups_step e]
    exact grpOk_step (grpOk_take L k (by omega))
theorem grpOk_all (L : List Tab) : GrpOk (groupsL L) := by
  have := grpOk_take L L.length (Nat.le_refl _)
  rw [List.take_length] at this; exact this
theorem GrpOk.many {g : List Int} (h : GrpOk g) : manyL g = maxL g + 1 ∧ manyL g ≠ 0 := by
  have e : manyL g = maxL g + 1 := by unfold manyL; rw [if_pos ⟨h.l, h.n⟩]
  have := max_small h.l h.n
  exact ⟨e, by rw [e]; omega⟩
/-- Two marks have one group just if no right table tells them apart. -/
theorem grp_eqT (L : List Tab) {i j : Nat} (hi : i < 37) (hj : j < 37) : ∀ k, k ≤ L.length → ((groupsL (L.take k)).getD i 0 = (groupsL (L.take k)).getD j 0 ↔ ∀ t ∈ L.take k, rightT t.1 t.2 = true → colL t.1 i = colL t.1 j)
  | 0, _ => by
    constructor
    · intro _ t ht; simp at ht
    · intro _
      have z : ∀ q : Nat, (List.replicate 37 (0 : Int)).getD q 0 = 0 := fun q => by
        by_cases h : q < 37
        · exact getD_get (by rw [List.getElem?_replicate, if_pos h])
        · exact getD_none (by simp; omega)
      show (List.replicate 37 (0 : Int)).getD i 0 = (List.replicate 37 (0 : Int)).getD j 0
      rw [z, z]
  | k + 1, hk => by
    have e : L[k]? = some (L[k]'(by omega)) := List.getElem?_eq_getElem _
    have ih := grp_eqT L hi hj k (by omega)
    rw [groups_step e]
    have hmem : ∀ P : Tab → Prop, (∀ t ∈ L.take (k + 1), P t) ↔ (∀ t ∈ L.take k, P t) ∧ P (L[k]'(by omega)) := by
      intro P
      rw [List.take_add_one, e, Option.toList_some]
      simp only [List.mem_append, List.mem_singleton]
      exact ⟨fun h => ⟨fun t ht => h t (.inl ht), h _ (.inr rfl)⟩, fun h t ht => by rcases ht with ht | ht; exact h.1 t ht; rw [ht]; exact h.2⟩
    rw [hmem]
    unfold grpS
    by_cases hr : rightT (L[k]'(by omega)).1 (L[k]'(by omega)).2 = true
    · rw [if_pos hr, numL_eq (conL_get _ _ hi) (conL_get _ _ hj), Prod.mk.injEq, ih]
      exact ⟨fun h => ⟨h.1, fun _ => h.2⟩, fun h => ⟨h.1, h.2 hr⟩⟩
    · rw [if_neg hr, ih]
      exact ⟨fun h => ⟨h, fun h' => absurd h' hr⟩, fun h => h.1⟩
theorem grp_eq (L : List Tab) {i j : Nat} (hi : i < 37) (hj : j < 37) : (groupsL L).getD i 0 = (groupsL L).getD j 0 ↔ ∀ t ∈ L, rightT t.1 t.2 = true → colL t.1 i = colL t.1 j := by
  have := grp_eqT L hi hj L.length (Nat.le_refl _)
  rw [List.take_length] at this; exact this
theorem set_keep {g row : List Int} {many : Nat} (hb : ∀ x ∈ g, 0 ≤ x ∧ x < many) (hc : ∀ i j : Nat, i < g.length → j < g.length → g.getD i 0 = g.getD j 0 → row.getD i 0 = row.getD j 0) :
    ∀ k, k ≤ g.length → ∀ i, i < k → (setL g row many k).getD (g.getD i 0).toNat 0 = row.getD i 0
  | 0, _, i, hi => by omega
  | k + 1, hk, i, hi => by
    obtain ⟨x, hx⟩ := list_at (xs := g) (i := i) (by omega)
    obtain ⟨y, hy⟩ := list_at (xs := g) (i := k) (by omega)
    have bx := hb x (List.mem_of_getElem? hx)
    have b_y := hb y (List.mem_of_getElem? hy)
    have hcc := hc i k (by omega) (by omega)
    have ih := fun h => set_keep hb hc k (by omega) i h
    rw [getD_get hx] at hcc ih ⊢
    rw [getD_get hy] at hcc
    rw [setL, getD_get hy]
    have hl := setL_len g row many k
    by_cases e : x = y
    · subst e
      rw [hcc rfl]
      apply getD_get
      rw [List.getElem?_set_self (by omega)]
    · have hne : y.toNat ≠ x.toNat := by omega
      have hik : i ≠ k := by rintro rfl; rw [hx] at hy; injection hy with hy; exact e hy
      rw [List.getD_eq_getElem?_getD, List.getElem?_set_ne hne, ← List.getD_eq_getElem?_getD]
      exact ih (by omega)
theorem fit_ok {g r : List Int} (hl : r.length = g.length) (hb : ∀ x ∈ g, 0 ≤ x ∧ x < manyL g) (hc : ∀ i j : Nat, i < g.length → j < g.length → g.getD i 0 = g.getD j 0 → r.getD i 0 = r.getD j 0) : fitB g r = true := by
  unfold fitB
  rw [decide_eq_true_eq]
  have hb' : ∀ x ∈ g, 0 ≤ x ∧ x < ((manyL g).toNat : Int) := fun x hx => by have := hb x hx; omega
  apply List.ext_getElem?
  intro i
  by_cases hi : i < g.length
  · obtain ⟨x, hx⟩ := list_at hi
    obtain ⟨z, hz⟩ := list_at (xs := r) (i := i) (by omega)
    have := set_keep (row := r) hb' hc g.length (Nat.le_refl _) i hi
    rw [getD_get hx, getD_get hz] at this
    unfold widL
    rw [List.getElem?_map, hx, hz]
    exact congrArg some this
  · rw [List.getElem?_eq_none (l := r) (by omega), List.getElem?_eq_none (by unfold widL; rw [List.length_map]; omega)]
/-- By their own grouping right tables are made narrow. -/
theorem groups_fit (L : List Tab) {t : Tab} (ht : t ∈ L) (hr : rightT t.1 t.2 = true) : t.1.all (fitB (groupsL L)) = true := by
  have G := grpOk_all L
  obtain ⟨_, hb, _, _⟩ := many_parts G.many.2
  rw [List.all_eq_true]
  intro r hmr
  obtain ⟨q, hq⟩ := List.mem_iff_getElem?.1 hmr
  have hrl := ((right_parts hr).2.2.2 q r hq).1
  refine fit_ok (by rw [hrl, G.l]) hb (fun i j hi hj e => ?_)
  rw [G.l] at hi hj
  have h := (grp_eq L hi hj).1 e t ht hr
  obtain ⟨x, hx⟩ := list_at (xs := r) (i := i) (by omega)
  obtain ⟨y, hy⟩ := list_at (xs := r) (i := j) (by omega)
  have e1 := colL_take hq hx
  have e2 := colL_take hq hy
  rw [h, e2] at e1
  injection e1 with e1
  rw [getD_get hx, getD_get hy, e1]
end Go.Proofs.YtmldgfplnacecaaDoor
