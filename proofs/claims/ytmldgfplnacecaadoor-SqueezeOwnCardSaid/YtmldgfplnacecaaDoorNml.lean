/-
  Keys by their numbers: no program.
-/
import Derived.Test.YtmldgfplnacecaaDoorArr
namespace Go.Proofs.YtmldgfplnacecaaDoor
open Go.RowKit Go.Shelf Go.Lib Go.Maps Go.Sort

/-- Keys as they first come. -/
def seenL {α : Type} [DecidableEq α] (l : List α) : List α := l.foldl (fun S k => if k ∈ S then S else S ++ [k]) []
theorem seenL_take {α : Type} [DecidableEq α] {l : List α} {k : Nat} {x : α} (h : l[k]? = some x) : seenL (l.take (k + 1)) = if x ∈ seenL (l.take k) then seenL (l.take k) else seenL (l.take k) ++ [x] := by
  unfold seenL
  rw [List.take_add_one, h, Option.toList_some, List.foldl_append]
  rfl
theorem seenL_snoc {α : Type} [DecidableEq α] (l : List α) (x : α) : seenL (l ++ [x]) = if x ∈ seenL l then seenL l else seenL l ++ [x] := by
  unfold seenL
  rw [List.foldl_append]
  rfl
theorem mem_seenT {α : Type} [DecidableEq α] (l : List α) : ∀ k, k ≤ l.length → ∀ x, x ∈ seenL (l.take k) ↔ x ∈ l.take k := by
  intro k
  induction k with
  | zero => intro _ x; simp [seenL]
  | succ k ih =>
    intro hk x
    obtain ⟨y, hy⟩ : ∃ y, l[k]? = some y := ⟨_, List.getElem?_eq_getElem (show k < l.length by omega)⟩
    rw [seenL_take hy, List.take_add_one, hy, Option.toList_some]
    by_cases h : y ∈ seenL (l.take k)
    · rw [if_pos h, ih (by omega), List.mem_append, List.mem_singleton]
      constructor
      · intro q; exact .inl q
      · rintro (q | rfl)
        · exact q
        · exact (ih (by omega) _).1 h
    · rw [if_neg h, List.mem_append, List.mem_append, ih (by omega)]
theorem seenT_length {α : Type} [DecidableEq α] (l : List α) : ∀ k, k ≤ l.length → (seenL (l.take k)).length ≤ k := by
  intro k
  induction k with
  | zero => intro _; simp [seenL]
  | succ k ih =>
    intro hk
    obtain ⟨y, hy⟩ : ∃ y, l[k]? = some y := ⟨_, List.getElem?_eq_getElem (show k < l.length by omega)⟩
    have := ih (by omega)
    rw [seenL_take hy]
    split
    · omega
    · simp; omega
/-- Of each key its number. -/
def numT {α : Type} [DecidableEq α] (S : List α) (x : α) : Int := (S.idxOf x : Nat)
def numL {α : Type} [DecidableEq α] (l : List α) : List Int := l.map (numT (seenL l))
theorem numL_len {α : Type} [DecidableEq α] (l : List α) : (numL l).length = l.length := by simp [numL]
theorem seen_more {α : Type} [DecidableEq α] (l : List α) : ∀ k m, k ≤ m → m ≤ l.length → ∃ r, seenL (l.take m) = seenL (l.take k) ++ r := by
  intro k m hkm
  induction m with
  | zero => intro _; obtain rfl : k = 0 := by omega
            exact ⟨[], by simp⟩
  | succ m ih =>
    intro hm
    by_cases e : k = m + 1
    · subst e; exact ⟨[], by simp⟩
    · obtain ⟨r, hr⟩ := ih (by omega) (by omega)
      obtain ⟨y, hy⟩ : ∃ y, l[m]? = some y := ⟨_, List.getElem?_eq_getElem (show m < l.length by omega)⟩
      rw [seenL_take hy]
      split
      · exact ⟨r, hr⟩
      · exact ⟨r ++ [y], by rw [hr, List.append_assoc]⟩
theorem numT_more {α : Type} [DecidableEq α] {l : List α} {k m : Nat} {x : α} (hk : k ≤ m) (hm : m ≤ l.length) (hx : x ∈ seenL (l.take k)) : numT (seenL (l.take m)) x = numT (seenL (l.take k)) x := by
  obtain ⟨r, hr⟩ := seen_more l k m hk hm
  unfold numT
  rw [hr, List.idxOf_append, if_pos hx]
theorem numL_get {α : Type} [DecidableEq α] {l : List α} {j k : Nat} {x : α} (hx : l[j]? = some x) (hj : j < k) (hk : k ≤ l.length) : (numL l)[j]? = some (numT (seenL (l.take k)) x) := by
  unfold numL
  rw [List.getElem?_map, hx, Option.map_some]
  have hmem : x ∈ seenL (l.take k) := (mem_seenT l k hk x).2 (List.mem_of_getElem? (i := j) (by rw [List.getElem?_take, if_pos hj]; exact hx))
  have := numT_more hk (Nat.le_refl _) hmem
  rw [List.take_length] at this
  rw [this]
theorem numT_hit {α : Type} [DecidableEq α] {S : List α} {x : α} (h : x ∈ S) : ∃ i : Nat, numT S x = (i : Int) ∧ S[i]? = some x ∧ i < S.length := by
  refine ⟨S.idxOf x, rfl, ?_, List.idxOf_lt_length_of_mem h⟩
  rw [List.getElem?_eq_getElem (List.idxOf_lt_length_of_mem h)]
  simp
theorem numT_new {α : Type} [DecidableEq α] {S : List α} {x : α} (h : x ∉ S) : numT (S ++ [x]) x = (S.length : Int) := by
  unfold numT
  rw [List.idxOf_append, if_neg h]
  simp
end Go.Proofs.YtmldgfplnacecaaDoor
