/-
  Arrays by their cells; lists in blocks of their own.
-/
import Derived.Test.YtmldgfplnacecaaDoorEqs
import Derived.Test.YtmldgfplnacecaaDoorRun
namespace Go.Proofs.YtmldgfplnacecaaDoor
open Go.RowKit Go.Shelf Go.Lib Go.Maps Go.Sort

theorem list_at {xs : List Int} {i : Nat} (h : i < xs.length) : ∃ x, xs[i]? = some x := ⟨xs[i], List.getElem?_eq_getElem h⟩
theorem IS.at {w : World} {B : Nat} {xs : List Int} {A : Option Addr} {cap i : Nat} {x : Int} (h : IS w B xs A cap) (hx : xs[i]? = some x) : ∃ b o, A = some ⟨b, o, none⟩ ∧ b < B ∧ w.cell? ⟨b, o + i, none⟩ = some (.int .i64 x) := by
  obtain ⟨b, o, e, hb, hc⟩ := h.r (by rintro rfl; simp at hx)
  exact ⟨b, o, e, hb, hc i x hx⟩
theorem getD_get {α : Type} {l : List α} {i : Nat} {x d : α} (h : l[i]? = some x) : l.getD i d = x := by simp [List.getD_eq_getElem?_getD, h]
theorem getD_none {α : Type} {l : List α} {i : Nat} {d : α} (h : l.length ≤ i) : l.getD i d = d := by rw [List.getD_eq_getElem?_getD, List.getElem?_eq_none h]; rfl
/-- An array by its cells. -/
def arr (n : Nat) (f : Nat → Value) : Array Value := ((List.range n).map f).toArray
theorem arr_size (n : Nat) (f : Nat → Value) : (arr n f).size = n := by simp [arr]
theorem arr_get {n i : Nat} (f : Nat → Value) (h : i < n) : (arr n f)[i]? = some (f i) := by simp [arr, h]
theorem arr_none {n i : Nat} (f : Nat → Value) (h : n ≤ i) : (arr n f)[i]? = none := by simp [arr, h]
theorem arr_set (n i : Nat) (f : Nat → Value) (v : Value) : (arr n f).setIfInBounds i v = arr n (fun j => if j = i then v else f j) := by
  apply Array.ext_getElem?
  intro j
  rw [Array.getElem?_setIfInBounds]
  by_cases hj : j < n
  · rw [arr_get f hj, arr_get (fun j => if j = i then v else f j) hj]
    by_cases e : i = j
    · subst e; rw [if_pos rfl, if_pos (by rw [arr_size]; exact hj), if_pos rfl]
    · rw [if_neg e, if_neg (fun h => e h.symm)]
  · rw [arr_none f (by omega), arr_none (fun j => if j = i then v else f j) (by omega)]
    split
    · rw [if_neg (by rw [arr_size]; omega)]
    · rfl
theorem arr_congr {n : Nat} {f g : Nat → Value} (h : ∀ i, i < n → f i = g i) : arr n f = arr n g := by
  unfold arr
  congr 1
  exact List.map_congr_left fun i hi => h i (List.mem_range.1 hi)
theorem made_arr (z : Value) (n : Nat) : madeCells #[z] n = arr n (fun _ => z) := by
  apply Array.ext_getElem?
  intro j
  by_cases hj : j < n
  · rw [arr_get _ hj]; simp [madeCells, hj, Nat.mod_one]
  · rw [arr_none _ (by omega)]; simp [madeCells]; omega
set_option maxRecDepth 100000 in
theorem make_ints (n : Nat) (hn : n ≤ 100000) (w : World) : (Instr.makeSlice 23 (.int .i64 (n : Int)) (.int .i64 (n : Int))).run Tryd.prog w = .ok (.slice (some ⟨w.heap.size, 0, none⟩) n n) (w.alloc (.cells (arr n fun _ => .int .i64 0) 3)) := by
  obtain ⟨i, hi, hz, hsize, hby⟩ : ∃ i, Tryd.prog.info? 3 = some i ∧ i.zero = some (.int .i64 0) ∧ i.size = 1 ∧ i.bytes = 8 := ⟨_, rfl, rfl, rfl, rfl⟩
  have := run_make (P := Tryd.prog) w 23 3 i _ Tryd.underlying23 hi hz .i64 .i64 (n : Int) (n : Int) (by omega) (by omega) (by rw [hby]; omega) (by omega)
  rw [hsize] at this
  rw [this, ← made_arr]
  simp [Value.cells]
theorem cells_is {w : World} {h : Nat} {xs : List Int} (hc : Cells w h 3 (intsC xs).toArray) (hl : xs.length ≤ 1000) (hi : ∀ x ∈ xs, i64 x) : IS w w.heap.size xs (some ⟨h, 0, none⟩) xs.length :=
  ⟨Nat.le_refl _, by unfold maxLen; omega, hi, fun _ => ⟨h, 0, rfl, hc.lt, fun i x hx => by
    rw [Nat.zero_add, hc.cell i]
    simp [intsC, hx]⟩⟩
/-- A list in a block of its own that was made since. -/
def FrL (w w' : World) (l : List Int) (v : Value) : Prop := ∃ h, v = .slice (some ⟨h, 0, none⟩) l.length l.length ∧ w.heap.size ≤ h ∧ Cells w' h 3 (intsC l).toArray
theorem FrL.is {w w' : World} {l : List Int} {v : Value} (h : FrL w w' l v) (hl : l.length ≤ 1000) (hi : ∀ x ∈ l, i64 x) : ∃ A, v = .slice A l.length l.length ∧ IS w' w'.heap.size l A l.length := by
  obtain ⟨q, e, _, hc⟩ := h
  exact ⟨_, e, cells_is hc hl hi⟩
theorem FrL.on {w w' w'' : World} {l : List Int} {v : Value} (h : FrL w w' l v) (hb : Below w'.heap.size w' w'') : FrL w w'' l v := by
  obtain ⟨q, e, h1, hc⟩ := h
  exact ⟨q, e, h1, hc.on hb⟩
theorem FrL.from {w0 w w' : World} {l : List Int} {v : Value} (h : FrL w w' l v) (hs : w0.heap.size ≤ w.heap.size) : FrL w0 w' l v := by
  obtain ⟨q, e, h1, hc⟩ := h
  exact ⟨q, e, by omega, hc⟩
theorem arr_ints (l : List Int) : arr l.length (fun c => .int .i64 (l.getD c 0)) = (intsC l).toArray := by
  apply Array.ext_getElem?
  intro i
  by_cases hi : i < l.length
  · rw [arr_get _ hi]
    simp [intsC, List.getD_eq_getElem?_getD, hi]
  · have h2 := Nat.not_lt.1 hi
    rw [arr_none _ h2]
    simp [intsC, h2]
end Go.Proofs.YtmldgfplnacecaaDoor
