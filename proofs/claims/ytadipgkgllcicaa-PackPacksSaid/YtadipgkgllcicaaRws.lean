/-
  Contract: pack.Rows.
-/
import Derived.Test.YtadipgkgllcicaaGtt
import Derived.Deep.RegionWith
namespace Go.Proofs.Ytadipgkgllcicaa
open Go.RowKit Go.Shelf Go.Lib Go.Maps

/-- An array by its cells. -/
def arr (n : Nat) (f : Nat → Value) : Array Value := ((List.range n).map f).toArray
theorem arr_size (n : Nat) (f : Nat → Value) : (arr n f).size = n := by simp [arr]
theorem arr_get {n i : Nat} (f : Nat → Value) (h : i < n) : (arr n f)[i]? = some (f i) := by simp [arr, h]
theorem arr_none {n i : Nat} (f : Nat → Value) (h : n ≤ i) : (arr n f)[i]? = none := by simp [arr, h]
theorem arr_set (n i : Nat) (f : Nat → Value) (v : Value) : (arr n f).setIfInBounds i v = arr n (fun j => if j = i then v else f j) := by
  apply Array.ext_getElem?
  intro j
  rw [Array.getElem?_setIfInBounds]
  by_cases hj : j < n
  · rw [arr_get f hj, arr_get (fun j => if j = i then v else f j) hj]
    by_cases e : i = j
    · subst e; rw [if_pos rfl, if_pos (by rw [arr_size]; exact hj), if_pos rfl]
    · rw [if_neg e, if_neg (fun h => e h.symm)]
  · rw [arr_none f (by omega), arr_none (fun j => if j = i then v else f j) (by omega)]
    split
    · rw [if_neg (by rw [arr_size]; omega)]
    · rfl
theorem arr_congr {n : Nat} {f g : Nat → Value} (h : ∀ i, i < n → f i = g i) : arr n f = arr n g := by
  unfold arr
  congr 1
  exact List.map_congr_left fun i hi => h i (List.mem_range.1 hi)
theorem made_arr (z : Value) (n : Nat) : madeCells #[z] n = arr n (fun _ => z) := by
  apply Array.ext_getElem?
  intro j
  by_cases hj : j < n
  · rw [arr_get _ hj]; simp [madeCells, hj, Nat.mod_one]
  · rw [arr_none _ (by omega)]; simp [madeCells]; omega
set_option maxRecDepth 100000 in
theorem make_rows (n : Nat) (hn : n ≤ 100000) (w : World) : (Instr.makeSlice 22 (.int .i64 (n : Int)) (.int .i64 (n : Int))).run Try.prog w = .ok (.slice (some ⟨w.heap.size, 0, none⟩) n n) (w.alloc (.cells (arr n fun _ => .slice none 0 0) 25)) := by
  obtain ⟨i, hi, hz, hsize, hby⟩ : ∃ i, Try.prog.info? 25 = some i ∧ i.zero = some (.slice none 0 0) ∧ i.size = 1 ∧ i.bytes = 24 := ⟨_, rfl, rfl, rfl, rfl⟩
  have := run_make (P := Try.prog) w 22 25 i _ Try.underlying22 hi hz .i64 .i64 (n : Int) (n : Int) (by omega) (by omega) (by rw [hby]; omega) (by omega)
  rw [hsize] at this
  rw [this, ← made_arr]
  simp [Value.cells]
set_option maxRecDepth 100000 in
theorem make_ints (n : Nat) (hn : n ≤ 100000) (w : World) : (Instr.makeSlice 25 (.int .i64 (n : Int)) (.int .i64 (n : Int))).run Try.prog w = .ok (.slice (some ⟨w.heap.size, 0, none⟩) n n) (w.alloc (.cells (arr n fun _ => .int .i64 0) 3)) := by
  obtain ⟨i, hi, hz, hsize, hby⟩ : ∃ i, Try.prog.info? 3 = some i ∧ i.zero = some (.int .i64 0) ∧ i.size = 1 ∧ i.bytes = 8 := ⟨_, rfl, rfl, rfl, rfl⟩
  have := run_make (P := Try.prog) w 25 3 i _ Try.underlying25 hi hz .i64 .i64 (n : Int) (n : Int) (by omega) (by omega) (by rw [hby]; omega) (by omega)
  rw [hsize] at this
  rw [this, ← made_arr]
  simp [Value.cells]
theorem getR_bd {p : Pk} (ok : OkP p) (i c : Nat) : 0 ≤ getR p i c ∧ getR p i c ≤ 65535 := by
  unfold getR
  split
  · rw [List.getD_eq_getElem?_getD]
    cases h : p.ns[(p.bs.getD i 0).toNat + c]? with
    | none => simp
    | some x => exact ok.n x (List.mem_of_getElem? h)
  · rw [List.getD_eq_getElem?_getD]
    cases h : p.us[i]? with
    | none => simp
    | some x => exact ok.u x (List.mem_of_getElem? h)
def rowF (p : Pk) (i : Nat) : Nat → Value := fun c => .int .i64 (getR p i c)
def partF (p : Pk) (i k : Nat) : Nat → Value := fun c => .int .i64 (if c < k then getR p i c else 0)
def rowsR (p : Pk) : List (List Int) := (List.range p.us.length).map fun i => (List.range p.w.toNat).map fun c => getR p i c
/-- The rows that are there already. -/
structure Ro (w wr : World) (p : Pk) (bx : Array Value) (B g0 n W k : Nat) (fo : Nat → Value) : Prop where
  b : Below B w wr
  x : Cells wr B 27 bx
  g : B < g0
  o : Cells wr g0 25 (arr n fo)
  r : ∀ i, i < k → ∃ h, fo i = .slice (some ⟨h, 0, none⟩) W W ∧ g0 < h ∧ Cells wr h 3 (arr W (rowF p i))
theorem Ro.on {w wr w' : World} {p : Pk} {bx : Array Value} {B g0 n W k : Nat} {fo : Nat → Value} (h : Ro w wr p bx B g0 n W k fo) (hb : Below wr.heap.size wr w') : Ro w w' p bx B g0 n W k fo :=
  ⟨h.b.trans (hb.mono (by have := h.x.lt; omega)), h.x.on hb, h.g, h.o.on hb, fun i hi => by
    obtain ⟨q, h1, h2, h3⟩ := h.r i hi
    exact ⟨q, h1, h2, h3.on hb⟩⟩
end Go.Proofs.Ytadipgkgllcicaa
