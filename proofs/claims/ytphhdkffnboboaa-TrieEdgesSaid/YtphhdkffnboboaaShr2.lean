/-
  Operations on whole blocks: a block is loaded, a slice of one block is made. Which blocks are alike, numbered as they first come.
-/
import Derived.Deep.RegionLaw
import Derived.Deep.AppendLies
import Derived.Great.BuildSlice
import Derived.Test.YtphhdkffnboboaaShr
namespace Go.Proofs.Ytphhdkffnboboaa
open Go.RowKit Go.Shelf
open Go.Lib Go.Great Go.Maps

theorem foldl_set (l : List Value) : ∀ (k : Nat) (cs : Array Value), k + l.length ≤ cs.size → (((l.zipIdx k).foldl (fun (cs : Array Value) (p : Value × Nat) => cs.setIfInBounds (0 + p.2) p.1) cs).size = cs.size ∧
    ∀ i, ((l.zipIdx k).foldl (fun (cs : Array Value) (p : Value × Nat) => cs.setIfInBounds (0 + p.2) p.1) cs)[i]? = if k ≤ i ∧ i < k + l.length then l[i - k]? else cs[i]?) := by
  induction l with
  | nil =>
    intro k cs _
    refine ⟨rfl, fun i => ?_⟩
    rw [if_neg (by simp)]
    rfl
  | cons x xs ih =>
    intro k cs h
    rw [List.length_cons] at h
    rw [List.zipIdx_cons, List.foldl_cons]
    obtain ⟨h1, h2⟩ := ih (k + 1) (cs.setIfInBounds (0 + k) x) (by simp; omega)
    refine ⟨by rw [h1]; simp, fun i => ?_⟩
    rw [h2 i, Array.getElem?_setIfInBounds, List.length_cons]
    by_cases c : i = k
    · subst c
      rw [if_neg (by omega), if_pos (by omega), if_pos (by omega), if_pos (by omega)]
      simp
    · by_cases c2 : k + 1 ≤ i ∧ i < k + 1 + xs.length
      · rw [if_pos c2, if_pos (by omega), show i - k = (i - (k + 1)) + 1 by omega]
        simp
      · rw [if_neg c2, if_neg (by omega), if_neg (by omega)]
theorem fill_one (bl : List Value) (cs : Array Value) (hl : bl.length = 256) (hc : cs.size = 256) : Instr.fill (fun i => some (i * 256, 256)) cs [(0, .agg bl.toArray)] = some bl.toArray := by
  have e : (Value.agg bl.toArray).cells = bl.toArray := rfl
  simp only [Instr.fill, e, List.size_toArray, hl, hc]
  rw [if_neg (by simp)]
  congr 1
  have hz : bl.toArray.zipIdx = (bl.zipIdx 0).toArray := by simp
  rw [hz, List.foldl_toArray]
  obtain ⟨h1, h2⟩ := foldl_set bl 0 cs (by omega)
  apply Array.ext_getElem?
  intro i
  have := h2 i
  simp only [Nat.zero_mul] at this ⊢
  rw [this]
  by_cases c : i < 256
  · rw [if_pos (by omega)]
    simp
  · rw [if_neg (by omega)]
    simp only [List.getElem?_toArray]
    rw [List.getElem?_eq_none (by omega), Array.getElem?_eq_none (by omega)]

theorem step_load84 {w : World} {ops : Array Oper} {o : Oper} {a : Act} {K : Act → World → Prop} {Q : Exit → Act → World → Prop} {E : Prop} (hgd : o.guard = none) (x : Operand) (ho : o.op = .load 84 x)
    (X : Nat) (bl : List Value) (hl : bl.length = 256) (hx : a.eval x = .pointer (some ⟨X, 0, none⟩)) (hX : w.heap[X]? = some (.cells bl.toArray 84 (0, 0)))
    (h : K (a.put o.dst (.agg bl.toArray)) w) : if Region.wanted o (yielded ops a.tmps) = true then Oper.wp Try.prog o a w K Q else E := by
  have hw : Region.wanted o (yielded ops a.tmps) = true := by simp [Region.wanted, hgd]
  rw [if_pos hw]
  have hi : (Try.prog.info? 84).map (·.size) = some 256 := by kernel_rfl
  exact wp_load_row 84 x ho X hx 84 bl.toArray (0, 0) (.array 256 5) hX Try.underlying84 rfl (by rw [hi]; simp [hl]) h
theorem Try.info84 : ∃ i z, Try.prog.info? 84 = some i ∧ i.zero = some z ∧ i.size = 256 ∧ i.bytes = 256 ∧ z.cells.size = 256 := by
  have h : (Try.prog.info? 84).map (fun i => (i.size, i.bytes, i.zero.map fun z => z.cells.size)) = some (256, 256, some 256) := by kernel_rfl
  cases hi : Try.prog.info? 84 with
  | none => rw [hi] at h; cases h
  | some i =>
    rw [hi] at h
    simp only [Option.map_some, Option.some.injEq, Prod.mk.injEq] at h
    obtain ⟨h1, h2, h3⟩ := h
    cases hz : i.zero with
    | none => rw [hz] at h3; cases h3
    | some z =>
      rw [hz] at h3
      simp only [Option.map_some, Option.some.injEq] at h3
      exact ⟨i, z, rfl, hz, h1, h2, h3⟩
theorem step_build84 {w : World} {ops : Array Oper} {o : Oper} {a : Act} {K : Act → World → Prop} {Q : Exit → Act → World → Prop} {E : Prop} (hgd : o.guard = none) (y : Operand) (ho : o.op = .buildSlice 75 1 #[(0, y)])
    (bl : List Value) (hl : bl.length = 256) (hy : a.eval y = .agg bl.toArray) (H : Nat) (hH : w.heap.size = H)
    (h : K (a.put o.dst (.slice (some ⟨H, 0, none⟩) 1 1)) (w.alloc (.cells bl.toArray 84))) : if Region.wanted o (yielded ops a.tmps) = true then Oper.wp Try.prog o a w K Q else E := by
  have hw : Region.wanted o (yielded ops a.tmps) = true := by simp [Region.wanted, hgd]
  rw [if_pos hw]
  subst hH
  obtain ⟨i, z, hi, hz, hs, _, hzs⟩ := Try.info84
  refine wp_buildSlice 75 84 1 _ ho bl.toArray i z Try.underlying75 hi hz (by rw [hs]; decide) (by rw [hs]; decide) ?_ h
  rw [hs]
  have e : (#[(0, y)].map fun (i, x) => (i, a.eval x)).toList = [(0, .agg bl.toArray)] := by simp [hy]
  rw [e]
  exact fill_one bl _ hl (by simp)

/-! ### alike -/
def sameB (F : Nat → Int) (k i : Nat) : Bool := (List.range 256).all fun j => F (256 * k + j) == F (256 * i + j)
theorem sameB_iff (F : Nat → Int) (k i : Nat) : sameB F k i = true ↔ blc F k = blc F i := by
  constructor
  · intro h
    unfold blc
    apply List.map_congr_left
    intro j hj
    have := List.all_eq_true.1 h j hj
    rw [eq_of_beq this]
  · intro h
    unfold sameB
    rw [List.all_eq_true]
    intro j hj
    have hj := List.mem_range.1 hj
    have h1 := blc_get F k j hj
    rw [h, blc_get F i j hj] at h1
    simp only [Option.some.injEq, Value.int.injEq, true_and] at h1
    simp [h1]
/-- The unlike ones among the first blocks. -/
def dd (F : Nat → Int) : Nat → List Nat
  | 0 => []
  | i + 1 => if (dd F i).any (fun k => sameB F k i) then dd F i else dd F i ++ [i]
/-- Which of them is like a block. -/
def rf (F : Nat → Int) (i t : Nat) : Nat := (dd F i).findIdx (fun k => sameB F k t)
theorem dd_len (F : Nat → Int) (i : Nat) : (dd F i).length ≤ i := by
  induction i with
  | zero => exact Nat.le_refl _
  | succ i ih =>
    unfold dd
    split
    · omega
    · simp; omega
theorem dd_has (F : Nat → Int) (i t : Nat) (h : t < i) : (dd F i).any (fun k => sameB F k t) = true := by
  induction i with
  | zero => omega
  | succ i ih =>
    unfold dd
    by_cases c : (dd F i).any (fun k => sameB F k i) = true
    · rw [if_pos c]
      by_cases c2 : t = i
      · subst c2; exact c
      · exact ih (by omega)
    · rw [if_neg c, List.any_append, Bool.or_eq_true]
      by_cases c2 : t = i
      · subst c2
        right
        simp [(sameB_iff F t t).2 rfl]
      · exact .inl (ih (by omega))
theorem rf_lt (F : Nat → Int) (i t : Nat) (h : (dd F i).any (fun k => sameB F k t) = true) : rf F i t < (dd F i).length := by
  unfold rf
  rw [List.findIdx_lt_length]
  simpa using h
theorem dd_succ (F : Nat → Int) (i : Nat) : dd F (i + 1) = if (dd F i).any (fun k => sameB F k i) then dd F i else dd F i ++ [i] := rfl
theorem rf_keep (F : Nat → Int) (i t : Nat) (h : (dd F i).any (fun k => sameB F k t) = true) : rf F (i + 1) t = rf F i t := by
  have hl := rf_lt F i t h
  unfold rf at hl ⊢
  rw [dd_succ]
  by_cases c : (dd F i).any (fun k => sameB F k i) = true
  · rw [if_pos c]
  · rw [if_neg c, List.findIdx_append, if_pos hl]
theorem rf_new (F : Nat → Int) (i t : Nat) (h : (dd F i).any (fun k => sameB F k t) = false) (hs : sameB F i t = true) (hn : (dd F i).any (fun k => sameB F k i) = false) : rf F (i + 1) t = (dd F i).length := by
  have hl : (dd F i).findIdx (fun k => sameB F k t) = (dd F i).length := by
    rw [List.findIdx_eq_length]
    intro x hx
    have := List.any_eq_false.1 h x hx
    simpa using this
  unfold rf
  rw [dd_succ, if_neg (by rw [hn]; simp), List.findIdx_append, if_neg (by omega)]
  simp [hs]
theorem rf_at (F : Nat → Int) (i t : Nat) (h : (dd F i).any (fun k => sameB F k t) = true) : ∃ k, (dd F i)[rf F i t]? = some k ∧ sameB F k t = true := by
  have hl := rf_lt F i t h
  refine ⟨(dd F i)[rf F i t], List.getElem?_eq_getElem hl, ?_⟩
  unfold rf at hl ⊢
  exact List.findIdx_getElem (w := hl)
end Go.Proofs.Ytphhdkffnboboaa
