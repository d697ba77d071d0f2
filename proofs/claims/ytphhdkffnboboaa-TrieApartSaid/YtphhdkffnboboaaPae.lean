/-
  Operations on whole blocks: a block is loaded, a slice of one block is made. Which blocks are alike, numbered as they first come.
  What trie.share keeps: the trie's block, the blocks seen.
-/
import Derived.Deep.RegionLaw
import Derived.Deep.AppendLies
import Derived.Great.BuildSlice
import Derived.Test.YtphhdkffnboboaaPad
import Derived.Deep.MidRow
namespace Go.Proofs.Ytphhdkffnboboaa
open Go.RowKit Go.Shelf
open Go.Lib Go.Great Go.Maps

theorem foldl_set (l : List Value) : ∀ (k : Nat) (cs : Array Value), k + l.length ≤ cs.size → (((l.zipIdx k).foldl (fun (cs : Array Value) (p : Value × Nat) => cs.setIfInBounds (0 + p.2) p.1) cs).size = cs.size ∧
    ∀ i, ((l.zipIdx k).foldl (fun (cs : Array Value) (p : Value × Nat) => cs.setIfInBounds (0 + p.2) p.1) cs)[i]? = if k ≤ i ∧ i < k + l.length then l[i - k]? else cs[i]?) := by
  induction l with
  | nil =>
    intro k cs _
    refine ⟨rfl, fun i => ?_⟩
    rw [if_neg (by simp)]
    rfl
  | cons x xs ih =>
    intro k cs h
    rw [List.length_cons] at h
    rw [List.zipIdx_cons, List.foldl_cons]
    obtain ⟨h1, h2⟩ := ih (k + 1) (cs.setIfInBounds (0 + k) x) (by simp; omega)
    refine ⟨by rw [h1]; simp, fun i => ?_⟩
    rw [h2 i, Array.getElem?_setIfInBounds, List.length_cons]
    by_cases c : i = k
    · subst c
      rw [if_neg (by omega), if_pos (by omega), if_pos (by omega), if_pos (by omega)]
      simp
    · by_cases c2 : k + 1 ≤ i ∧ i < k + 1 + xs.length
      · rw [if_pos c2, if_pos (by omega), show i - k = (i - (k + 1)) + 1 by omega]
        simp
      · rw [if_neg c2, if_neg (by omega), if_neg (by omega)]
theorem fill_one (bl : List Value) (cs : Array Value) (hl : bl.length = 256) (hc : cs.size = 256) : Instr.fill (fun i => some (i * 256, 256)) cs [(0, .agg bl.toArray)] = some bl.toArray := by
  have e : (Value.agg bl.toArray).cells = bl.toArray := rfl
  simp only [Instr.fill, e, List.size_toArray, hl, hc]
  rw [if_neg (by simp)]
  congr 1
  have hz : bl.toArray.zipIdx = (bl.zipIdx 0).toArray := by simp
  rw [hz, List.foldl_toArray]
  obtain ⟨h1, h2⟩ := foldl_set bl 0 cs (by omega)
  apply Array.ext_getElem?
  intro i
  have := h2 i
  simp only [Nat.zero_mul] at this ⊢
  rw [this]
  by_cases c : i < 256
  · rw [if_pos (by omega)]
    simp
  · rw [if_neg (by omega)]
    simp only [List.getElem?_toArray]
    rw [List.getElem?_eq_none (by omega), Array.getElem?_eq_none (by omega)]

theorem step_load84 {w : World} {ops : Array Oper} {o : Oper} {a : Act} {K : Act → World → Prop} {Q : Exit → Act → World → Prop} {E : Prop} (hgd : o.guard = none) (x : Operand) (ho : o.op = .load 84 x)
    (X : Nat) (bl : List Value) (hl : bl.length = 256) (hx : a.eval x = .pointer (some ⟨X, 0, none⟩)) (hX : w.heap[X]? = some (.cells bl.toArray 84 (0, 0)))
    (h : K (a.put o.dst (.agg bl.toArray)) w) : if Region.wanted o (yielded ops a.tmps) = true then Oper.wp Try.prog o a w K Q else E := by
  have hw : Region.wanted o (yielded ops a.tmps) = true := by simp [Region.wanted, hgd]
  rw [if_pos hw]
  have hi : (Try.prog.info? 84).map (·.size) = some 256 := by kernel_rfl
  exact wp_load_row 84 x ho X hx 84 bl.toArray (0, 0) (.array 256 5) hX Try.underlying84 rfl (by rw [hi]; simp [hl]) h
theorem Try.info84 : ∃ i z, Try.prog.info? 84 = some i ∧ i.zero = some z ∧ i.size = 256 ∧ i.bytes = 256 ∧ z.cells.size = 256 := by
  have h : (Try.prog.info? 84).map (fun i => (i.size, i.bytes, i.zero.map fun z => z.cells.size)) = some (256, 256, some 256) := by kernel_rfl
  cases hi : Try.prog.info? 84 with
  | none => rw [hi] at h; cases h
  | some i =>
    rw [hi] at h
    simp only [Option.map_some, Option.some.injEq, Prod.mk.injEq] at h
    obtain ⟨h1, h2, h3⟩ := h
    cases hz : i.zero with
    | none => rw [hz] at h3; cases h3
    | some z =>
      rw [hz] at h3
      simp only [Option.map_some, Option.some.injEq] at h3
      exact ⟨i, z, rfl, hz, h1, h2, h3⟩
theorem step_build84 {w : World} {ops : Array Oper} {o : Oper} {a : Act} {K : Act → World → Prop} {Q : Exit → Act → World → Prop} {E : Prop} (hgd : o.guard = none) (y : Operand) (ho : o.op = .buildSlice 75 1 #[(0, y)])
    (bl : List Value) (hl : bl.length = 256) (hy : a.eval y = .agg bl.toArray) (H : Nat) (hH : w.heap.size = H)
    (h : K (a.put o.dst (.slice (some ⟨H, 0, none⟩) 1 1)) (w.alloc (.cells bl.toArray 84))) : if Region.wanted o (yielded ops a.tmps) = true then Oper.wp Try.prog o a w K Q else E := by
  have hw : Region.wanted o (yielded ops a.tmps) = true := by simp [Region.wanted, hgd]
  rw [if_pos hw]
  subst hH
  obtain ⟨i, z, hi, hz, hs, _, hzs⟩ := Try.info84
  refine wp_buildSlice 75 84 1 _ ho bl.toArray i z Try.underlying75 hi hz (by rw [hs]; decide) (by rw [hs]; decide) ?_ h
  rw [hs]
  have e : (#[(0, y)].map fun (i, x) => (i, a.eval x)).toList = [(0, .agg bl.toArray)] := by simp [hy]
  rw [e]
  exact fill_one bl _ hl (by simp)

/-! ### alike -/
def sameB (F : Nat → Int) (k i : Nat) : Bool := (List.range 256).all fun j => F (256 * k + j) == F (256 * i + j)
theorem sameB_iff (F : Nat → Int) (k i : Nat) : sameB F k i = true ↔ blc F k = blc F i := by
  constructor
  · intro h
    unfold blc
    apply List.map_congr_left
    intro j hj
    have := List.all_eq_true.1 h j hj
    rw [eq_of_beq this]
  · intro h
    unfold sameB
    rw [List.all_eq_true]
    intro j hj
    have hj := List.mem_range.1 hj
    have h1 := blc_get F k j hj
    rw [h, blc_get F i j hj] at h1
    simp only [Option.some.injEq, Value.int.injEq, true_and] at h1
    simp [h1]
/-- The unlike ones among the first blocks. -/
def dd (F : Nat → Int) : Nat → List Nat
  | 0 => []
  | i + 1 => if (dd F i).any (fun k => sameB F k i) then dd F i else dd F i ++ [i]
/-- Which of them is like a block. -/
def rf (F : Nat → Int) (i t : Nat) : Nat := (dd F i).findIdx (fun k => sameB F k t)
theorem dd_len (F : Nat → Int) (i : Nat) : (dd F i).length ≤ i := by
  induction i with
  | zero => exact Nat.le_refl _
  | succ i ih =>
    unfold dd
    split
    · omega
    · simp; omega
theorem dd_has (F : Nat → Int) (i t : Nat) (h : t < i) : (dd F i).any (fun k => sameB F k t) = true := by
  induction i with
  | zero => omega
  | succ i ih =>
    unfold dd
    by_cases c : (dd F i).any (fun k => sameB F k i) = true
    · rw [if_pos c]
      by_cases c2 : t = i
      · subst c2; exact c
      · exact ih (by omega)
    · rw [if_neg c, List.any_append, Bool.or_eq_true]
      by_cases c2 : t = i
      · subst c2
        right
        simp [(sameB_iff F t t).2 rfl]
      · exact .inl (ih (by omega))
theorem rf_lt (F : Nat → Int) (i t : Nat) (h : (dd F i).any (fun k => sameB F k t) = true) : rf F i t < (dd F i).length := by
  unfold rf
  rw [List.findIdx_lt_length]
  simpa using h
theorem dd_succ (F : Nat → Int) (i : Nat) : dd F (i + 1) = if (dd F i).any (fun k => sameB F k i) then dd F i else dd F i ++ [i] := rfl
theorem rf_keep (F : Nat → Int) (i t : Nat) (h : (dd F i).any (fun k => sameB F k t) = true) : rf F (i + 1) t = rf F i t := by
  have hl := rf_lt F i t h
  unfold rf at hl ⊢
  rw [dd_succ]
  by_cases c : (dd F i).any (fun k => sameB F k i) = true
  · rw [if_pos c]
  · rw [if_neg c, List.findIdx_append, if_pos hl]
theorem rf_new (F : Nat → Int) (i t : Nat) (h : (dd F i).any (fun k => sameB F k t) = false) (hs : sameB F i t = true) (hn : (dd F i).any (fun k => sameB F k i) = false) : rf F (i + 1) t = (dd F i).length := by
  have hl : (dd F i).findIdx (fun k => sameB F k t) = (dd F i).length := by
    rw [List.findIdx_eq_length]
    intro x hx
    have := List.any_eq_false.1 h x hx
    simpa using this
  unfold rf
  rw [dd_succ, if_neg (by rw [hn]; simp), List.findIdx_append, if_neg (by omega)]
  simp [hs]
theorem rf_at (F : Nat → Int) (i t : Nat) (h : (dd F i).any (fun k => sameB F k t) = true) : ∃ k, (dd F i)[rf F i t]? = some k ∧ sameB F k t = true := by
  have hl := rf_lt F i t h
  refine ⟨(dd F i)[rf F i t], List.getElem?_eq_getElem hl, ?_⟩
  unfold rf at hl ⊢
  exact List.findIdx_getElem (w := hl)
end Go.Proofs.Ytphhdkffnboboaa

namespace Go.Proofs.Ytphhdkffnboboaa
open Go.RowKit Go.Shelf
open Go.Lib Go.Great Go.Maps

/-- A trie's block. -/
def TB (w : World) (T : Nat) (ov : Value) (g : Nat → Int) (S : Value) : Prop := ∃ cs : Array Value, w.heap[T]? = some (.cells cs 80 (0, 0)) ∧ cs.size = 4354 ∧ cs[0]? = some ov ∧ (∀ t, t < 4352 → cs[1 + t]? = some (.int .i64 (g t))) ∧ cs[4353]? = some S
theorem TB.lt {w : World} {T : Nat} {ov S : Value} {g : Nat → Int} (h : TB w T ov g S) : T < w.heap.size := by obtain ⟨_, h, _⟩ := h; exact (Array.getElem?_eq_some_iff.1 h).1
theorem TB.kept {w w' : World} {T : Nat} {ov S : Value} {g : Nat → Int} (h : TB w T ov g S) (he : w'.heap[T]? = w.heap[T]?) : TB w' T ov g S := by
  obtain ⟨cs, h1, h2⟩ := h
  exact ⟨cs, he.trans h1, h2⟩
theorem TB.other {w : World} {T : Nat} {ov S : Value} {g : Nat → Int} (h : TB w T ov g S) : w.cell? ⟨T, 0, none⟩ = some ov := by
  obtain ⟨cs, h1, h2, h3, h4, h5⟩ := h
  exact (cell_of_row w T 0 cs 80 (0, 0) h1).trans h3
theorem TB.slice {w : World} {T : Nat} {ov S : Value} {g : Nat → Int} (h : TB w T ov g S) : w.cell? ⟨T, 4353, none⟩ = some S ∧ w.frozen? ⟨T, 4353, none⟩ = false := by
  obtain ⟨cs, h1, h2, h3, h4, h5⟩ := h
  exact ⟨(cell_of_row w T 4353 cs 80 (0, 0) h1).trans h5, frozen_of_row w T 4353 cs 80 h1⟩
theorem TB.ref {w : World} {T : Nat} {ov S : Value} {g : Nat → Int} (h : TB w T ov g S) {t : Nat} (ht : t < 4352) : w.cell? ⟨T, 1 + t, none⟩ = some (.int .i64 (g t)) ∧ w.frozen? ⟨T, 1 + t, none⟩ = false := by
  obtain ⟨cs, h1, h2, h3, h4, h5⟩ := h
  exact ⟨(cell_of_row w T (1 + t) cs 80 (0, 0) h1).trans (h4 t ht), frozen_of_row w T (1 + t) cs 80 h1⟩
theorem TB.setS {w : World} {T : Nat} {ov S : Value} {g : Nat → Int} (h : TB w T ov g S) (S' : Value) : TB (w.setCell ⟨T, 4353, none⟩ S') T ov g S' := by
  obtain ⟨cs, h1, h2, h3, h4, h5⟩ := h
  refine ⟨cs.setIfInBounds 4353 S', heap_setCell_same w T 4353 cs 80 _ h1, by simpa using h2, ?_, fun t ht => ?_, ?_⟩
  · rw [Array.getElem?_setIfInBounds, if_neg (by omega)]; exact h3
  · rw [Array.getElem?_setIfInBounds, if_neg (by omega)]; exact h4 t ht
  · simp [h2]
theorem TB.setRef {w : World} {T : Nat} {ov S : Value} {g : Nat → Int} (h : TB w T ov g S) {j : Nat} (hj : j < 4352) (v : Int) : TB (w.setCell ⟨T, 1 + j, none⟩ (.int .i64 v)) T ov (fun t => if t = j then v else g t) S := by
  obtain ⟨cs, h1, h2, h3, h4, h5⟩ := h
  refine ⟨cs.setIfInBounds (1 + j) (.int .i64 v), heap_setCell_same w T (1 + j) cs 80 _ h1, by simpa using h2, ?_, fun t ht => ?_, ?_⟩
  · rw [Array.getElem?_setIfInBounds, if_neg (by omega)]; exact h3
  · rw [Array.getElem?_setIfInBounds]
    by_cases c : 1 + j = 1 + t
    · have e : t = j := by omega
      subst e
      simp [h2]
      omega
    · rw [if_neg c, h4 t ht]
      show _ = some (Value.int .i64 (if t = j then v else g t))
      rw [if_neg (by omega)]
  · rw [Array.getElem?_setIfInBounds, if_neg (by omega)]; exact h5
theorem TB.congr {w : World} {T : Nat} {ov S : Value} {g g' : Nat → Int} (h : TB w T ov g S) (e : ∀ i, i < 4352 → g i = g' i) : TB w T ov g' S := by
  obtain ⟨cs, h1, h2, h3, h4, h5⟩ := h
  exact ⟨cs, h1, h2, h3, fun t ht => by rw [h4 t ht, e t ht], h5⟩

/-- The key of each block. -/
def KL (F : Nat → Int) (kl : Nat → Lit) : Prop := ∀ k, keyOf Try.prog 84 (.agg (blc F k).toArray) = some (kl k)
theorem KL.ex (F : Nat → Int) (hF : U8 F) : ∃ kl, KL F kl := ⟨fun k => (key84 F hF k).choose, fun k => (key84 F hF k).choose_spec⟩
theorem KL.iff {F : Nat → Int} {kl : Nat → Lit} (h : KL F kl) (s t : Nat) : kl s = kl t ↔ blc F s = blc F t := by
  constructor
  · intro e
    have h1 := h s
    rw [e] at h1
    have := law84.inj h1 (h t)
    simpa using this
  · intro e
    have h1 := h s
    rw [e, h t] at h1
    exact (Option.some.inj h1).symm
theorem any_congr (F : Nat → Int) (l : List Nat) {s t : Nat} (e : blc F s = blc F t) : l.any (fun k => sameB F k s) = l.any (fun k => sameB F k t) := by
  congr 1
  funext k
  rw [Bool.eq_iff_iff, sameB_iff, sameB_iff, e]

/-- What the map of the blocks seen tells. -/
structure Seen {H : Type} (F : Nat → Int) (kl : Nat → Lit) (i : Nat) (D : DataW H) : Prop where
  has : ∀ t, Maps.has D (kl t) = (dd F i).any (fun k => sameB F k t)
  at_ : ∀ t, (dd F i).any (fun k => sameB F k t) = true → D.atKey (kl t) (.lit (.int .i64 0)) = .lit (.int .i64 (rf F i t : Nat))
theorem Seen.zero {H : Type} (F : Nat → Int) (kl : Nat → Lit) : Seen (H := H) F kl 0 (.map []) := ⟨fun _ => rfl, fun t h => by simp [dd] at h⟩
theorem Seen.old {H : Type} {F : Nat → Int} {kl : Nat → Lit} {i : Nat} {D : DataW H} (h : Seen F kl i D) (c : (dd F i).any (fun k => sameB F k i) = true) : Seen F kl (i + 1) D := by
  have e : dd F (i + 1) = dd F i := by rw [dd_succ, if_pos c]
  refine ⟨fun t => by rw [e]; exact h.has t, fun t ht => ?_⟩
  rw [e] at ht
  rw [rf_keep F i t ht]
  exact h.at_ t ht
theorem Seen.new {H : Type} {F : Nat → Int} {kl : Nat → Lit} {i : Nat} {D : DataW H} (h : Seen F kl i D) (hk : KL F kl) (hD : IsMap D) (c : (dd F i).any (fun k => sameB F k i) = false) : Seen F kl (i + 1) (D.put (kl i) (.lit (.int .i64 ((dd F i).length : Nat)))) := by
  have hkey := law84.key (hk i)
  have e : dd F (i + 1) = dd F i ++ [i] := by rw [dd_succ, if_neg (by rw [c]; simp)]
  refine ⟨fun t => ?_, fun t ht => ?_⟩
  · rw [e, List.any_append]
    by_cases q : kl t = kl i
    · rw [q, has_put_same hD hkey]
      have := (hk.iff t i).1 q
      simp [(sameB_iff F i t).2 this.symm]
    · rw [has_put_other q, h.has t]
      have : sameB F i t = false := by
        rw [Bool.eq_false_iff]
        intro hh
        exact q ((hk.iff t i).2 ((sameB_iff F i t).1 hh).symm)
      simp [this]
  · by_cases q : kl t = kl i
    · rw [q, atKey_put_same hD hkey]
      have hb := (hk.iff t i).1 q
      rw [rf_new F i t (by rw [any_congr F _ hb]; exact c) ((sameB_iff F i t).2 hb.symm) c]
    · rw [atKey_put_other q]
      have ho : (dd F i).any (fun k => sameB F k t) = true := by
        rw [e, List.any_append, Bool.or_eq_true] at ht
        rcases ht with ht | ht
        · exact ht
        · have : sameB F i t = true := by simpa using ht
          exact absurd ((hk.iff t i).2 ((sameB_iff F i t).1 this).symm) q
      rw [rf_keep F i t ho]
      exact h.at_ t ho
end Go.Proofs.Ytphhdkffnboboaa

