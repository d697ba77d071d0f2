/-
  Packed rows of the document that grow.
-/
import Derived.Test.YtadipgkgllcicaaUsq
namespace Go.Proofs.Ytadipgkgllcicaa
open Go.RowKit Go.Shelf Go.Lib Go.Maps

structure PkN (w : World) (pb B : Nat) (px : Int) (v : Nat → Value) (l : Nat → List Int) : Prop where
  c : Cells w pb 34 #[.int .i64 px, v 0, v 1, v 2, v 3]
  lt : pb < B
  o : ∀ i, i < 4 → w.ownsRow B 3 1 (v i) (l i).length (intsC (l i))
  d : ∀ i j, i < 4 → j < 4 → i ≠ j → ∀ g, (v i).ownBlock = some g → (v j).ownBlock ≠ some g
  n : ∀ i, i < 4 → ∀ x ∈ l i, i64 x
theorem PkN.congr {w : World} {pb B : Nat} {px : Int} {v : Nat → Value} {l l' : Nat → List Int} (h : PkN w pb B px v l) (hl : ∀ i, i < 4 → l i = l' i) : PkN w pb B px v l' :=
  ⟨h.c, h.lt, fun i hi => by rw [← hl i hi]; exact h.o i hi, h.d, fun i hi => by rw [← hl i hi]; exact h.n i hi⟩
theorem PkN.drew {w : World} {pb B : Nat} {px : Int} {v : Nat → Value} {l : Nat → List Int} (h : PkN w pb B px v l) : PkN w.drew pb B px v l := ⟨h.c, h.lt, h.o, h.d, h.n⟩
theorem PkN.move {w w' : World} {pb B : Nat} {px : Int} {v : Nat → Value} {l : Nat → List Int} {X : Nat → Prop} (h : PkN w pb B px v l) (hf : Fz X w w') (hX : ∀ k, X k → ¬ Xp pb v k) : PkN w' pb B px v l :=
  ⟨(hf.block pb h.c.lt (fun hx => hX pb hx (.inl rfl))).trans h.c, h.lt, fun i hi => own_fz hf (h.o i hi) (fun k hk e => hX k hk (.inr ⟨i, hi, e⟩)), h.d, h.n⟩
theorem PkN.below {w w' : World} {pb B : Nat} {px : Int} {v : Nat → Value} {l : Nat → List Int} (h : PkN w pb B px v l) (hb : Below w.heap.size w w') : PkN w' pb B px v l :=
  h.move (Fz.of_below (X := fun _ => False) hb) (fun _ hk => hk.elim)
theorem PkN.append {w w' : World} {pb B g cap i : Nat} {px x : Int} {v : Nat → Value} {l : Nat → List Int} {o : Obj} (h : PkN w pb B px v l) (hi : i < 4) (hx : i64 x)
    (ho : w'.ownsRow B 3 1 (.slice (some ⟨g, 0, none⟩) ((l i).length + 1) cap) ((l i).length + 1) (intsC (l i) ++ [.int .i64 x])) (hg : (w.alloc o).grownBy w' (v i).ownBlock) (hat : (v i).ownBlock = some g ∨ g = w.heap.size + 1) :
    Cells w' pb 34 #[.int .i64 px, v 0, v 1, v 2, v 3] ∧ PkN (w'.setCell ⟨pb, i + 1, none⟩ (.slice (some ⟨g, 0, none⟩) ((l i).length + 1) cap)) pb B px (upd v i (.slice (some ⟨g, 0, none⟩) ((l i).length + 1) cap)) (upd l i (l i ++ [x])) := by
  have hl := h.lt
  have hc := h.c.lt
  have hs : (w.alloc o).heap.size = w.heap.size + 1 := by simp
  have hgb := (own_block_lt ho g rfl).1
  have blk : ∀ k, k < w.heap.size → (v i).ownBlock ≠ some k → w'.heap[k]? = w.heap[k]? := fun k hk hn => (hg.block k (by omega) (fun e => hn e.symm)).trans ((below_new w o).block k hk)
  have c1 : Cells w' pb 34 #[.int .i64 px, v 0, v 1, v 2, v 3] := (blk pb hc (fun e => by have := (own_block_lt (h.o i hi) pb e).1; omega)).trans h.c
  have ob : ∀ j, j < 4 → ∀ k, (v j).ownBlock = some k → B ≤ k ∧ k < w.heap.size := fun j hj k e => own_block_lt (h.o j hj) k e
  refine ⟨c1, ?_, hl, fun j hj => ?_, fun a b ha hb hab k hk => ?_, fun j hj => ?_⟩
  · rw [← cells_upd v i hi]; exact c1.set (i + 1) _
  · by_cases e : j = i
    · subst e
      rw [upd_same, upd_same, List.length_append, intsC_append]
      exact ownsRow_setCell_below ho (by show pb < B; exact hl) _
    · rw [upd_other _ _ e, upd_other _ _ e]
      refine ownsRow_setCell_below ?_ (by show pb < B; exact hl) _
      have hf : Fz (fun k => (v i).ownBlock = some k) w w' := ⟨hg.os, hg.tape, hg.output, by have := hg.size; omega, fun k hk hn => blk k hk hn⟩
      exact own_fz hf (h.o j hj) (fun k hk e2 => h.d i j hi hj (fun q => e q.symm) k hk e2)
  · have new : ∀ j, j < 4 → j ≠ i → (v j).ownBlock ≠ some g := fun j hj hne e2 => by
      rcases hat with e3 | e3
      · exact h.d i j hi hj (fun q => hne q.symm) g e3 e2
      · have := (ob j hj g e2).2; omega
    by_cases ea : a = i
    · subst ea
      rw [upd_same] at hk
      have : g = k := by injection hk
      subst this
      rw [upd_other _ _ (fun q => hab q.symm)]
      exact new b hb (fun q => hab q.symm)
    · rw [upd_other _ _ ea] at hk
      by_cases eb : b = i
      · subst eb
        rw [upd_same]
        intro e2
        have : g = k := by injection e2
        subst this
        exact new a ha ea hk
      · rw [upd_other _ _ eb]
        exact h.d a b ha hb hab k hk
  · by_cases e : j = i
    · subst e
      rw [upd_same]
      intro y hy
      rcases List.mem_append.1 hy with q | q
      · exact h.n j hj y q
      · simp at q; subst q; exact hx
    · rw [upd_other _ _ e]; exact h.n j hj
theorem PkN.put {w : World} {pb B g cap n i k : Nat} {px x : Int} {v : Nat → Value} {l : Nat → List Int} (h : PkN w pb B px v l) (hi : i < 4) (hx : i64 x) (hv : v i = .slice (some ⟨g, 0, none⟩) n cap) :
    PkN (w.setCell ⟨g, k, none⟩ (.int .i64 x)) pb B px v (upd l i ((l i).set k x)) := by
  have ho := h.o i hi
  have hb := own_block_lt ho g (by rw [hv]; rfl)
  have hl := h.lt
  obtain ⟨A, c, e⟩ := own_form ho
  have hn : n = (l i).length := by rw [hv] at e; injection e
  have hf : Fz (fun q => q = g) w (w.setCell ⟨g, k, none⟩ (.int .i64 x)) := Fz.set w g k _ rfl
  refine ⟨(hf.block pb h.c.lt (by show ¬ pb = g; omega)).trans h.c, hl, fun j hj => ?_, h.d, fun j hj => ?_⟩
  · by_cases e : j = i
    · subst e
      rw [upd_same, List.length_set]
      rw [hv, hn] at ho ⊢
      have := (World.ownsRow.stored ho k (.int .i64 x)).1
      rw [show intsC ((l j).set k x) = (intsC (l j)).set k (.int .i64 x) by simp [intsC, List.map_set]]
      exact this
    · rw [upd_other _ _ e]
      exact own_fz hf (h.o j hj) (fun q hq e2 => h.d i j hi hj (fun t => e t.symm) g (by rw [hv]; rfl) (by rw [← hq]; exact e2))
  · by_cases e : j = i
    · subst e
      rw [upd_same]
      intro y hy
      rcases List.mem_or_eq_of_mem_set hy with q | q
      · exact h.n j hj y q
      · subst q; exact hx
    · rw [upd_other _ _ e]; exact h.n j hj
theorem Xq_out {w : World} {pb B : Nat} {px : Int} {v : Nat → Value} {l : Nat → List Int} (h : PkN w pb B px v l) : ∀ k, k < pb → ¬ Xp pb v k := by
  intro k hk hx
  rcases hx with e | ⟨i, hi, e⟩
  · omega
  · have := own_block_lt (h.o i hi) k e; have := h.lt; omega
end Go.Proofs.Ytadipgkgllcicaa
