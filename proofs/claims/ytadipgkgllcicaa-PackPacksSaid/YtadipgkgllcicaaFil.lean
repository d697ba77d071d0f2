/-
  Packed rows that grow; contract: (*Packed).fill.
-/
import Derived.Test.YtadipgkgllcicaaUse
namespace Go.Proofs.Ytadipgkgllcicaa
open Go.RowKit Go.Shelf Go.Lib Go.Maps

def upd {α : Type} (f : Nat → α) (i : Nat) (x : α) : Nat → α := fun j => if j = i then x else f j
theorem upd_same {α : Type} (f : Nat → α) (i : Nat) (x : α) : upd f i x i = x := if_pos rfl
theorem upd_other {α : Type} (f : Nat → α) {i j : Nat} (x : α) (h : j ≠ i) : upd f i x j = f j := if_neg h
theorem own_types {w : World} {B B' e e' z z' n n' : Nat} {v v' : Value} {xs ys : List Value} (h : w.ownsRow B e z v n xs) (h' : w.ownsRow B' e' z' v' n' ys) (hne : e ≠ e') : ∀ g, v.ownBlock = some g → v'.ownBlock ≠ some g := by
  intro g hg hg'
  rcases h.2 with ⟨h1, _⟩ | ⟨g1, c1, cur1, h1, _, h3, _⟩
  · rw [h1] at hg; simp [Value.ownBlock] at hg
  · rcases h'.2 with ⟨k1, _⟩ | ⟨g2, c2, cur2, k1, _, k3, _⟩
    · rw [k1] at hg'; simp [Value.ownBlock] at hg'
    · rw [h1] at hg; rw [k1] at hg'
      simp [Value.ownBlock] at hg hg'
      subst hg; subst hg'
      rw [h3] at k3
      injection k3 with k3
      injection k3 with _ k3
      exact hne k3
/-- Packed rows in memory, while they grow. -/
structure PkM (w : World) (pb B : Nat) (px : Int) (v : Nat → Value) (l : Nat → List Int) : Prop where
  c : Cells w pb 27 #[.int .i64 px, v 0, v 1, v 2, v 3]
  lt : pb < B
  o : ∀ i, i < 4 → w.ownsRow B 3 1 (v i) (l i).length (intsC (l i))
  d : ∀ i j, i < 4 → j < 4 → i ≠ j → ∀ g, (v i).ownBlock = some g → (v j).ownBlock ≠ some g
  n : ∀ i, i < 4 → ∀ x ∈ l i, i64 x
def Xp (pb : Nat) (v : Nat → Value) (k : Nat) : Prop := k = pb ∨ ∃ i, i < 4 ∧ (v i).ownBlock = some k
def AtV (w0 : World) (v0 v : Nat → Value) : Prop := ∀ i, i < 4 → ((v i).ownBlock = (v0 i).ownBlock ∨ ∃ g, (v i).ownBlock = some g ∧ w0.heap.size ≤ g)
theorem AtV.refl (w0 : World) (v : Nat → Value) : AtV w0 v v := fun _ _ => .inl rfl
theorem PkM.congr {w : World} {pb B : Nat} {px : Int} {v : Nat → Value} {l l' : Nat → List Int} (h : PkM w pb B px v l) (hl : ∀ i, i < 4 → l i = l' i) : PkM w pb B px v l' :=
  ⟨h.c, h.lt, fun i hi => by rw [← hl i hi]; exact h.o i hi, h.d, fun i hi => by rw [← hl i hi]; exact h.n i hi⟩
theorem PkM.drew {w : World} {pb B : Nat} {px : Int} {v : Nat → Value} {l : Nat → List Int} (h : PkM w pb B px v l) : PkM w.drew pb B px v l := ⟨h.c, h.lt, h.o, h.d, h.n⟩
/-- What touches none of its blocks. -/
theorem PkM.move {w w' : World} {pb B : Nat} {px : Int} {v : Nat → Value} {l : Nat → List Int} {X : Nat → Prop} (h : PkM w pb B px v l) (hf : Fz X w w') (hX : ∀ k, X k → ¬ Xp pb v k) : PkM w' pb B px v l :=
  ⟨(hf.block pb h.c.lt (fun hx => hX pb hx (.inl rfl))).trans h.c, h.lt, fun i hi => own_fz hf (h.o i hi) (fun k hk e => hX k hk (.inr ⟨i, hi, e⟩)), h.d, h.n⟩
theorem PkM.below {w w' : World} {pb B : Nat} {px : Int} {v : Nat → Value} {l : Nat → List Int} (h : PkM w pb B px v l) (hb : Below w.heap.size w w') : PkM w' pb B px v l :=
  h.move (Fz.of_below (X := fun _ => False) hb) (fun _ hk => hk.elim)
theorem UsM.move {w w' : World} {ub B : Nat} {T : List Nat} {v : Value} {X : Nat → Prop} (h : UsM w ub B T v) (hf : Fz X w w') (hX : ∀ k, X k → k ≠ ub ∧ v.ownBlock ≠ some k) : UsM w' ub B T v :=
  ⟨(hf.block ub h.c.lt (fun hx => (hX ub hx).1 rfl)).trans h.c, own_fz hf h.o (fun k hk => (hX k hk).2), h.lt, h.b⟩
theorem UsM.below {w w' : World} {ub B : Nat} {T : List Nat} {v : Value} (h : UsM w ub B T v) (hb : Below w.heap.size w w') : UsM w' ub B T v :=
  h.move (Fz.of_below (X := fun _ => False) hb) (fun _ hk => hk.elim)
/-- Rows and words lie apart. -/
theorem apart {w : World} {pb ub B : Nat} {px : Int} {v : Nat → Value} {l : Nat → List Int} {T : List Nat} {vu : Value} (h : PkM w pb B px v l) (hu : UsM w ub B T vu) (hne : pb ≠ ub) : ∀ k, (k = ub ∨ vu.ownBlock = some k) → ¬ Xp pb v k := by
  intro k hk hx
  have h1 := h.lt
  have h2 := hu.lt
  rcases hk with rfl | e
  · rcases hx with e | ⟨i, hi, e⟩
    · exact hne e.symm
    · have := (own_block_lt (h.o i hi) k e).1; omega
  · rcases hx with e2 | ⟨i, hi, e2⟩
    · have := (own_block_lt hu.o k e).1; omega
    · exact own_types hu.o (h.o i hi) (by decide) k e e2
theorem cells_upd {px : Int} (v : Nat → Value) (i : Nat) (hi : i < 4) (x : Value) : (#[Value.int .i64 px, v 0, v 1, v 2, v 3] : Array Value).setIfInBounds (i + 1) x = #[.int .i64 px, upd v i x 0, upd v i x 1, upd v i x 2, upd v i x 3] := by
  rcases i with _ | _ | _ | _ | i
  · rfl
  · rfl
  · rfl
  · rfl
  · omega
/-- One number more in one of the lists. -/
theorem PkM.append {w w' : World} {pb B g cap i : Nat} {px x : Int} {v : Nat → Value} {l : Nat → List Int} {o : Obj} (h : PkM w pb B px v l) (hi : i < 4) (hx : i64 x)
    (ho : w'.ownsRow B 3 1 (.slice (some ⟨g, 0, none⟩) ((l i).length + 1) cap) ((l i).length + 1) (intsC (l i) ++ [.int .i64 x])) (hg : (w.alloc o).grownBy w' (v i).ownBlock) (hat : (v i).ownBlock = some g ∨ g = w.heap.size + 1) :
    Cells w' pb 27 #[.int .i64 px, v 0, v 1, v 2, v 3] ∧ PkM (w'.setCell ⟨pb, i + 1, none⟩ (.slice (some ⟨g, 0, none⟩) ((l i).length + 1) cap)) pb B px (upd v i (.slice (some ⟨g, 0, none⟩) ((l i).length + 1) cap)) (upd l i (l i ++ [x])) := by
  have hl := h.lt
  have hc := h.c.lt
  have hs : (w.alloc o).heap.size = w.heap.size + 1 := by simp
  have hgb := (own_block_lt ho g rfl).1
  have blk : ∀ k, k < w.heap.size → (v i).ownBlock ≠ some k → w'.heap[k]? = w.heap[k]? := fun k hk hn => (hg.block k (by omega) (fun e => hn e.symm)).trans ((below_new w o).block k hk)
  have c1 : Cells w' pb 27 #[.int .i64 px, v 0, v 1, v 2, v 3] := (blk pb hc (fun e => by have := (own_block_lt (h.o i hi) pb e).1; omega)).trans h.c
  have ob : ∀ j, j < 4 → ∀ k, (v j).ownBlock = some k → B ≤ k ∧ k < w.heap.size := fun j hj k e => own_block_lt (h.o j hj) k e
  refine ⟨c1, ?_, hl, fun j hj => ?_, fun a b ha hb hab k hk => ?_, fun j hj => ?_⟩
  · rw [← cells_upd v i hi]; exact c1.set (i + 1) _
  · by_cases e : j = i
    · subst e
      rw [upd_same, upd_same, List.length_append, intsC_append]
      exact ownsRow_setCell_below ho (by show pb < B; exact hl) _
    · rw [upd_other _ _ e, upd_other _ _ e]
      refine ownsRow_setCell_below ?_ (by show pb < B; exact hl) _
      have hf : Fz (fun k => (v i).ownBlock = some k) w w' := ⟨hg.os, hg.tape, hg.output, by have := hg.size; omega, fun k hk hn => blk k hk hn⟩
      exact own_fz hf (h.o j hj) (fun k hk e2 => h.d i j hi hj (fun q => e q.symm) k hk e2)
  · have new : ∀ j, j < 4 → j ≠ i → (v j).ownBlock ≠ some g := fun j hj hne e2 => by
      rcases hat with e3 | e3
      · exact h.d i j hi hj (fun q => hne q.symm) g e3 e2
      · have := (ob j hj g e2).2; omega
    by_cases ea : a = i
    · subst ea
      rw [upd_same] at hk
      have : g = k := by injection hk
      subst this
      rw [upd_other _ _ (fun q => hab q.symm)]
      exact new b hb (fun q => hab q.symm)
    · rw [upd_other _ _ ea] at hk
      by_cases eb : b = i
      · subst eb
        rw [upd_same]
        intro e2
        have : g = k := by injection e2
        subst this
        exact new a ha ea hk
      · rw [upd_other _ _ eb]
        exact h.d a b ha hb hab k hk
  · by_cases e : j = i
    · subst e
      rw [upd_same]
      intro y hy
      rcases List.mem_append.1 hy with q | q
      · exact h.n j hj y q
      · simp at q; subst q; exact hx
    · rw [upd_other _ _ e]; exact h.n j hj
theorem AtV.upd {w0 w : World} {v0 v : Nat → Value} {i g n cap : Nat} (h : AtV w0 v0 v) (hi : i < 4) (hat : (v i).ownBlock = some g ∨ g = w.heap.size + 1) (hs : w0.heap.size ≤ w.heap.size) : AtV w0 v0 (upd v i (.slice (some ⟨g, 0, none⟩) n cap)) := by
  intro j hj
  by_cases e : j = i
  · subst e
    rw [upd_same]
    rcases hat with e1 | e1
    · rcases h j hj with e2 | ⟨g2, e2, h2⟩
      · exact .inl (e1.symm.trans e2)
      · rw [e1] at e2; injection e2 with e2; subst e2; exact .inr ⟨g, rfl, h2⟩
    · exact .inr ⟨g, rfl, by omega⟩
  · rw [upd_other _ _ e]; exact h j hj
theorem fz_app {w0 w w' : World} {pb i : Nat} {v0 v : Nat → Value} {o : Obj} (h : Fz (Xp pb v0) w0 w) (hi : i < 4) (hA : AtV w0 v0 v) (hg : (w.alloc o).grownBy w' (v i).ownBlock) (j : Nat) (x : Value) : Fz (Xp pb v0) w0 (w'.setCell ⟨pb, j, none⟩ x) :=
  fz_set (fz_grow (v0 := v0 i) h hg (hA i hi) (fun _k hk => .inr ⟨i, hi, hk⟩)) pb j x (.inl (.inl rfl))
theorem PkM.put {w : World} {pb B g cap n i k : Nat} {px x : Int} {v : Nat → Value} {l : Nat → List Int} (h : PkM w pb B px v l) (hi : i < 4) (hx : i64 x) (hv : v i = .slice (some ⟨g, 0, none⟩) n cap) :
    PkM (w.setCell ⟨g, k, none⟩ (.int .i64 x)) pb B px v (upd l i ((l i).set k x)) := by
  have ho := h.o i hi
  have hb := own_block_lt ho g (by rw [hv]; rfl)
  have hl := h.lt
  obtain ⟨A, c, e⟩ := own_form ho
  have hn : n = (l i).length := by rw [hv] at e; injection e
  have hf : Fz (fun q => q = g) w (w.setCell ⟨g, k, none⟩ (.int .i64 x)) := Fz.set w g k _ rfl
  refine ⟨(hf.block pb h.c.lt (by show ¬ pb = g; omega)).trans h.c, hl, fun j hj => ?_, h.d, fun j hj => ?_⟩
  · by_cases e : j = i
    · subst e
      rw [upd_same, List.length_set]
      rw [hv, hn] at ho ⊢
      have := (World.ownsRow.stored ho k (.int .i64 x)).1
      rw [show intsC ((l j).set k x) = (intsC (l j)).set k (.int .i64 x) by simp [intsC, List.map_set]]
      exact this
    · rw [upd_other _ _ e]
      exact own_fz hf (h.o j hj) (fun q hq e2 => h.d i j hi hj (fun t => e t.symm) g (by rw [hv]; rfl) (by rw [← hq]; exact e2))
  · by_cases e : j = i
    · subst e
      rw [upd_same]
      intro y hy
      rcases List.mem_or_eq_of_mem_set hy with q | q
      · exact h.n j hj y q
      · subst q; exact hx
    · rw [upd_other _ _ e]; exact h.n j hj
theorem padTo_succ {α : Type} {n : Nat} {l : List α} {d : α} (h : l.length ≤ n) : padTo (n + 1) l d = padTo n l d ++ [d] := by
  unfold padTo
  rw [show n + 1 - l.length = (n - l.length) + 1 by omega, List.replicate_succ', List.append_assoc]
end Go.Proofs.Ytadipgkgllcicaa
