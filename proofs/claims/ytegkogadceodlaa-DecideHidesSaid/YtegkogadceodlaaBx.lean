/-
  More on blocks that are known whole; worlds in which only some blocks have turned.
-/
import Derived.Test.YtegkogadceodlaaTre
import Derived.Test.YtegkogadceodlaaMix
namespace Go.Proofs.Ytegkogadceodlaa
open Go.RowKit Go.Shelf Go.Lib

theorem cells_new (w : World) (cs : Array Value) (t : Nat) : Cells (w.alloc (.cells cs t)) w.heap.size t cs := World.alloc_heap_new w _
theorem Cells.on {W W' : World} {g t : Nat} {cs : Array Value} (h : Cells W g t cs) (hb : Below W.heap.size W W') : Cells W' g t cs := (hb.block _ h.lt).trans h
theorem Cells.froz {W : World} {g t : Nat} {cs : Array Value} (h : Cells W g t cs) (i : Nat) : W.frozen? ⟨g, i, none⟩ = false := by
  simp [World.frozen?, show W.heap[g]? = _ from h]
theorem Cells.set {W : World} {g t : Nat} {cs : Array Value} (h : Cells W g t cs) (i : Nat) (v : Value) : Cells (W.setCell ⟨g, i, none⟩ v) g t (cs.setIfInBounds i v) := by
  unfold Cells World.setCell
  simp only [Array.getElem?_modify, if_true]
  rw [show W.heap[g]? = _ from h]
  rfl
theorem _root_.Go.RowKit.Below.setc {B : Nat} {w w' : World} (h : Below B w w') {j : Nat} (hj : B ≤ j) (i : Nat) (x : Value) : Below B w (w'.setCell ⟨j, i, none⟩ x) := h.setCell (p := ⟨j, i, none⟩) hj x
/-- Of what was there only some blocks may have turned. -/
structure Fz (X : Nat → Prop) (w w' : World) : Prop where
  os : w'.os = w.os
  tape : w'.tape = w.tape
  output : w'.output = w.output
  size : w.heap.size ≤ w'.heap.size
  block : ∀ k, k < w.heap.size → ¬ X k → w'.heap[k]? = w.heap[k]?
theorem Fz.refl (X : Nat → Prop) (w : World) : Fz X w w := ⟨rfl, rfl, rfl, Nat.le_refl _, fun _ _ _ => rfl⟩
theorem Fz.trans {X : Nat → Prop} {a b c : World} (h : Fz X a b) (k : Fz X b c) : Fz X a c :=
  ⟨k.os.trans h.os, k.tape.trans h.tape, k.output.trans h.output, Nat.le_trans h.size k.size, fun i hi hn => (k.block i (Nat.lt_of_lt_of_le hi h.size) hn).trans (h.block i hi hn)⟩
theorem Fz.of_below {X : Nat → Prop} {a b : World} (h : Below a.heap.size a b) : Fz X a b := ⟨h.os, h.tape, h.output, h.size, fun k hk _ => h.block k hk⟩
theorem Fz.of_grown {X : Nat → Prop} {a b : World} {o : Option Nat} (h : a.grownBy b o) (hx : ∀ k, o = some k → X k) : Fz X a b :=
  ⟨h.os, h.tape, h.output, h.size, fun k hk hn => h.block k hk (fun e => hn (hx k e.symm))⟩
theorem Fz.mono {X Y : Nat → Prop} {a b : World} (h : Fz X a b) (hxy : ∀ k, X k → Y k) : Fz Y a b := ⟨h.os, h.tape, h.output, h.size, fun k hk hn => h.block k hk (fun hx => hn (hxy k hx))⟩
theorem Fz.below {X : Nat → Prop} {a b : World} {B : Nat} (h : Fz X a b) (hB : B ≤ a.heap.size) (hX : ∀ k, k < B → ¬ X k) : Below B a b := ⟨h.os, h.tape, h.output, h.size, fun k hk => h.block k (by omega) (hX k hk)⟩
theorem Fz.set {X : Nat → Prop} (w : World) (b i : Nat) (v : Value) (hb : X b) : Fz X w (w.setCell ⟨b, i, none⟩ v) :=
  ⟨rfl, rfl, rfl, by simp, fun k _ hn => by
    have : b ≠ k := fun e => hn (e ▸ hb)
    simp [World.setCell, Array.getElem?_modify, this]⟩
theorem Fz.drew {X : Nat → Prop} (w : World) : Fz X w { w with drawn := w.drawn + 1 } := ⟨rfl, rfl, rfl, Nat.le_refl _, fun _ _ _ => rfl⟩
theorem Fz.cells {X : Nat → Prop} {w w' : World} {g t : Nat} {cs : Array Value} (h : Fz X w w') (hX : ¬ X g) (hc : Cells w g t cs) : Cells w' g t cs := (h.block _ hc.lt hX).trans hc
/-- A later world, in which only some blocks may have turned: for the walk's simp one thing. -/
structure Later (X : Nat → Prop) (w : World) where
  W : World
  h : Fz X w W
instance later_nonempty (X : Nat → Prop) (w : World) : Nonempty (Later X w) := ⟨⟨w, Fz.refl _ _⟩⟩
theorem cell_later {X : Nat → Prop} {w : World} {b o : Nat} {v : Value} (h : w.cell? ⟨b, o, none⟩ = some v) (hX : ¬ X b) (p : Later X w) : p.W.cell? ⟨b, o, none⟩ = some v :=
  (World.cell?_of_block (a := ⟨b, o, none⟩) (p.h.block b (block_lt_of_cell h) hX)).trans h
end Go.Proofs.Ytegkogadceodlaa
