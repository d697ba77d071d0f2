/-
  Later worlds, in which only some blocks may have turned.
-/
import Derived.BigQuiet
import Derived.Lib.QuietBelow
import Derived.Test.YtflhdfbpafhjlaaMix
import Derived.Test.YtflhdfbpafhjlaaBase
namespace Go.Proofs.Ytflhdfbpafhjlaa
open Go.RowKit Go.Shelf Go.Lib

theorem Fz.drew {X : Nat → Prop} (w : World) : Fz X w { w with drawn := w.drawn + 1 } := ⟨rfl, rfl, rfl, Nat.le_refl _, fun _ _ _ => rfl⟩
/-- A later world, in which only some blocks may have turned: for the walk's simp one thing. -/
structure Later (X : Nat → Prop) (w : World) where
  W : World
  h : Fz X w W
instance later_nonempty (X : Nat → Prop) (w : World) : Nonempty (Later X w) := ⟨⟨w, Fz.refl _ _⟩⟩
theorem cell_later {X : Nat → Prop} {w : World} {b o : Nat} {v : Value} (h : w.cell? ⟨b, o, none⟩ = some v) (hX : ¬ X b) (p : Later X w) : p.W.cell? ⟨b, o, none⟩ = some v :=
  (World.cell?_of_block (a := ⟨b, o, none⟩) (p.h.block b (block_lt_of_cell h) hX)).trans h
end Go.Proofs.Ytflhdfbpafhjlaa
