/-
  Contracts: virguleref02.gather, at each of its four kinds.
-/
import Derived.Deep.QuietTactic
import Derived.IntWalk
import Derived.Test.YtimiinnnmdcmhaaDoorGatM
import Derived.Test.YtimiinnnmdcmhaaDoorRg11
import Derived.Test.YtimiinnnmdcmhaaDoorRg12
namespace Go.Proofs.YtimiinnnmdcmhaaDoor
open Go.RowKit Go.Shelf
open Go.Lib

theorem own_empty2 (w : World) (base e : Nat) (hb : base ≤ w.heap.size) : (w.alloc (.cells #[] e)).ownsRow base e 2 (.slice (some ⟨w.heap.size, 0, none⟩) 0 0) 0 (cells2 []) :=
  ⟨rfl, .inr ⟨w.heap.size, 0, #[], rfl, hb, World.alloc_heap_new w _, Nat.le_refl _, Nat.zero_le _, rfl, rfl⟩⟩
theorem may_i32 {xs : List Rng} (h : ∀ x ∈ xs, may x = true) : ∀ x ∈ xs, I32 x := fun x hx => by
  have := (may_iff _).1 (h x hx)
  exact ⟨by omega, by omega, by omega, by omega⟩
/-- What gather hands back: the right list of what is wanted. -/
def GatPost (how : Int) (xs ys : List Rng) (w : World) (e : Ending) (w' : World) : Prop :=
  ∃ out : List Rng, right out = true ∧ (∀ r, hasR out r = true ↔ 0 ≤ r ∧ r < 1114112 ∧ gatF how xs ys r = true) ∧ out.length ≤ 2 * (xs.length + ys.length) + 2 ∧ HoldsR w.heap.size 59 out w e w'
end Go.Proofs.YtimiinnnmdcmhaaDoor
