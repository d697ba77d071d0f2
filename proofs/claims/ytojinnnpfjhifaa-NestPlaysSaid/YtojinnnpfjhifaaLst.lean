/-
  Contract: virguleref21.List.
-/
import Derived.Test.YtojinnnpfjhifaaBase
import Derived.Test.YtojinnnpfjhifaaNmz
namespace Go.Proofs.Ytojinnnpfjhifaa
open Go.RowKit Go.Shelf Go.Lib Go.Maps

def strs (l : List (List UInt8)) : Array Value := (l.map fun x => Value.string ⟨x.toArray⟩).toArray
set_option maxRecDepth 100000 in
set_option maxHeartbeats 8000000 in
theorem List_any (j : Nat) (hj : j < 7) (w : World) : Calls Try.prog 24 #[.int .i64 ((2 ^ j : Nat) : Int)] w fun e w' => e = .returned (.slice (some ⟨w.heap.size, 0, none⟩) (nmL j).length (nmL j).length) ∧ Cells w' w.heap.size 9 (strs (nmL j)) ∧ Below w.heap.size w w' := by
  obtain rfl | rfl | rfl | rfl | rfl | rfl | rfl : j = 0 ∨ j = 1 ∨ j = 2 ∨ j = 3 ∨ j = 4 ∨ j = 5 ∨ j = 6 := by omega
  all_goals
    go_enter Try.func24, Try.ntmps24
    go_wp2_with fail
    go_ret
    exact ⟨by kernel_rfl, (cells_new w _ _).trans (by kernel_rfl), below_new _ _⟩
end Go.Proofs.Ytojinnnpfjhifaa
