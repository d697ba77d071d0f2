/-
  Contract: element.names.
-/
import Derived.Test.YtojinnnpfjhifaaBase
import Derived.Test.YtojinnnpfjhifaaNmz
namespace Go.Proofs.Ytojinnnpfjhifaa
open Go.RowKit Go.Shelf Go.Lib Go.Maps

/-- The names of a bit, as one string. -/
def nameS (j : Nat) : ByteArray := ⟨(joinB (nmL j)).toArray⟩
set_option maxRecDepth 100000 in
set_option maxHeartbeats 4000000 in
theorem names_any (j : Nat) (hj : j < 7) (w : World) : Calls Try.prog 23 #[.int .i64 ((2 ^ j : Nat) : Int)] w fun e w' => e = .returned (.string (nameS j)) ∧ w' = w := by
  obtain rfl | rfl | rfl | rfl | rfl | rfl | rfl : j = 0 ∨ j = 1 ∨ j = 2 ∨ j = 3 ∨ j = 4 ∨ j = 5 ∨ j = 6 := by omega
  all_goals
    go_enter Try.func23, Try.ntmps23
    go_wp2_with fail
    go_ret
    exact ⟨by kernel_rfl, rfl⟩
end Go.Proofs.Ytojinnnpfjhifaa
