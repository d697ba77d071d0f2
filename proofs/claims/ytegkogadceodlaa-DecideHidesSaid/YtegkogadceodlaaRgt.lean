/-
  Contracts: expr.isClass, Node.isShaped.
-/
import Derived.Test.YtegkogadceodlaaTre
namespace Go.Proofs.Ytegkogadceodlaa
open Go.RowKit Go.Shelf Go.Lib

def isC (n : Int) : Bool := decide (0 ≤ n) && decide (n < 36)
/-- Has a node a class and so many parts as its kind asks? -/
def shapedK (k c : Int) (n : Nat) : Bool :=
  if k = 0 ∨ k = 2 then isC c && decide (n = 0)
  else if k = 1 ∨ k = 3 ∨ k = 9 then decide (c = 0) && decide (n = 0)
  else if k = 4 ∨ k = 5 then decide (c = 0) && decide (2 ≤ n)
  else if k = 6 ∨ k = 7 ∨ k = 8 then decide (c = 0) && decide (n = 1)
  else false
theorem isClass_any (n : Int) (w : World) : Calls Try.prog 87 #[.int .i64 n] w fun r w' => r = .returned (.bool (isC n)) ∧ w' = w := by
  unfold isC
  by_cases h0 : 0 ≤ n
  · by_cases h1 : n < 36
    · rw [decide_eq_true h0, decide_eq_true h1]
      go_enter Try.func87, Try.ntmps87
      go_wp2
      go_ret
      exact ⟨rfl, rfl⟩
    · have h1' : decide (n < 36) = false := by simp; omega
      rw [decide_eq_true h0, h1']
      go_enter Try.func87, Try.ntmps87
      go_wp2
      go_ret
      exact ⟨rfl, rfl⟩
  · have h0' : decide (0 ≤ n) = false := by simp; omega
    rw [h0']
    go_enter Try.func87, Try.ntmps87
    go_wp2
    go_ret
    exact ⟨rfl, rfl⟩
end Go.Proofs.Ytegkogadceodlaa
