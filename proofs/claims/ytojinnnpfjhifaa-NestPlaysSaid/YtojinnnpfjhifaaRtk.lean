/-
  Contracts of the document's side: turn, N.Take.
-/
import Derived.Deep.CutRange
import Derived.Test.YtojinnnpfjhifaaCte
import Derived.Test.YtojinnnpfjhifaaLtr
import Derived.Test.YtojinnnpfjhifaaRof
namespace Go.Proofs.Ytojinnnpfjhifaa
open Go.RowKit Go.Shelf Go.Lib Go.Maps
attribute [local irreducible] nmL ofN

set_option maxRecDepth 100000 in
set_option maxHeartbeats 4000000 in
theorem turn_any (n : Nat) (hn : n ≤ 255) (b : Bool) (by_ : Int) (hb : by_ = 0 ∨ by_ = 1 ∨ by_ = -1) (w : World) :
    Calls Try.prog 20 #[.int .i64 (n : Int), .bool b, .int .i64 by_] w fun e w' => e = .returned (.int .i64 ((if b then clampN n by_ else n : Nat) : Int)) ∧ w' = w := by
  cases b
  · simp only [Bool.false_eq_true, if_false]
    go_enter Try.func20, Try.ntmps20
    go_wp2_with fail
    go_ret
    exact ⟨rfl, rfl⟩
  · simp only [if_true]
    rcases hb with rfl | rfl | rfl
    · rw [clampN_zero n hn]
      go_enter Try.func20, Try.ntmps20
      go_wp2_with fail
      go_ret
      exact ⟨rfl, rfl⟩
    · by_cases h : n < 255
      · rw [clampN_up n h]
        have i1 : (n : Int) < 255 := by omega
        go_enter Try.func20, Try.ntmps20
        go_wp2_with fail
        go_ret
        exact ⟨by simp, rfl⟩
      · have e : clampN n 1 = n := by unfold clampN; omega
        rw [e]
        have i1 : ¬ (n : Int) < 255 := by omega
        go_enter Try.func20, Try.ntmps20
        go_wp2_with fail
        go_ret
        exact ⟨rfl, rfl⟩
    · cases n with
      | zero =>
        have e : clampN 0 (-1) = 0 := by decide
        rw [e]
        go_enter Try.func20, Try.ntmps20
        go_wp2_with fail
        go_ret
        exact ⟨rfl, rfl⟩
      | succ m =>
        have e : clampN (m + 1) (-1) = m := by unfold clampN; omega
        rw [e]
        obtain ⟨q, hq⟩ : ∃ q, m + 1 = q := ⟨_, rfl⟩
        have i1 : (0 : Int) < (q : Int) := by omega
        have i3 : (q : Int) - 1 = (m : Int) := by omega
        have i4 : wrap64 (m : Int) = (m : Int) := IntWalk.wrap64_in _ ⟨by omega, by omega⟩
        rw [hq]
        clear hn hq
        go_enter Try.func20, Try.ntmps20
        go_wp2_with fail
        go_ret
        exact ⟨by simp [i4], rfl⟩
theorem _root_.Go.RowKit.Below.setc {B : Nat} {w w' : World} (h : Below B w w') {j : Nat} (hj : B ≤ j) (i : Nat) (x : Value) : Below B w (w'.setCell ⟨j, i, none⟩ x) := h.setCell (p := ⟨j, i, none⟩) hj x
theorem Fz.cells {X : Nat → Prop} {w w' : World} {g t : Nat} {cs : Array Value} (h : Fz X w w') (hX : ¬ X g) (hc : Cells w g t cs) : Cells w' g t cs := (h.block _ hc.lt hX).trans hc
theorem bitT (N k : Nat) (b : Bool) (h : isB N k = b) : ((N : Int) / ((2 ^ k : Nat) : Int) % 2 == 1) = b := by
  subst h
  unfold isB
  have e : (N : Int) / ((2 ^ k : Nat) : Int) % 2 = ((N / 2 ^ k % 2 : Nat) : Int) := by omega
  rw [e]
  by_cases q : N / 2 ^ k % 2 = 1
  · rw [q]; rfl
  · have q2 : N / 2 ^ k % 2 = 0 := by omega
    rw [q2]; rfl
/-- Behind the new nest's first count. -/
structure R12 (w : World) (ch cp cn R0 G : Nat) (W : World) : Prop where
  b : Below w.heap.size w W
  x : Cells W w.heap.size 27 #[.int .i64 (ch : Int), .int .i64 (cp : Int), .int .i64 (cn : Int)]
  r : Cells W (w.heap.size + 1) 27 #[.int .i64 0, .int .i64 0, .int .i64 0]
  y : Cells W G 27 #[.int .i64 (R0 : Int), .int .i64 (cp : Int), .int .i64 (cn : Int)]
  g : w.heap.size + 1 < G
end Go.Proofs.Ytojinnnpfjhifaa
