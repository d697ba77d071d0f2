/-
  A nest as three counts: what a tag does to them, what it forces; no program.
-/
import Derived.Test.YtojinnnpfjhifaaNmz
namespace Go.Proofs.Ytojinnnpfjhifaa

/-- The counts. -/
structure Ct where
  h : Nat
  p : Nat
  n : Nat
/-- Is a bit among what an element is? -/
def isB (N k : Nat) : Bool := N / 2 ^ k % 2 == 1
/-- A count, by a step. -/
def clampN (c : Nat) (b : Int) : Nat := (min (max ((c : Int) + b) 0) 255).toNat
theorem clampN_le (c : Nat) (b : Int) : clampN c b ≤ 255 := by unfold clampN; omega
theorem clampN_eq (c : Nat) (b : Int) : ((clampN c b : Nat) : Int) = min (max ((c : Int) + b) 0) 255 := by unfold clampN; omega
theorem clampN_zero (c : Nat) (h : c ≤ 255) : clampN c 0 = c := by unfold clampN; omega
theorem clampN_up (c : Nat) (h : c < 255) : clampN c 1 = c + 1 := by unfold clampN; omega
theorem clampN_down (c : Nat) (h : c < 255) : clampN (c + 1) (-1) = c := by unfold clampN; omega
/-- By how much a tag turns the counts. -/
def byN (N : Nat) (kd : Int) (sg : Bool) : Int := if isB N 1 then 0 else if kd = 3 then -1 else if sg then 0 else 1
theorem byN_cases (N : Nat) (kd : Int) (sg : Bool) : byN N kd sg = 0 ∨ byN N kd sg = 1 ∨ byN N kd sg = -1 := by
  unfold byN; (repeat' split) <;> simp
/-- What the counts become. -/
def addN (N : Nat) (b : Int) (c : Ct) : Ct :=
  ⟨if isB N 2 then clampN c.h b else c.h, if c.h = 0 ∧ isB N 3 then clampN c.p b else c.p, if c.h = 0 ∧ isB N 4 then clampN c.n b else c.n⟩
def forcesN (N : Nat) (kd : Int) : Bool := if kd = 3 then isB N 0 && !isB N 1 else isB N 0 || isB N 5
/-- A token is taken: the counts behind it, does it force, does it give a chance? -/
def takeC (N : Nat) (kd : Int) (sg : Bool) (c : Ct) : Ct := if kd = 2 ∨ kd = 3 then addN N (byN N kd sg) c else c
def takeF (N : Nat) (kd : Int) (c : Ct) : Bool := decide (kd = 2 ∨ kd = 3) && (decide (c.h = 0) && forcesN N kd)
def takeX (N : Nat) (kd : Int) (c : Ct) : Bool := decide (kd = 2) && (decide (c.h = 0) && isB N 6)
/-- The counts are small. -/
def Ct.ok (c : Ct) : Prop := c.h ≤ 255 ∧ c.p ≤ 255 ∧ c.n ≤ 255
theorem addN_ok (N : Nat) (b : Int) {c : Ct} (h : c.ok) : (addN N b c).ok := by
  obtain ⟨h1, h2, h3⟩ := h
  refine ⟨?_, ?_, ?_⟩
  · show (if _ then _ else _) ≤ 255
    split
    · exact clampN_le _ _
    · exact h1
  · show (if _ then _ else _) ≤ 255
    split
    · exact clampN_le _ _
    · exact h2
  · show (if _ then _ else _) ≤ 255
    split
    · exact clampN_le _ _
    · exact h3
theorem takeC_ok (N : Nat) (kd : Int) (sg : Bool) {c : Ct} (h : c.ok) : (takeC N kd sg c).ok := by
  unfold takeC
  split
  · exact addN_ok _ _ h
  · exact h
theorem and4 : ∀ a : Nat, a < 128 → Go.bits Go.BinOp.and Go.IntKind.i64 (a : Int) 4 = if isB a 2 then 4 else 0 := by decide +kernel
theorem and8 : ∀ a : Nat, a < 128 → Go.bits Go.BinOp.and Go.IntKind.i64 (a : Int) 8 = if isB a 3 then 8 else 0 := by decide +kernel
theorem and16 : ∀ a : Nat, a < 128 → Go.bits Go.BinOp.and Go.IntKind.i64 (a : Int) 16 = if isB a 4 then 16 else 0 := by decide +kernel
theorem and2 : ∀ a : Nat, a < 128 → Go.bits Go.BinOp.and Go.IntKind.i64 (a : Int) 2 = if isB a 1 then 2 else 0 := by decide +kernel
theorem and1 : ∀ a : Nat, a < 128 → Go.bits Go.BinOp.and Go.IntKind.i64 (a : Int) 1 = if isB a 0 then 1 else 0 := by decide +kernel
theorem and64 : ∀ a : Nat, a < 128 → Go.bits Go.BinOp.and Go.IntKind.i64 (a : Int) 64 = if isB a 6 then 64 else 0 := by decide +kernel
theorem and33 : ∀ a : Nat, a < 128 → (Go.bits Go.BinOp.and Go.IntKind.i64 (a : Int) 33 == 0) = !(isB a 0 || isB a 5) := by decide +kernel
end Go.Proofs.Ytojinnnpfjhifaa
