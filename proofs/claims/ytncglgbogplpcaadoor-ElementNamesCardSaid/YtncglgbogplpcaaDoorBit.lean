/-
  Bits of names.
-/
import Derived.Test.YtncglgbogplpcaaDoorNms
namespace Go.Proofs.YtncglgbogplpcaaDoor
open Go.RowKit Go.Shelf Go.Lib Go.Maps

def bv (a : Int) : BitVec 64 := BitVec.ofInt 64 a
theorem and_zero (a b : Int) : bits BinOp.and IntKind.i64 a b = 0 ↔ bv a &&& bv b = 0#64 := by
  show IntKind.i64.wrap ((bv a &&& bv b).toNat : Int) = 0 ↔ _
  generalize bv a &&& bv b = c
  have h := c.isLt
  constructor
  · intro e
    apply BitVec.eq_of_toNat_eq
    simp [IntKind.wrap, IntKind.signed, IntKind.bits] at e
    simp
    split at e <;> omega
  · rintro rfl
    rfl
theorem bits_in : ∀ b0 b1 b2 b3 b4 b5 b6 : Bool, ∀ N, N = b0.toNat + 2 * b1.toNat + 4 * b2.toNat + 8 * b3.toNat + 16 * b4.toNat + 32 * b5.toNat + 64 * b6.toNat →
    (b0 = true → bv 1 &&& bv (N : Int) = bv 1) ∧ (b1 = true → bv 2 &&& bv (N : Int) = bv 2) ∧ (b2 = true → bv 4 &&& bv (N : Int) = bv 4) ∧ (b3 = true → bv 8 &&& bv (N : Int) = bv 8) ∧ (b4 = true → bv 16 &&& bv (N : Int) = bv 16) ∧ (b5 = true → bv 32 &&& bv (N : Int) = bv 32) ∧ (b6 = true → bv 64 &&& bv (N : Int) = bv 64) := by
  intro b0 b1 b2 b3 b4 b5 b6 N e
  subst e
  cases b0 <;> cases b1 <;> cases b2 <;> cases b3 <;> cases b4 <;> cases b5 <;> cases b6 <;> decide +kernel
theorem ofN_sum (n : List UInt8) : ofN n 7 = (decide (n ∈ nmL 0)).toNat + 2 * (decide (n ∈ nmL 1)).toNat + 4 * (decide (n ∈ nmL 2)).toNat + 8 * (decide (n ∈ nmL 3)).toNat + 16 * (decide (n ∈ nmL 4)).toNat + 32 * (decide (n ∈ nmL 5)).toNat + 64 * (decide (n ∈ nmL 6)).toNat := by
  have key : ∀ j c, (if n ∈ nmL j then c else 0) = c * (decide (n ∈ nmL j)).toNat := fun j c => by by_cases h : n ∈ nmL j <;> simp [h]
  rw [ofN_succ, ofN_succ, ofN_succ, ofN_succ, ofN_succ, ofN_succ, ofN_succ, ofN_zero]
  simp only [key]
  omega
theorem any_in {x : List UInt8} {k : Nat} (hk : k < 7) (hx : x ∈ nmL k) {S : Int} (h : ¬ bits BinOp.and IntKind.i64 ((2 ^ k : Nat) : Int) S = 0) : anyB x S := by
  obtain ⟨h0, h1, h2, h3, h4, h5, h6⟩ := bits_in _ _ _ _ _ _ _ _ (ofN_sum x)
  have key : bv ((2 ^ k : Nat) : Int) &&& bv (ofN x 7 : Int) = bv ((2 ^ k : Nat) : Int) := by
    obtain rfl | rfl | rfl | rfl | rfl | rfl | rfl : k = 0 ∨ k = 1 ∨ k = 2 ∨ k = 3 ∨ k = 4 ∨ k = 5 ∨ k = 6 := by omega
    · exact h0 (decide_eq_true hx)
    · exact h1 (decide_eq_true hx)
    · exact h2 (decide_eq_true hx)
    · exact h3 (decide_eq_true hx)
    · exact h4 (decide_eq_true hx)
    · exact h5 (decide_eq_true hx)
    · exact h6 (decide_eq_true hx)
  intro e
  apply h
  rw [and_zero] at e ⊢
  rw [← key, BitVec.and_assoc, e]
  exact BitVec.and_zero
theorem strict {l : List (List UInt8)} (hn : l.Nodup) (hp : l.Pairwise (fun x y => x ≤ y)) {i : Nat} {x y : List UInt8} (hx : l[i]? = some x) (hy : l[i + 1]? = some y) : x < y := by
  have hi := (List.getElem?_eq_some_iff.1 hx)
  have hj := (List.getElem?_eq_some_iff.1 hy)
  obtain ⟨i1, i2⟩ := hi
  obtain ⟨j1, j2⟩ := hj
  have h1 := List.pairwise_iff_getElem.1 hp i (i + 1) i1 j1 (by omega)
  have h2 := List.pairwise_iff_getElem.1 hn i (i + 1) i1 j1 (by omega)
  rw [i2, j2] at h1 h2
  by_cases h : x < y
  · exact h
  · exact absurd (List.le_antisymm h1 (List.not_lt.1 h)) h2
end Go.Proofs.YtncglgbogplpcaaDoor
