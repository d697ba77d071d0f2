/-
  ElementParts' walk.
-/
import Derived.Test.YtncglgbogplpcaaLaw
namespace Go.Proofs.Ytncglgbogplpcaa
open Go.RowKit Go.Shelf Go.Lib Go.Maps

theorem sub51 : ∀ x ∈ nmL 5, x ∈ nmL 1 := by decide +kernel
theorem sub61 : ∀ x ∈ nmL 6, x ∈ nmL 1 := by decide +kernel
theorem dis21 : ∀ x ∈ nmL 2, x ∉ nmL 1 := by decide +kernel
theorem dis31 : ∀ x ∈ nmL 3, x ∉ nmL 1 := by decide +kernel
theorem dis41 : ∀ x ∈ nmL 4, x ∉ nmL 1 := by decide +kernel
theorem bits_parts : ∀ b0 b1 b2 b3 b4 b5 b6 : Bool, (b5 = true → b1 = true) → (b6 = true → b1 = true) → (b2 = true → b1 = false) → (b3 = true → b1 = false) → (b4 = true → b1 = false) →
    ∀ N, N = b0.toNat + 2 * b1.toNat + 4 * b2.toNat + 8 * b3.toNat + 16 * b4.toNat + 32 * b5.toNat + 64 * b6.toNat →
    N < 128 ∧ ((bits BinOp.and IntKind.i64 (N : Int) 96 != 0) = true → (bits BinOp.and IntKind.i64 (N : Int) 2 != 0) = true) ∧ ((bits BinOp.and IntKind.i64 (N : Int) 28 != 0) = true → (bits BinOp.and IntKind.i64 (N : Int) 2 != 0) = false) := by
  intro b0 b1 b2 b3 b4 b5 b6 h5 h6 h2 h3 h4 N e
  subst e
  cases b1 <;> cases b2 <;> cases b3 <;> cases b4 <;> cases b5 <;> cases b6 <;> first
    | exact absurd (h5 rfl) (by decide)
    | exact absurd (h6 rfl) (by decide)
    | exact absurd (h2 rfl) (by decide)
    | exact absurd (h3 rfl) (by decide)
    | exact absurd (h4 rfl) (by decide)
    | (cases b0 <;> decide +kernel)
theorem of_parts (n : List UInt8) : ofN n 7 < 128 ∧ ((bits BinOp.and IntKind.i64 (ofN n 7 : Int) 96 != 0) = true → (bits BinOp.and IntKind.i64 (ofN n 7 : Int) 2 != 0) = true) ∧ ((bits BinOp.and IntKind.i64 (ofN n 7 : Int) 28 != 0) = true → (bits BinOp.and IntKind.i64 (ofN n 7 : Int) 2 != 0) = false) := by
  have key : ∀ j c, (if n ∈ nmL j then c else 0) = c * (decide (n ∈ nmL j)).toNat := fun j c => by by_cases h : n ∈ nmL j <;> simp [h]
  refine bits_parts (decide (n ∈ nmL 0)) (decide (n ∈ nmL 1)) (decide (n ∈ nmL 2)) (decide (n ∈ nmL 3)) (decide (n ∈ nmL 4)) (decide (n ∈ nmL 5)) (decide (n ∈ nmL 6)) ?_ ?_ ?_ ?_ ?_ _ ?_
  · simpa using sub51 n
  · simpa using sub61 n
  · simpa using dis21 n
  · simpa using dis31 n
  · simpa using dis41 n
  · rw [ofN_succ, ofN_succ, ofN_succ, ofN_succ, ofN_succ, ofN_succ, ofN_succ, ofN_zero]
    simp only [key]
    omega
attribute [local irreducible] nmL ofN
set_option maxRecDepth 100000 in
set_option maxHeartbeats 8000000 in
theorem partsLaw (s : ByteArray) (w : World) (hM : MX w) : Calls Try.prog 4 #[.string s] w fun e w' => e = .returned (.bool true) ∧ Below w.heap.size w w' := by
  have AW := awake_any w hM
  have CO := fun (hl : s.size ≤ 100) => of_any s hl w hM
  have hp := of_parts s.data.toList
  obtain ⟨N, hN⟩ : ∃ N, ofN s.data.toList 7 = N := ⟨_, rfl⟩
  simp only [hN] at CO hp
  obtain ⟨h128, h96, h28⟩ := hp
  clear hN hM
  by_cases c : 60 < s.size
  · have c1 : (60 : Int) < (s.size : Int) := by omega
    clear CO h96 h28
    go_enter Try.func4, Try.ntmps4
    go_wp2_with fail
    refine AW.mono ?_
    rintro e w1 ⟨rfl, rfl⟩
    go_wp2_with fail
    go_ret
    exact ⟨rfl, Below.refl _ _⟩
  · have c1 : ¬ (60 : Int) < (s.size : Int) := by omega
    have CO := CO (by omega)
    have n0 : (0 : Int) ≤ (N : Int) := by omega
    have n1 : (N : Int) < 128 := by omega
    obtain ⟨v2, e2⟩ : ∃ v, (bits BinOp.and IntKind.i64 (N : Int) 2 != 0) = v := ⟨_, rfl⟩
    obtain ⟨v96, e96⟩ : ∃ v, (bits BinOp.and IntKind.i64 (N : Int) 96 != 0) = v := ⟨_, rfl⟩
    obtain ⟨v28, e28⟩ : ∃ v, (bits BinOp.and IntKind.i64 (N : Int) 28 != 0) = v := ⟨_, rfl⟩
    rw [e2, e96] at h96
    rw [e2, e28] at h28
    cases v2 <;> cases v96 <;> cases v28
    all_goals first
      | (exfalso; revert h96 h28; decide)
      | skip
    all_goals
      clear h96 h28 c
      go_enter Try.func4, Try.ntmps4
      go_wp2_with fail
      refine CO.mono ?_
      rintro e w1 ⟨rfl, rfl⟩
      go_wp2_with fail
      refine AW.mono ?_
      rintro e w1 ⟨rfl, rfl⟩
      go_wp2_with fail
      go_ret
      exact ⟨rfl, Below.refl _ _⟩
end Go.Proofs.Ytncglgbogplpcaa
