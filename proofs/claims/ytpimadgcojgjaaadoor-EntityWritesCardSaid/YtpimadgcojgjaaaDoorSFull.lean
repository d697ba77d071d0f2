/-
  Contracts of unicode/utf8.FullRune, at two bytes and more.
-/
import Derived.WalkKit
import Derived.BigQuiet
import Derived.Deep.QuietTactic
import Derived.Outline
import Derived.Lib.Hide
import Derived.Below
import Derived.Test.YtpimadgcojgjaaaDoorSMath1
import Derived.Test.YtpimadgcojgjaaaDoorSLay
namespace Go.Proofs.YtpimadgcojgjaaaDoor.S
open Go.RowKit Go.Shelf Go.Lib

set_option maxHeartbeats 1000000 in
set_option maxRecDepth 100000 in
/-- FullRune, the early road. -/
theorem full_early (b off k cap x0 : Nat) (w : World) (hT : Utf8Tabs 2 3 w) (hx : x0 < 256) (h2 : 2 ≤ k)
    (hs0 : w.cell? ⟨b, off, none⟩ = some (.int .u8 x0)) (hf : firstT x0 % 8 ≤ k) :
    Calls Tryd.prog 103 #[.slice (some ⟨b, off, none⟩) k cap] w fun e w' => e = .returned (.bool true) ∧ w = w' := by
  have hc0 := hT.1 x0 hx
  have k2 : (2 : Int) ≤ (k : Int) := by omega
  have k0 : ((k : Int) == 0) = false := by rw [beq_eq_false_iff_ne]; omega
  have k0' : (0 : Int) < (k : Int) := by omega
  clear hT
  rcases M1.firstCases x0 with hX | hX | hX | hX | hX | hX | hX | hX | hX
  all_goals
    rw [hX] at hc0 hf
    clear hX
    go_enter Tryd.func103, Tryd.ntmps103
    go_wp2
  all_goals
    go_ret
    exact ⟨rfl, rfl⟩

/-- What the slow road of FullRune answers. -/
def slowAns (k b1 b2 lo hi : Nat) : Bool := if b1 < lo ∨ hi < b1 then true else if 2 < k ∧ (b2 < 128 ∨ 191 < b2) then true else false
theorem slowAns_1 {k b1 b2 lo hi : Nat} (h : b1 < lo ∨ hi < b1) : true = slowAns k b1 b2 lo hi := by unfold slowAns; rw [if_pos h]
theorem slowAns_2 {k b1 b2 lo hi : Nat} (h : 2 < k ∧ (b2 < 128 ∨ 191 < b2)) (h1 : ¬ (b1 < lo ∨ hi < b1)) : true = slowAns k b1 b2 lo hi := by unfold slowAns; rw [if_neg h1, if_pos h]
theorem slowAns_3 {k b1 b2 lo hi : Nat} (h : ¬ (2 < k ∧ (b2 < 128 ∨ 191 < b2))) (h1 : ¬ (b1 < lo ∨ hi < b1)) : false = slowAns k b1 b2 lo hi := by unfold slowAns; rw [if_neg h1, if_neg h]
theorem below_drewN {B : Nat} {a w : World} (h : Below B a w) (n : Nat) : Below B a (w.drewN n) := ⟨h.os, h.tape, h.output, h.size, h.block⟩
theorem ret_bool {a b : Bool} (h : a = b) : Ending.returned (.bool a) = .returned (.bool b) := by rw [h]

set_option maxHeartbeats 4000000 in
set_option maxRecDepth 100000 in
/-- FullRune, the slow road. -/
theorem full_slow (b off k cap x0 x1 x2 : Nat) (w : World) (hT : Utf8Tabs 2 3 w) (hx : x0 < 256) (h2 : 2 ≤ k)
    (hs0 : w.cell? ⟨b, off, none⟩ = some (.int .u8 x0)) (hs1 : w.cell? ⟨b, off + 1, none⟩ = some (.int .u8 x1))
    (hs2 : 2 < k → w.cell? ⟨b, off + 2, none⟩ = some (.int .u8 x2)) (hf : k < firstT x0 % 8) :
    Calls Tryd.prog 103 #[.slice (some ⟨b, off, none⟩) k cap] w fun e w' => e = .returned (.bool (slowAns k x1 x2 (accLo (firstT x0 / 16)) (accHi (firstT x0 / 16)))) ∧ Below w.heap.size w w' := by
  have hc0 := hT.1 x0 hx
  have k2 : (2 : Int) ≤ (k : Int) := by omega
  have k0 : ((k : Int) == 0) = false := by rw [beq_eq_false_iff_ne]; omega
  have k0' : (0 : Int) < (k : Int) := by omega
  have k1' : (1 : Int) < (k : Int) := by omega
  have hb : b < w.heap.size := block_lt_of_cell hs0
  rcases M1.firstCases x0 with hX | hX | hX | hX | hX | hX | hX | hX | hX
  all_goals
    rw [hX] at hc0 hf ⊢
    clear hX
  · omega
  · omega
  · omega
  · -- 19
    have ha0 := (hT.2 1 (by omega)).1
    have ha1 := (hT.2 1 (by omega)).2
    simp only [accLo, accHi, Nat.reduceMul, Nat.reduceAdd, Nat.reduceEqDiff, if_true, if_false, Nat.reduceDiv] at ha0 ha1 ⊢
    clear hT
    obtain rfl : k = 2 := by omega
    clear hs2
    by_cases c1 : x1 < 160
    · have d1 : decide ((x1 : Int) < 160) = true := by simp; omega
      go_enter Tryd.func103, Tryd.ntmps103
      go_wp2
      go_quiet (fail)
      go_wp2
      go_ret
      exact ⟨ret_bool (slowAns_1 (.inl (by omega))), below_drewN ((Below.refl _ _).alloc (Nat.le_refl _) _) _⟩
    · by_cases c2 : 191 < x1
      · have d1 : decide ((x1 : Int) < 160) = false := by simp; omega
        have d2 : decide (191 < (x1 : Int)) = true := by simp; omega
        go_enter Tryd.func103, Tryd.ntmps103
        go_wp2
        go_quiet (fail)
        go_wp2
        go_ret
        exact ⟨ret_bool (slowAns_1 (.inr (by omega))), below_drewN ((Below.refl _ _).alloc (Nat.le_refl _) _) _⟩
      · have d1 : decide ((x1 : Int) < 160) = false := by simp; omega
        have d2 : decide (191 < (x1 : Int)) = false := by simp; omega
        go_enter Tryd.func103, Tryd.ntmps103
        go_wp2
        go_quiet (fail)
        go_wp2
        go_ret
        exact ⟨ret_bool (slowAns_3 (by omega) (by omega)), below_drewN ((Below.refl _ _).alloc (Nat.le_refl _) _) _⟩
  · -- 3
    have ha0 := (hT.2 0 (by omega)).1
    have ha1 := (hT.2 0 (by omega)).2
    simp only [accLo, accHi, Nat.reduceMul, Nat.reduceAdd, Nat.reduceEqDiff, if_true, if_false, Nat.reduceDiv] at ha0 ha1 ⊢
    clear hT
    obtain rfl : k = 2 := by omega
    clear hs2
    by_cases c1 : x1 < 128
    · have d1 : decide ((x1 : Int) < 128) = true := by simp; omega
      go_enter Tryd.func103, Tryd.ntmps103
      go_wp2
      go_quiet (fail)
      go_wp2
      go_ret
      exact ⟨ret_bool (slowAns_1 (.inl (by omega))), below_drewN ((Below.refl _ _).alloc (Nat.le_refl _) _) _⟩
    · by_cases c2 : 191 < x1
      · have d1 : decide ((x1 : Int) < 128) = false := by simp; omega
        have d2 : decide (191 < (x1 : Int)) = true := by simp; omega
        go_enter Tryd.func103, Tryd.ntmps103
        go_wp2
        go_quiet (fail)
        go_wp2
        go_ret
        exact ⟨ret_bool (slowAns_1 (.inr (by omega))), below_drewN ((Below.refl _ _).alloc (Nat.le_refl _) _) _⟩
      · have d1 : decide ((x1 : Int) < 128) = false := by simp; omega
        have d2 : decide (191 < (x1 : Int)) = false := by simp; omega
        go_enter Tryd.func103, Tryd.ntmps103
        go_wp2
        go_quiet (fail)
        go_wp2
        go_ret
        exact ⟨ret_bool (slowAns_3 (by omega) (by omega)), below_drewN ((Below.refl _ _).alloc (Nat.le_refl _) _) _⟩
  · -- 35
    have ha0 := (hT.2 2 (by omega)).1
    have ha1 := (hT.2 2 (by omega)).2
    simp only [accLo, accHi, Nat.reduceMul, Nat.reduceAdd, Nat.reduceEqDiff, if_true, if_false, Nat.reduceDiv] at ha0 ha1 ⊢
    clear hT
    obtain rfl : k = 2 := by omega
    clear hs2
    by_cases c1 : x1 < 128
    · have d1 : decide ((x1 : Int) < 128) = true := by simp; omega
      go_enter Tryd.func103, Tryd.ntmps103
      go_wp2
      go_quiet (fail)
      go_wp2
      go_ret
      exact ⟨ret_bool (slowAns_1 (.inl (by omega))), below_drewN ((Below.refl _ _).alloc (Nat.le_refl _) _) _⟩
    · by_cases c2 : 159 < x1
      · have d1 : decide ((x1 : Int) < 128) = false := by simp; omega
        have d2 : decide (159 < (x1 : Int)) = true := by simp; omega
        go_enter Tryd.func103, Tryd.ntmps103
        go_wp2
        go_quiet (fail)
        go_wp2
        go_ret
        exact ⟨ret_bool (slowAns_1 (.inr (by omega))), below_drewN ((Below.refl _ _).alloc (Nat.le_refl _) _) _⟩
      · have d1 : decide ((x1 : Int) < 128) = false := by simp; omega
        have d2 : decide (159 < (x1 : Int)) = false := by simp; omega
        go_enter Tryd.func103, Tryd.ntmps103
        go_wp2
        go_quiet (fail)
        go_wp2
        go_ret
        exact ⟨ret_bool (slowAns_3 (by omega) (by omega)), below_drewN ((Below.refl _ _).alloc (Nat.le_refl _) _) _⟩
  · -- 52
    have ha0 := (hT.2 3 (by omega)).1
    have ha1 := (hT.2 3 (by omega)).2
    simp only [accLo, accHi, Nat.reduceMul, Nat.reduceAdd, Nat.reduceEqDiff, if_true, if_false, Nat.reduceDiv] at ha0 ha1 ⊢
    clear hT
    obtain rfl | rfl : k = 2 ∨ k = 3 := by omega
    · clear hs2
      by_cases c1 : x1 < 144
      · have d1 : decide ((x1 : Int) < 144) = true := by simp; omega
        go_enter Tryd.func103, Tryd.ntmps103
        go_wp2
        go_quiet (fail)
        go_wp2
        go_ret
        exact ⟨ret_bool (slowAns_1 (.inl (by omega))), below_drewN ((Below.refl _ _).alloc (Nat.le_refl _) _) _⟩
      · by_cases c2 : 191 < x1
        · have d1 : decide ((x1 : Int) < 144) = false := by simp; omega
          have d2 : decide (191 < (x1 : Int)) = true := by simp; omega
          go_enter Tryd.func103, Tryd.ntmps103
          go_wp2
          go_quiet (fail)
          go_wp2
          go_ret
          exact ⟨ret_bool (slowAns_1 (.inr (by omega))), below_drewN ((Below.refl _ _).alloc (Nat.le_refl _) _) _⟩
        · have d1 : decide ((x1 : Int) < 144) = false := by simp; omega
          have d2 : decide (191 < (x1 : Int)) = false := by simp; omega
          go_enter Tryd.func103, Tryd.ntmps103
          go_wp2
          go_quiet (fail)
          go_wp2
          go_ret
          exact ⟨ret_bool (slowAns_3 (by omega) (by omega)), below_drewN ((Below.refl _ _).alloc (Nat.le_refl _) _) _⟩
    · have hs2 := hs2 (by omega)
      by_cases c1 : x1 < 144
      · have d1 : decide ((x1 : Int) < 144) = true := by simp; omega
        go_enter Tryd.func103, Tryd.ntmps103
        go_wp2
        go_quiet (fail)
        go_wp2
        go_ret
        exact ⟨ret_bool (slowAns_1 (.inl (by omega))), below_drewN ((Below.refl _ _).alloc (Nat.le_refl _) _) _⟩
      · by_cases c2 : 191 < x1
        · have d1 : decide ((x1 : Int) < 144) = false := by simp; omega
          have d2 : decide (191 < (x1 : Int)) = true := by simp; omega
          go_enter Tryd.func103, Tryd.ntmps103
          go_wp2
          go_quiet (fail)
          go_wp2
          go_ret
          exact ⟨ret_bool (slowAns_1 (.inr (by omega))), below_drewN ((Below.refl _ _).alloc (Nat.le_refl _) _) _⟩
        · by_cases c3 : x2 < 128
          · have d1 : decide ((x1 : Int) < 144) = false := by simp; omega
            have d2 : decide (191 < (x1 : Int)) = false := by simp; omega
            have d3 : decide ((x2 : Int) < 128) = true := by simp; omega
            go_enter Tryd.func103, Tryd.ntmps103
            go_wp2
            go_quiet (fail)
            go_wp2
            go_ret
            exact ⟨ret_bool (slowAns_2 (by omega) (by omega)), below_drewN ((Below.refl _ _).alloc (Nat.le_refl _) _) _⟩
          · by_cases c4 : 191 < x2
            · have d1 : decide ((x1 : Int) < 144) = false := by simp; omega
              have d2 : decide (191 < (x1 : Int)) = false := by simp; omega
              have d3 : decide ((x2 : Int) < 128) = false := by simp; omega
              have d4 : decide (191 < (x2 : Int)) = true := by simp; omega
              go_enter Tryd.func103, Tryd.ntmps103
              go_wp2
              go_quiet (fail)
              go_wp2
              go_ret
              exact ⟨ret_bool (slowAns_2 (by omega) (by omega)), below_drewN ((Below.refl _ _).alloc (Nat.le_refl _) _) _⟩
            · have d1 : decide ((x1 : Int) < 144) = false := by simp; omega
              have d2 : decide (191 < (x1 : Int)) = false := by simp; omega
              have d3 : decide ((x2 : Int) < 128) = false := by simp; omega
              have d4 : decide (191 < (x2 : Int)) = false := by simp; omega
              go_enter Tryd.func103, Tryd.ntmps103
              go_wp2
              go_quiet (fail)
              go_wp2
              go_ret
              exact ⟨ret_bool (slowAns_3 (by omega) (by omega)), below_drewN ((Below.refl _ _).alloc (Nat.le_refl _) _) _⟩
  · -- 4
    have ha0 := (hT.2 0 (by omega)).1
    have ha1 := (hT.2 0 (by omega)).2
    simp only [accLo, accHi, Nat.reduceMul, Nat.reduceAdd, Nat.reduceEqDiff, if_true, if_false, Nat.reduceDiv] at ha0 ha1 ⊢
    clear hT
    obtain rfl | rfl : k = 2 ∨ k = 3 := by omega
    · clear hs2
      by_cases c1 : x1 < 128
      · have d1 : decide ((x1 : Int) < 128) = true := by simp; omega
        go_enter Tryd.func103, Tryd.ntmps103
        go_wp2
        go_quiet (fail)
        go_wp2
        go_ret
        exact ⟨ret_bool (slowAns_1 (.inl (by omega))), below_drewN ((Below.refl _ _).alloc (Nat.le_refl _) _) _⟩
      · by_cases c2 : 191 < x1
        · have d1 : decide ((x1 : Int) < 128) = false := by simp; omega
          have d2 : decide (191 < (x1 : Int)) = true := by simp; omega
          go_enter Tryd.func103, Tryd.ntmps103
          go_wp2
          go_quiet (fail)
          go_wp2
          go_ret
          exact ⟨ret_bool (slowAns_1 (.inr (by omega))), below_drewN ((Below.refl _ _).alloc (Nat.le_refl _) _) _⟩
        · have d1 : decide ((x1 : Int) < 128) = false := by simp; omega
          have d2 : decide (191 < (x1 : Int)) = false := by simp; omega
          go_enter Tryd.func103, Tryd.ntmps103
          go_wp2
          go_quiet (fail)
          go_wp2
          go_ret
          exact ⟨ret_bool (slowAns_3 (by omega) (by omega)), below_drewN ((Below.refl _ _).alloc (Nat.le_refl _) _) _⟩
    · have hs2 := hs2 (by omega)
      by_cases c1 : x1 < 128
      · have d1 : decide ((x1 : Int) < 128) = true := by simp; omega
        go_enter Tryd.func103, Tryd.ntmps103
        go_wp2
        go_quiet (fail)
        go_wp2
        go_ret
        exact ⟨ret_bool (slowAns_1 (.inl (by omega))), below_drewN ((Below.refl _ _).alloc (Nat.le_refl _) _) _⟩
      · by_cases c2 : 191 < x1
        · have d1 : decide ((x1 : Int) < 128) = false := by simp; omega
          have d2 : decide (191 < (x1 : Int)) = true := by simp; omega
          go_enter Tryd.func103, Tryd.ntmps103
          go_wp2
          go_quiet (fail)
          go_wp2
          go_ret
          exact ⟨ret_bool (slowAns_1 (.inr (by omega))), below_drewN ((Below.refl _ _).alloc (Nat.le_refl _) _) _⟩
        · by_cases c3 : x2 < 128
          · have d1 : decide ((x1 : Int) < 128) = false := by simp; omega
            have d2 : decide (191 < (x1 : Int)) = false := by simp; omega
            have d3 : decide ((x2 : Int) < 128) = true := by simp; omega
            go_enter Tryd.func103, Tryd.ntmps103
            go_wp2
            go_quiet (fail)
            go_wp2
            go_ret
            exact ⟨ret_bool (slowAns_2 (by omega) (by omega)), below_drewN ((Below.refl _ _).alloc (Nat.le_refl _) _) _⟩
          · by_cases c4 : 191 < x2
            · have d1 : decide ((x1 : Int) < 128) = false := by simp; omega
              have d2 : decide (191 < (x1 : Int)) = false := by simp; omega
              have d3 : decide ((x2 : Int) < 128) = false := by simp; omega
              have d4 : decide (191 < (x2 : Int)) = true := by simp; omega
              go_enter Tryd.func103, Tryd.ntmps103
              go_wp2
              go_quiet (fail)
              go_wp2
              go_ret
              exact ⟨ret_bool (slowAns_2 (by omega) (by omega)), below_drewN ((Below.refl _ _).alloc (Nat.le_refl _) _) _⟩
            · have d1 : decide ((x1 : Int) < 128) = false := by simp; omega
              have d2 : decide (191 < (x1 : Int)) = false := by simp; omega
              have d3 : decide ((x2 : Int) < 128) = false := by simp; omega
              have d4 : decide (191 < (x2 : Int)) = false := by simp; omega
              go_enter Tryd.func103, Tryd.ntmps103
              go_wp2
              go_quiet (fail)
              go_wp2
              go_ret
              exact ⟨ret_bool (slowAns_3 (by omega) (by omega)), below_drewN ((Below.refl _ _).alloc (Nat.le_refl _) _) _⟩
  · -- 68
    have ha0 := (hT.2 4 (by omega)).1
    have ha1 := (hT.2 4 (by omega)).2
    simp only [accLo, accHi, Nat.reduceMul, Nat.reduceAdd, Nat.reduceEqDiff, if_true, if_false, Nat.reduceDiv] at ha0 ha1 ⊢
    clear hT
    obtain rfl | rfl : k = 2 ∨ k = 3 := by omega
    · clear hs2
      by_cases c1 : x1 < 128
      · have d1 : decide ((x1 : Int) < 128) = true := by simp; omega
        go_enter Tryd.func103, Tryd.ntmps103
        go_wp2
        go_quiet (fail)
        go_wp2
        go_ret
        exact ⟨ret_bool (slowAns_1 (.inl (by omega))), below_drewN ((Below.refl _ _).alloc (Nat.le_refl _) _) _⟩
      · by_cases c2 : 143 < x1
        · have d1 : decide ((x1 : Int) < 128) = false := by simp; omega
          have d2 : decide (143 < (x1 : Int)) = true := by simp; omega
          go_enter Tryd.func103, Tryd.ntmps103
          go_wp2
          go_quiet (fail)
          go_wp2
          go_ret
          exact ⟨ret_bool (slowAns_1 (.inr (by omega))), below_drewN ((Below.refl _ _).alloc (Nat.le_refl _) _) _⟩
        · have d1 : decide ((x1 : Int) < 128) = false := by simp; omega
          have d2 : decide (143 < (x1 : Int)) = false := by simp; omega
          go_enter Tryd.func103, Tryd.ntmps103
          go_wp2
          go_quiet (fail)
          go_wp2
          go_ret
          exact ⟨ret_bool (slowAns_3 (by omega) (by omega)), below_drewN ((Below.refl _ _).alloc (Nat.le_refl _) _) _⟩
    · have hs2 := hs2 (by omega)
      by_cases c1 : x1 < 128
      · have d1 : decide ((x1 : Int) < 128) = true := by simp; omega
        go_enter Tryd.func103, Tryd.ntmps103
        go_wp2
        go_quiet (fail)
        go_wp2
        go_ret
        exact ⟨ret_bool (slowAns_1 (.inl (by omega))), below_drewN ((Below.refl _ _).alloc (Nat.le_refl _) _) _⟩
      · by_cases c2 : 143 < x1
        · have d1 : decide ((x1 : Int) < 128) = false := by simp; omega
          have d2 : decide (143 < (x1 : Int)) = true := by simp; omega
          go_enter Tryd.func103, Tryd.ntmps103
          go_wp2
          go_quiet (fail)
          go_wp2
          go_ret
          exact ⟨ret_bool (slowAns_1 (.inr (by omega))), below_drewN ((Below.refl _ _).alloc (Nat.le_refl _) _) _⟩
        · by_cases c3 : x2 < 128
          · have d1 : decide ((x1 : Int) < 128) = false := by simp; omega
            have d2 : decide (143 < (x1 : Int)) = false := by simp; omega
            have d3 : decide ((x2 : Int) < 128) = true := by simp; omega
            go_enter Tryd.func103, Tryd.ntmps103
            go_wp2
            go_quiet (fail)
            go_wp2
            go_ret
            exact ⟨ret_bool (slowAns_2 (by omega) (by omega)), below_drewN ((Below.refl _ _).alloc (Nat.le_refl _) _) _⟩
          · by_cases c4 : 191 < x2
            · have d1 : decide ((x1 : Int) < 128) = false := by simp; omega
              have d2 : decide (143 < (x1 : Int)) = false := by simp; omega
              have d3 : decide ((x2 : Int) < 128) = false := by simp; omega
              have d4 : decide (191 < (x2 : Int)) = true := by simp; omega
              go_enter Tryd.func103, Tryd.ntmps103
              go_wp2
              go_quiet (fail)
              go_wp2
              go_ret
              exact ⟨ret_bool (slowAns_2 (by omega) (by omega)), below_drewN ((Below.refl _ _).alloc (Nat.le_refl _) _) _⟩
            · have d1 : decide ((x1 : Int) < 128) = false := by simp; omega
              have d2 : decide (143 < (x1 : Int)) = false := by simp; omega
              have d3 : decide ((x2 : Int) < 128) = false := by simp; omega
              have d4 : decide (191 < (x2 : Int)) = false := by simp; omega
              go_enter Tryd.func103, Tryd.ntmps103
              go_wp2
              go_quiet (fail)
              go_wp2
              go_ret
              exact ⟨ret_bool (slowAns_3 (by omega) (by omega)), below_drewN ((Below.refl _ _).alloc (Nat.le_refl _) _) _⟩
end Go.Proofs.YtpimadgcojgjaaaDoor.S
