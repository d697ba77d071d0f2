/-
  Contracts: expr.Node.isShaped.
-/
import Derived.Test.YtegkogadceodlaaRgt
namespace Go.Proofs.Ytegkogadceodlaa
open Go.RowKit Go.Shelf Go.Lib

set_option maxHeartbeats 4000000 in
theorem shaped_any (k c : Int) (A : Option Addr) (n cap : Nat) (w : World) (hn : n ≤ 9223372036854775807) :
    Calls Try.prog 58 #[.agg #[.int .i64 k, .int .i64 c, .slice A n cap]] w fun r w' => r = .returned (.bool (shapedK k c n)) ∧ Below w.heap.size w w' := by
  have C := Lib.hid (fun W => isClass_any c W)
  have hb0 := below_new w (.cells #[.int .i64 k, .int .i64 c, .slice A n cap] 33)
  obtain ⟨R, hR⟩ : ∃ R, shapedK k c n = R := ⟨_, rfl⟩
  rw [hR]
  unfold shapedK at hR
  by_cases k0 : k = 0
  · subst k0
    simp only [true_or, if_true] at hR
    obtain ⟨cb, hcb⟩ : ∃ cb, isC c = cb := ⟨_, rfl⟩
    have C1 := Lib.hid (C.out (w.alloc (.cells #[.int .i64 0, .int .i64 c, .slice A n cap] 33)))
    rw [hcb] at hR C1
    by_cases n0 : n = 0
    · subst n0
      cases cb
      all_goals
        simp at hR
        subst hR
        go_enter Try.func58, Try.ntmps58
        go_wp2_with fail
        refine C1.out.mono ?_
        rintro e w1 ⟨rfl, rfl⟩
        go_wp2
        go_ret
        exact ⟨rfl, hb0⟩
    · have n1 : ((n : Int) == 0) = false := by simpa using n0
      cases cb
      all_goals
        simp [n0] at hR
        subst hR
        go_enter Try.func58, Try.ntmps58
        go_wp2_with fail
        refine C1.out.mono ?_
        rintro e w1 ⟨rfl, rfl⟩
        go_wp2
        go_ret
        exact ⟨rfl, hb0⟩
  by_cases k2 : k = 2
  · subst k2
    simp only [or_true, if_true] at hR
    obtain ⟨cb, hcb⟩ : ∃ cb, isC c = cb := ⟨_, rfl⟩
    have C1 := Lib.hid (C.out (w.alloc (.cells #[.int .i64 2, .int .i64 c, .slice A n cap] 33)))
    rw [hcb] at hR C1
    by_cases n0 : n = 0
    · subst n0
      cases cb
      all_goals
        simp at hR
        subst hR
        go_enter Try.func58, Try.ntmps58
        go_wp2_with fail
        refine C1.out.mono ?_
        rintro e w1 ⟨rfl, rfl⟩
        go_wp2
        go_ret
        exact ⟨rfl, hb0⟩
    · have n1 : ((n : Int) == 0) = false := by simpa using n0
      cases cb
      all_goals
        simp [n0] at hR
        subst hR
        go_enter Try.func58, Try.ntmps58
        go_wp2_with fail
        refine C1.out.mono ?_
        rintro e w1 ⟨rfl, rfl⟩
        go_wp2
        go_ret
        exact ⟨rfl, hb0⟩
  by_cases k1 : k = 1
  · subst k1
    simp at hR
    by_cases c0 : c = 0
    · subst c0
      by_cases n0 : n = 0
      · have n1 : ((n : Int) == 0) = true := by simp; omega
        simp [n0] at hR
        subst hR
        go_enter Try.func58, Try.ntmps58
        go_wp2
        go_ret
        first
          | exact ⟨rfl, hb0⟩
          | (subst n0; exact ⟨rfl, hb0⟩)
      · have n1 : ((n : Int) == 0) = false := by simp; omega
        simp [n0] at hR
        subst hR
        go_enter Try.func58, Try.ntmps58
        go_wp2
        go_ret
        exact ⟨rfl, hb0⟩
    · have c1 : (c == 0) = false := by simpa using c0
      simp [c0] at hR
      subst hR
      go_enter Try.func58, Try.ntmps58
      go_wp2
      go_ret
      exact ⟨rfl, hb0⟩
  by_cases k3 : k = 3
  · subst k3
    simp at hR
    by_cases c0 : c = 0
    · subst c0
      by_cases n0 : n = 0
      · have n1 : ((n : Int) == 0) = true := by simp; omega
        simp [n0] at hR
        subst hR
        go_enter Try.func58, Try.ntmps58
        go_wp2
        go_ret
        first
          | exact ⟨rfl, hb0⟩
          | (subst n0; exact ⟨rfl, hb0⟩)
      · have n1 : ((n : Int) == 0) = false := by simp; omega
        simp [n0] at hR
        subst hR
        go_enter Try.func58, Try.ntmps58
        go_wp2
        go_ret
        exact ⟨rfl, hb0⟩
    · have c1 : (c == 0) = false := by simpa using c0
      simp [c0] at hR
      subst hR
      go_enter Try.func58, Try.ntmps58
      go_wp2
      go_ret
      exact ⟨rfl, hb0⟩
  by_cases k9 : k = 9
  · subst k9
    simp at hR
    by_cases c0 : c = 0
    · subst c0
      by_cases n0 : n = 0
      · have n1 : ((n : Int) == 0) = true := by simp; omega
        simp [n0] at hR
        subst hR
        go_enter Try.func58, Try.ntmps58
        go_wp2
        go_ret
        first
          | exact ⟨rfl, hb0⟩
          | (subst n0; exact ⟨rfl, hb0⟩)
      · have n1 : ((n : Int) == 0) = false := by simp; omega
        simp [n0] at hR
        subst hR
        go_enter Try.func58, Try.ntmps58
        go_wp2
        go_ret
        exact ⟨rfl, hb0⟩
    · have c1 : (c == 0) = false := by simpa using c0
      simp [c0] at hR
      subst hR
      go_enter Try.func58, Try.ntmps58
      go_wp2
      go_ret
      exact ⟨rfl, hb0⟩
  by_cases k4 : k = 4
  · subst k4
    simp at hR
    by_cases c0 : c = 0
    · subst c0
      by_cases n0 : 2 ≤ n
      · have n1 : decide ((2 : Int) ≤ (n : Int)) = true := by simp; omega
        simp [n0] at hR
        subst hR
        go_enter Try.func58, Try.ntmps58
        go_wp2
        go_ret
        first
          | exact ⟨rfl, hb0⟩
          | (subst n0; exact ⟨rfl, hb0⟩)
      · have n1 : decide ((2 : Int) ≤ (n : Int)) = false := by simp; omega
        simp [n0] at hR
        subst hR
        go_enter Try.func58, Try.ntmps58
        go_wp2
        go_ret
        exact ⟨rfl, hb0⟩
    · have c1 : (c == 0) = false := by simpa using c0
      simp [c0] at hR
      subst hR
      go_enter Try.func58, Try.ntmps58
      go_wp2
      go_ret
      exact ⟨rfl, hb0⟩
  by_cases k5 : k = 5
  · subst k5
    simp at hR
    by_cases c0 : c = 0
    · subst c0
      by_cases n0 : 2 ≤ n
      · have n1 : decide ((2 : Int) ≤ (n : Int)) = true := by simp; omega
        simp [n0] at hR
        subst hR
        go_enter Try.func58, Try.ntmps58
        go_wp2
        go_ret
        first
          | exact ⟨rfl, hb0⟩
          | (subst n0; exact ⟨rfl, hb0⟩)
      · have n1 : decide ((2 : Int) ≤ (n : Int)) = false := by simp; omega
        simp [n0] at hR
        subst hR
        go_enter Try.func58, Try.ntmps58
        go_wp2
        go_ret
        exact ⟨rfl, hb0⟩
    · have c1 : (c == 0) = false := by simpa using c0
      simp [c0] at hR
      subst hR
      go_enter Try.func58, Try.ntmps58
      go_wp2
      go_ret
      exact ⟨rfl, hb0⟩
  by_cases k6 : k = 6
  · subst k6
    simp at hR
    by_cases c0 : c = 0
    · subst c0
      by_cases n0 : n = 1
      · have n1 : ((n : Int) == 1) = true := by simp; omega
        simp [n0] at hR
        subst hR
        go_enter Try.func58, Try.ntmps58
        go_wp2
        go_ret
        first
          | exact ⟨rfl, hb0⟩
          | (subst n0; exact ⟨rfl, hb0⟩)
      · have n1 : ((n : Int) == 1) = false := by simp; omega
        simp [n0] at hR
        subst hR
        go_enter Try.func58, Try.ntmps58
        go_wp2
        go_ret
        exact ⟨rfl, hb0⟩
    · have c1 : (c == 0) = false := by simpa using c0
      simp [c0] at hR
      subst hR
      go_enter Try.func58, Try.ntmps58
      go_wp2
      go_ret
      exact ⟨rfl, hb0⟩
  by_cases k7 : k = 7
  · subst k7
    simp at hR
    by_cases c0 : c = 0
    · subst c0
      by_cases n0 : n = 1
      · have n1 : ((n : Int) == 1) = true := by simp; omega
        simp [n0] at hR
        subst hR
        go_enter Try.func58, Try.ntmps58
        go_wp2
        go_ret
        first
          | exact ⟨rfl, hb0⟩
          | (subst n0; exact ⟨rfl, hb0⟩)
      · have n1 : ((n : Int) == 1) = false := by simp; omega
        simp [n0] at hR
        subst hR
        go_enter Try.func58, Try.ntmps58
        go_wp2
        go_ret
        exact ⟨rfl, hb0⟩
    · have c1 : (c == 0) = false := by simpa using c0
      simp [c0] at hR
      subst hR
      go_enter Try.func58, Try.ntmps58
      go_wp2
      go_ret
      exact ⟨rfl, hb0⟩
  by_cases k8 : k = 8
  · subst k8
    simp at hR
    by_cases c0 : c = 0
    · subst c0
      by_cases n0 : n = 1
      · have n1 : ((n : Int) == 1) = true := by simp; omega
        simp [n0] at hR
        subst hR
        go_enter Try.func58, Try.ntmps58
        go_wp2
        go_ret
        first
          | exact ⟨rfl, hb0⟩
          | (subst n0; exact ⟨rfl, hb0⟩)
      · have n1 : ((n : Int) == 1) = false := by simp; omega
        simp [n0] at hR
        subst hR
        go_enter Try.func58, Try.ntmps58
        go_wp2
        go_ret
        exact ⟨rfl, hb0⟩
    · have c1 : (c == 0) = false := by simpa using c0
      simp [c0] at hR
      subst hR
      go_enter Try.func58, Try.ntmps58
      go_wp2
      go_ret
      exact ⟨rfl, hb0⟩
  simp [k0, k1, k2, k3, k4, k5, k6, k7, k8, k9] at hR
  subst hR
  have q0 : (k == 0) = false := by simpa using k0
  have q1 : (k == 1) = false := by simpa using k1
  have q2 : (k == 2) = false := by simpa using k2
  have q3 : (k == 3) = false := by simpa using k3
  have q4 : (k == 4) = false := by simpa using k4
  have q5 : (k == 5) = false := by simpa using k5
  have q6 : (k == 6) = false := by simpa using k6
  have q7 : (k == 7) = false := by simpa using k7
  have q8 : (k == 8) = false := by simpa using k8
  have q9 : (k == 9) = false := by simpa using k9
  go_enter Try.func58, Try.ntmps58
  go_wp2
  go_ret
  exact ⟨rfl, hb0⟩
end Go.Proofs.Ytegkogadceodlaa
