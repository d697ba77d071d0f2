/-
  The law OverlayPlain: its walk.
-/
import Derived.Test.YtflhdfbpafhjlaaOaw
namespace Go.Proofs.Ytflhdfbpafhjlaa
open Go.RowKit Go.Shelf Go.Lib

set_option maxHeartbeats 4000000 in
theorem plainLaw (m a b : Int) (q f : Bool) (ha : R32 a) (w : World) : Calls Try.prog 5 #[.int .i64 m, .int .i32 a, .int .i32 b, .bool q, .bool f] w fun e w' => e = .returned (.bool true) ∧ Below w.heap.size w w' := by
  have C := fun W => betw_any m ⟨a, 0, 0, false, false, false, false⟩ ⟨b, 0, 0, f, false, false, false⟩ q ha W
  unfold itA at C
  simp only at C
  obtain ⟨R, hR⟩ : ∃ R, betw m ⟨a, 0, 0, false, false, false, false⟩ ⟨b, 0, 0, f, false, false, false⟩ q = R := ⟨_, rfl⟩
  rw [hR] at C
  have C := Lib.hid C
  unfold betw tog at hR
  simp only [Bool.false_and, Bool.or_false, Bool.false_or, cond_false] at hR
  have A := Lib.hid awake_any
  clear ha
  cases f with
  | true =>
    obtain rfl : R = 2 := by rw [← hR]; simp []
    clear hR
    go_enter Try.func5, Try.ntmps5
    go_wp2_with fail
    refine (C.out _).mono ?_
    rintro e w1 ⟨rfl, hb1⟩
    go_wp2_with fail
    refine (A.out _).mono ?_
    rintro e w2 ⟨rfl, hb⟩
    have hb2 := below_on hb1 hb
    clear hb hb1
    go_wp2_with fail
    go_ret
    exact ⟨rfl, hb2⟩
  | false =>
    cases q with
    | true =>
      have h1 : R = 1 := by rw [← hR]; by_cases h : m = 3 <;> simp [h]
      subst h1
      clear hR
      go_enter Try.func5, Try.ntmps5
      go_wp2_with fail
      refine (C.out _).mono ?_
      rintro e w1 ⟨rfl, hb1⟩
      go_wp2_with fail
      refine (A.out _).mono ?_
      rintro e w2 ⟨rfl, hb⟩
      have hb2 := below_on hb1 hb
      clear hb hb1
      go_wp2_with fail
      go_ret
      exact ⟨rfl, hb2⟩
    | false =>
      by_cases h3 : m = 3
      · have d : (m == 3) = true := by simpa using h3
        by_cases h173 : a = 173
        · have d2 : (a == 173) = true := by simpa using h173
          obtain rfl : R = 3 := by rw [← hR]; simp [d, d2]
          clear hR h3 h173
          go_enter Try.func5, Try.ntmps5
          go_wp2_with fail
          refine (C.out _).mono ?_
          rintro e w1 ⟨rfl, hb1⟩
          go_wp2_with fail
          refine (A.out _).mono ?_
          rintro e w2 ⟨rfl, hb⟩
          have hb2 := below_on hb1 hb
          clear hb hb1
          go_wp2_with fail
          go_ret
          exact ⟨rfl, hb2⟩
        · have d2 : (a == 173) = false := by simpa using h173
          obtain rfl : R = -1 := by rw [← hR]; simp [d, d2]
          clear hR h3 h173
          go_enter Try.func5, Try.ntmps5
          go_wp2_with fail
          refine (C.out _).mono ?_
          rintro e w1 ⟨rfl, hb1⟩
          go_wp2_with fail
          refine (A.out _).mono ?_
          rintro e w2 ⟨rfl, hb⟩
          have hb2 := below_on hb1 hb
          clear hb hb1
          go_wp2_with fail
          go_ret
          exact ⟨rfl, hb2⟩
      · have d : (m == 3) = false := by simpa using h3
        obtain rfl : R = -1 := by rw [← hR]; simp [d]
        clear hR h3
        go_enter Try.func5, Try.ntmps5
        go_wp2_with fail
        refine (C.out _).mono ?_
        rintro e w1 ⟨rfl, hb1⟩
        go_wp2_with fail
        refine (A.out _).mono ?_
        rintro e w2 ⟨rfl, hb⟩
        have hb2 := below_on hb1 hb
        clear hb hb1
        go_wp2_with fail
        go_ret
        exact ⟨rfl, hb2⟩
end Go.Proofs.Ytflhdfbpafhjlaa
