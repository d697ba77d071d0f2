/-
  Contracts: a leaf by itself: takes, newState, step, Matches of one mark.
-/
import Derived.Test.YtegkogadceodlaaBx
import Derived.Test.YtegkogadceodlaaTrt
namespace Go.Proofs.Ytegkogadceodlaa
open Go.RowKit Go.Shelf Go.Lib

def takesG (k c m : Int) : Bool := if k = 0 then m == c else if k = 1 then isC m else if k = 2 then (isC m && m != c) else if k = 3 then m == 36 else false
set_option maxHeartbeats 4000000 in
set_option maxRecDepth 100000 in
theorem takes_any (k c m : Int) (A : Option Addr) (n cap : Nat) (w : World) : Calls Try.prog 63 #[.agg #[.int .i64 k, .int .i64 c, .slice A n cap], .int .i64 m] w fun e w' => e = .returned (.bool (takesG k c m)) ∧ Below w.heap.size w w' := by
  have C := Lib.hid (fun w => isClass_any m w)
  have HT := Lib.hid (show takesG k c m = _ from rfl)
  obtain ⟨R, hR⟩ : ∃ R, takesG k c m = R := ⟨_, rfl⟩
  rw [hR]
  have HR := Lib.hid hR
  have hb := Lib.hid (below_new w (.cells #[.int .i64 k, .int .i64 c, .slice A n cap] 33))
  clear hR
  by_cases h0 : k = 0
  · subst h0
    go_enter Try.func63, Try.ntmps63
    go_wp2_with fail
    go_ret
    exact ⟨by rw [← HR.out]; rfl, hb.out⟩
  · by_cases h1 : k = 1
    · subst h1
      go_enter Try.func63, Try.ntmps63
      go_wp2_with fail
      refine (C.out _).mono ?_
      rintro e w2 ⟨rfl, rfl⟩
      go_wp2_with fail
      go_ret
      exact ⟨by rw [← HR.out]; rfl, hb.out⟩
    · by_cases h2 : k = 2
      · subst h2
        by_cases hc : isC m = true
        · go_enter Try.func63, Try.ntmps63
          go_wp2_with fail
          refine (C.out _).mono ?_
          rintro e w2 ⟨rfl, rfl⟩
          rw [hc]
          go_wp2_with fail
          go_ret
          exact ⟨by rw [← HR.out]; simp [takesG, hc, bne], hb.out⟩
        · have hc : isC m = false := by simpa using hc
          go_enter Try.func63, Try.ntmps63
          go_wp2_with fail
          refine (C.out _).mono ?_
          rintro e w2 ⟨rfl, rfl⟩
          rw [hc]
          go_wp2_with fail
          go_ret
          exact ⟨by rw [← HR.out]; simp [takesG, hc], hb.out⟩
      · by_cases h3 : k = 3
        · subst h3
          go_enter Try.func63, Try.ntmps63
          go_wp2_with fail
          go_ret
          exact ⟨by rw [← HR.out]; rfl, hb.out⟩
        · go_enter Try.func63, Try.ntmps63
          go_wp2_with fail
          go_ret
          exact ⟨by rw [← HR.out]; simp [takesG, h0, h1, h2, h3], hb.out⟩
end Go.Proofs.Ytegkogadceodlaa
