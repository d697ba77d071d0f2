/-
  Contracts: the document's rises.
-/
import Derived.BigQuiet
import Derived.Test.YtegkogadceodlaaWro
namespace Go.Proofs.Ytegkogadceodlaa
open Go.RowKit Go.Shelf Go.Lib

theorem drewN_two (w : World) (a b : Nat) : (w.drewN a).drewN b = w.drewN (a + b) := by simp [World.drewN, Nat.add_assoc]
theorem risesL_ge (xs : List Int) : ∀ (p : Int) (j : Nat) (y : Int), risesL p (xs.take (j + 1)) = true → xs[j]? = some y → p < y := by
  induction xs with
  | nil => intro p j y _ h; simp at h
  | cons a r ih =>
    intro p j y h hj
    have h' : (decide (p < a) && decide (a < 36) && risesL a (r.take j)) = true := h
    simp only [Bool.and_eq_true, decide_eq_true_eq] at h'
    cases j with
    | zero =>
      obtain rfl : a = y := by simpa using hj
      exact h'.1.1
    | succ j =>
      have := ih a j y h'.2 (by simpa using hj)
      omega
theorem rises_ge (xs : List Int) (j : Nat) (y : Int) (h : risesL (-1) (xs.take (j + 1)) = true) (hj : xs[j]? = some y) : -1 < y := risesL_ge xs (-1) j y h hj

set_option maxHeartbeats 4000000 in
theorem refRises_any (xs : List Int) (A : Option Addr) (cap : Nat) (w : World) (h : IS w w.heap.size xs A cap) :
    Calls Try.prog 79 #[.slice A xs.length cap] w fun r w' => r = .returned (.bool (rises xs)) ∧ Below w.heap.size w w' := by
  have hl := h.len
  obtain ⟨R, hR⟩ : ∃ R, rises xs = R := ⟨_, rfl⟩
  obtain ⟨n, hn⟩ : ∃ n, xs.length = n := ⟨_, rfl⟩
  rw [hn] at hl ⊢
  rw [hR]
  have HK := Lib.hid h
  have HN := Lib.hid hn
  have HR := Lib.hid hR
  clear h hn hR
  go_enter Try.func79, Try.ntmps79
  go_wp2_with fail
  go_loopw [3] (fun i wr => ∃ k : Nat, i = .int .i64 k ∧ k ≤ n ∧ risesL (-1) (xs.take k) = true ∧ ∃ m, wr = w.drewN m) (fun i _ => n - (RowKit.intOf i).toNat)
  case atStart => exact ⟨0, rfl, Nat.zero_le _, rfl, 0, rfl⟩
  case round =>
    obtain ⟨k, rfl, hkn, hyes, m, rfl⟩ := hrel
    by_cases hlt : k < n
    · obtain ⟨x, hx⟩ : ∃ x, xs[k]? = some x := ⟨xs[k]'(by rw [HN.out]; exact hlt), List.getElem?_eq_getElem _⟩
      have i1 : (k : Int) < (n : Int) := by omega
      obtain ⟨b, o, rfl, hbl, hr⟩ := HK.out.r (by rintro rfl; simp at hx)
      have d0 := hr k x hx
      have hs := risesL_take (-1) xs k x hx
      rw [hyes, Bool.true_and] at hs
      have hst := risesL_stop (-1) xs (k + 1)
      by_cases h0 : k = 0
      · subst h0
        have hla : True := trivial
        rw [List.take_zero] at hs
        have hs : risesL (-1) (xs.take (0 + 1)) = (decide ((-1 : Int) < x) && decide (x < 36)) := hs
        rw [Nat.add_zero] at d0
        by_cases h1 : x < 0
        · have hf : R = false := by rw [← HR.out]; refine hst ?_; rw [hs]; simp; omega
          subst hf
          clear hs hst hla hx hr hyes
          go_wp2_with fail
          go_quiet (fail)
          go_wp2
          go_ret
          exact ⟨rfl, below_drewN (below_drewN (Below.refl _ _) _) _⟩
        · have e1 : decide (x < 0) = false := by simp; omega
          by_cases h2 : 35 < x
          · have hf : R = false := by rw [← HR.out]; refine hst ?_; rw [hs]; simp; omega
            subst hf
            clear hs hst hla hx hr hyes h1
            go_wp2_with fail
            go_quiet (fail)
            go_wp2
            go_ret
            exact ⟨rfl, below_drewN (below_drewN (Below.refl _ _) _) _⟩
          · have e2 : decide (35 < x) = false := by simp; omega
            have hy2 : risesL (-1) (xs.take (0 + 1)) = true := by rw [hs, decide_eq_true (show (-1 : Int) < x by omega), decide_eq_true (show x < 36 by omega)]; rfl
            have HZ := Lib.hid hy2
            clear hs hst hla hx hr hyes hy2 h1 h2
            go_wp2_with fail
            go_quiet (fail)
            go_wp2
            go_roundw
            case rel => exact ⟨0 + 1, by go_num, by omega, HZ.out, _, rfl⟩
            case measure => simp [RowKit.intOf]; omega
      · obtain ⟨j, rfl⟩ : ∃ j, k = j + 1 := ⟨k - 1, by omega⟩
        obtain ⟨y, hy⟩ : ∃ y, xs[j]? = some y := ⟨xs[j]'(by rw [HN.out]; omega), List.getElem?_eq_getElem _⟩
        have d1 := hr j y hy
        have hla : (xs.take (j + 1)).getLast?.getD (-1) = y := by rw [List.take_add_one, hy]; simp
        rw [hla] at hs
        have h10 := rises_ge xs j y hyes hy
        have i0 : (0 : Int) < (j : Int) + 1 := by omega
        have i2 : (j : Int) < (n : Int) := by omega
        have i3 : (j : Int) + 1 < (n : Int) := by omega
        have i4 : ((j + 1 : Nat) : Int) = (j : Int) + 1 := by omega
        rw [i4]
        clear h0 i1
        by_cases h1 : x < 0
        · have hf : R = false := by
            rw [← HR.out]
            refine hst ?_
            rw [hs]
            simp; omega
          subst hf
          clear hs hst hla hx hr hyes hy
          go_wp2_with fail
          go_quiet (fail)
          go_wp2
          go_ret
          exact ⟨rfl, below_drewN (below_drewN (Below.refl _ _) _) _⟩
        · have e1 : decide (x < 0) = false := by simp; omega
          by_cases h2 : 35 < x
          · have hf : R = false := by rw [← HR.out]; refine hst ?_; rw [hs]; simp; omega
            subst hf
            clear hs hst hla hx hr hyes hy h1
            go_wp2_with fail
            go_quiet (fail)
            go_wp2
            go_ret
            exact ⟨rfl, below_drewN (below_drewN (Below.refl _ _) _) _⟩
          · have e2 : decide (35 < x) = false := by simp; omega
            by_cases h3 : x ≤ y
            · have hf : R = false := by rw [← HR.out]; refine hst ?_; rw [hs]; simp; omega
              subst hf
              clear hs hst hla hx hr hyes hy h1 h2
              go_wp2_with fail
              go_quiet (fail)
              go_wp2
              go_ret
              exact ⟨rfl, below_drewN (below_drewN (Below.refl _ _) _) _⟩
            · have e3 : decide (x ≤ y) = false := by simp; omega
              have hy2 : risesL (-1) (xs.take (j + 1 + 1)) = true := by rw [hs, decide_eq_true (show y < x by omega), decide_eq_true (show x < 36 by omega)]; rfl
              have HZ := Lib.hid hy2
              clear hs hst hla hx hr hyes hy2 hy h1 h2 h3 h10
              go_wp2_with fail
              go_quiet (fail)
              go_wp2
              go_roundw
              case rel => exact ⟨j + 1 + 1, by go_num, by omega, HZ.out, _, rfl⟩
              case measure => simp [RowKit.intOf]; omega
    · have hkn : k = n := by omega
      subst hkn
      have i1 : ¬ (k : Int) < (k : Int) := by omega
      have ht : xs.take k = xs := by rw [← HN.out, List.take_length]
      rw [ht] at hyes
      have hf : R = true := by rw [← HR.out]; exact hyes
      subst hf
      clear hyes ht
      go_wp2
      go_ret
      exact ⟨rfl, below_drewN (Below.refl _ _) _⟩
end Go.Proofs.Ytegkogadceodlaa
