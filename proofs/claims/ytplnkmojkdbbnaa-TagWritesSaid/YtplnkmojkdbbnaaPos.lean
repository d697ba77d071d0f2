/-
  Contracts: position.isDone, position.take.
-/
import Derived.Test.YtplnkmojkdbbnaaIdf
namespace Go.Proofs.Ytplnkmojkdbbnaa
open Go.RowKit Go.Shelf Go.Lib Go.Maps

set_option maxHeartbeats 4000000 in
set_option maxRecDepth 100000 in
theorem isDone_any (g b o N cap n : Nat) (k s nm ats sg cl : Value) (w : World) (hc : Cells w g 62 (PCs b o N cap n k s nm ats sg cl)) :
    Calls Try.prog 43 #[.pointer (some ⟨g, 0, none⟩)] w fun e w' => e = .returned (.bool ((n : Int) == (N : Int))) ∧ ∃ m, w' = w.drewN m := by
  have q0 := hc.cell 0
  have q1 := hc.cell 1
  simp [PCs] at q0 q1
  clear hc
  go_enter Try.func43, Try.ntmps43
  go_wp2_with go_quiet (fail)
  go_ret
  exact ⟨rfl, _, rfl⟩
/-- Is a byte here? -/
def tkB (xs : List Nat) (n c : Nat) : Bool := xs[n]? == some c
def tkN (xs : List Nat) (n c : Nat) : Nat := if tkB xs n c = true then n + 1 else n
set_option maxHeartbeats 4000000 in
set_option maxRecDepth 100000 in
theorem take_any (g b o cap n c : Nat) (xs : List Nat) (k s nm ats sg cl : Value) (w : World) (hc : Cells w g 62 (PCs b o xs.length cap n k s nm ats sg cl)) (hb : BY w g xs (some ⟨b, o, none⟩) cap) (hn : n ≤ xs.length) :
    Calls Try.prog 41 #[.pointer (some ⟨g, 0, none⟩), .int .u8 (c : Int)] w fun e w' => e = .returned (.bool (tkB xs n c)) ∧ Fz (· = g) w w' ∧ Cells w' g 62 (PCs b o xs.length cap (tkN xs n c) k s nm ats sg cl) := by
  have hlen := hb.len
  have q0 := hc.cell 0
  have q1 := hc.cell 1
  have f1 := hc.froz 1
  have hg := hc.lt
  simp [PCs] at q0 q1
  have CD := fun m => isDone_any g b o xs.length cap n k s nm ats sg cl (w.drewN m) hc
  have HD := Lib.hid CD
  by_cases hlt : n < xs.length
  case neg =>
    have e1 : tkB xs n c = false := by
      rw [tkB, List.getElem?_eq_none (by omega)]; rfl
    have e2 : tkN xs n c = n := by rw [tkN, if_neg (by rw [e1]; simp)]
    rw [e1, e2]
    obtain rfl : n = xs.length := by omega
    have d1 : ((xs.length : Int) == (xs.length : Int)) = true := by simp
    have HC := Lib.hid hc
    clear hb hc CD hn hlt e1 e2
    generalize xs.length = N at *
    rw [d1] at HD
    go_enter Try.func41, Try.ntmps41
    go_wp2_with go_quiet (first | (go_at_call 43; with_reducible refine Calls.quiet_of (HD.out _)))
    go_ret
    exact ⟨rfl, (Fz.refl _ _).drewN _, HC.out⟩
  case pos =>
    have d1 : ((n : Int) == (xs.length : Int)) = false := by rw [beq_eq_false_iff_ne]; omega
    have i1 : (n : Int) < (xs.length : Int) := by omega
    obtain ⟨x, hx⟩ := at_lt (l := xs) (k := n) hlt
    obtain ⟨b', o', e, hbl, c0⟩ := hb.at hx
    obtain ⟨rfl, rfl⟩ : b = b' ∧ o = o' := by simpa using e
    by_cases hxc : x = c
    · subst hxc
      have e1 : tkB xs n x = true := by rw [tkB, hx]; simp
      have e2 : tkN xs n x = n + 1 := by rw [tkN, if_pos e1]
      rw [e1, e2]
      have HC := Lib.hid hc
      rw [d1] at HD
      clear hb hc CD hn hlt e1 e2 d1 hx e
      generalize xs.length = N at *
      generalize (x : Int) = X at *
      go_enter Try.func41, Try.ntmps41
      go_wp2_with go_quiet (first | (go_at_call 43; with_reducible refine Calls.quiet_of (HD.out _)))
      go_ret
      refine ⟨rfl, ?_, ?_⟩
      · exact ((Fz.refl _ _).drewN _).trans (Fz.set _ _ _ _ rfl)
      · exact Cells.set (W := w.drewN _) HC.out 1 _
    · have e1 : tkB xs n c = false := by rw [tkB, hx]; simp [hxc]
      have e2 : tkN xs n c = n := by rw [tkN, if_neg (by rw [e1]; simp)]
      rw [e1, e2]
      have d2 : ((x : Int) != (c : Int)) = true := by rw [bne_iff_ne]; omega
      have HC := Lib.hid hc
      rw [d1] at HD
      clear hb hc CD hn hlt e1 e2 d1 hx e hxc
      generalize xs.length = N at *
      generalize (x : Int) = X at *
      generalize (c : Int) = C at *
      go_enter Try.func41, Try.ntmps41
      go_wp2_with go_quiet (first | (go_at_call 43; with_reducible refine Calls.quiet_of (HD.out _)))
      go_ret
      exact ⟨rfl, (Fz.refl _ _).drewN _, HC.out⟩
end Go.Proofs.Ytplnkmojkdbbnaa
