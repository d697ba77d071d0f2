/-
  Contracts: ansi.isFinal, skip, readControl, Read.
-/
import Derived.Test.YtpimadgcojgjaaaDoorByt
namespace Go.Proofs.YtpimadgcojgjaaaDoor
open Go.RowKit Go.Shelf Go.Lib Go.Maps

set_option maxHeartbeats 4000000 in
set_option maxRecDepth 100000 in
theorem isFinal_any (X : Int) (w : World) : Calls Tryd.prog 48 #[.int .u8 X] w fun r w' => r = .returned (.bool (decide (64 ≤ X) && decide (X ≤ 126))) ∧ w' = w := by
  by_cases h : 64 ≤ X
  · have d : decide (64 ≤ X) = true := by simpa using h
    rw [d, Bool.true_and]
    go_enter Tryd.func48, Tryd.ntmps48
    go_wp2_with fail
    go_ret
    exact ⟨rfl, rfl⟩
  · have d : decide (64 ≤ X) = false := by simpa using h
    rw [d, Bool.false_and]
    go_enter Tryd.func48, Tryd.ntmps48
    go_wp2_with fail
    go_ret
    exact ⟨rfl, rfl⟩
theorem in_int {lo hi x : Nat} {L H X : Int} (hL : L = lo) (hH : H = hi) (hX : X = x) : inR lo hi x = (decide (L ≤ X) && decide (X ≤ H)) := by
  subst hL hH hX
  simp [inR]
set_option maxHeartbeats 4000000 in
set_option maxRecDepth 100000 in
theorem skip_any (xs : List Nat) (A : Option Addr) (cap : Nat) (lo hi : Nat) (L H : Int) (hL : L = lo) (hH : H = hi) (i : Nat) (hi' : i ≤ xs.length) (w : World) (h : BY w w.heap.size xs A cap) :
    Calls Tryd.prog 60 #[.slice A xs.length cap, .int .i64 (i : Int), .int .u8 L, .int .u8 H] w fun r w' => r = .returned (.int .i64 ((i + skipN lo hi (xs.drop i) : Nat) : Int)) ∧ w' = w := by
  have hlen := h.len
  obtain ⟨E, hE⟩ : ∃ E, i + skipN lo hi (xs.drop i) = E := ⟨_, rfl⟩
  obtain ⟨N, hN⟩ : ∃ N, xs.length = N := ⟨_, rfl⟩
  rw [hE, hN]
  rw [hN] at hi' hlen
  have HH := Lib.hid (And.intro h (And.intro hE (And.intro hN (And.intro hL hH))))
  clear h hE hN hL hH
  go_enter Tryd.func60, Tryd.ntmps60
  go_wp2_with fail
  go_loopw [1] (fun u wr => ∃ k : Nat, u = .int .i64 (k : Int) ∧ k ≤ N ∧ k + skipN lo hi (xs.drop k) = E ∧ wr = w) (fun u _ => N - (RowKit.intOf u).toNat)
  case atStart => exact ⟨i, rfl, hi', HH.out.2.1, rfl⟩
  case round =>
    obtain ⟨k, rfl, hk, hke, e⟩ := hrel
    obtain rfl := e.symm
    by_cases hlt : k < N
    · have i1 : (k : Int) < (N : Int) := by omega
      obtain ⟨x, hx⟩ := at_lt (l := xs) (k := k) (by rw [HH.out.2.2.1]; exact hlt)
      obtain ⟨b, o, rfl, hbl, d0⟩ := HH.out.1.at hx
      have hin := in_int HH.out.2.2.2.1 HH.out.2.2.2.2 (rfl : (x : Int) = x)
      rw [drop_at hx] at hke
      generalize (x : Int) = X at *
      have HX := Lib.hid hx
      have HK := Lib.hid (And.intro hke hin)
      clear hx hke hin hbl
      by_cases c1 : L ≤ X
      · have d1 : decide (L ≤ X) = true := by simpa using c1
        by_cases c2 : X ≤ H
        · have d2 : decide (X ≤ H) = true := by simpa using c2
          have hn : k + 1 + skipN lo hi (xs.drop (k + 1)) = E := by
            have := HK.out.1
            rw [skipN, HK.out.2, d1, d2] at this
            simp at this
            omega
          have HN := Lib.hid hn
          clear hn c1 c2
          go_wp2_with fail
          go_roundw
          case rel => exact ⟨k + 1, by go_num, by omega, HN.out, trivial⟩
          case measure => simp [RowKit.intOf]; omega
        · have d2 : decide (X ≤ H) = false := by simpa using c2
          have hn : k = E := by
            have := HK.out.1
            rw [skipN, HK.out.2, d1, d2] at this
            simpa using this
          subst hn
          clear c1 c2
          go_wp2_with fail
          go_ret
          exact ⟨rfl, rfl⟩
      · have d1 : decide (L ≤ X) = false := by simpa using c1
        have hn : k = E := by
          have := HK.out.1
          rw [skipN, HK.out.2, d1] at this
          simpa using this
        subst hn
        clear c1
        go_wp2_with fail
        go_ret
        exact ⟨rfl, rfl⟩
    · obtain rfl : k = N := by omega
      have i1 : ¬ (k : Int) < (k : Int) := by omega
      have hn : k = E := by
        rw [← HH.out.2.2.1, List.drop_length] at hke
        rw [← hke, ← HH.out.2.2.1]
        rfl
      have HN := Lib.hid hn
      clear hn hke
      go_wp2_with fail
      go_ret
      exact ⟨by rw [HN.out]; rfl, rfl⟩
end Go.Proofs.YtpimadgcojgjaaaDoor
