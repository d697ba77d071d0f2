/-
  PropParts: no number is in the sets of two classes; each is in that of its own. The walk of the law.
-/
import Derived.Test.YtphhdkffnboboaaSets
namespace Go.Proofs.Ytphhdkffnboboaa
open Go.RowKit Go.Shelf
open Go.Lib

theorem apart_none {x y : Nat} (hx : x < 36) (hy : y < 36) (h : x ≠ y) : norm (cutR (setP (x : Int)) (setP (y : Int))) = [] := by
  refine (norm_eq (out := []) rfl fun r => ?_).symm
  rw [Bool.eq_iff_iff]
  constructor
  · intro e; simp [hasR] at e
  · intro e
    exfalso
    unfold cutR at e
    simp only [Bool.and_eq_true] at e
    have h1 := (setP_has hx r).1 e.1
    have h2 := (setP_has hy r).1 e.2
    omega
theorem has_any2 (A : Option Addr) (c : Nat) (xs : List Rng) (r : Int) (h0 : -2147483648 ≤ r) (h1 : r ≤ 2147483647) (w : World) (h : SW w A c xs) (hr : right xs = true) :
    Calls Try.prog 39 #[.slice A xs.length c, .int .i32 r] w fun e w' => e = .returned (.bool (hasR xs r)) ∧ Below w.heap.size w w' := by
  have := has_any A c xs r h0 h1 w h.r
  rwa [known_of hr] at this

theorem mod36 (a : Int) : ∃ X : Nat, X < 36 ∧ wrap64 ((IntKind.u64.wrap a).tmod 36) = (X : Int) := by
  have h0 : 0 ≤ IntKind.u64.wrap a := by simp [IntKind.wrap, IntKind.bits, IntKind.signed]; omega
  generalize IntKind.u64.wrap a = Z at *
  rw [Int.tmod_eq_emod_of_nonneg h0]
  have h1 : 0 ≤ Z % 36 := by omega
  have h2 : Z % 36 < 36 := by omega
  generalize Z % 36 = M at *
  refine ⟨M.toNat, by omega, ?_⟩
  rw [IntWalk.wrap64_in M ⟨by omega, by omega⟩]
  omega

set_option maxHeartbeats 2000000 in
theorem parts_walk (a : Int) (_a0 : -9223372036854775808 ≤ a) (_a1 : a ≤ 9223372036854775807) (b : Int) (_b0 : -9223372036854775808 ≤ b) (_b1 : b ≤ 9223372036854775807) (r : Int) (r0 : -2147483648 ≤ r) (r1 : r ≤ 2147483647) (w : World) :
    Calls Try.prog 12 #[.int .i64 a, .int .i64 b, .int .i32 r] w fun e w' => e = .returned (.bool true) ∧ Below w.heap.size w w' := by
  have CC := Lib.hid (fun W => class_any r W r0 r1)
  by_cases h : r < 0 ∨ 1114111 < r
  · rw [classR_out h] at CC
    rcases (show r < 0 ∨ (0 ≤ r ∧ 1114111 < r) by omega) with h1 | ⟨h1, h2⟩
    all_goals
      clear h
      go_enter Try.func12, Try.ntmps12
      go_wp2_with fail
      refine (CC.out _).mono ?_
      rintro e w1 ⟨rfl, hb1⟩
      go_wp2_with fail
      refine (awake_any _).mono ?_
      rintro e w2 ⟨rfl, hb⟩
      have hb2 := hb1.trans (hb.mono hb1.size)
      clear hb hb1
      go_wp2
      go_ret
      exact ⟨rfl, hb2⟩
  · have h1 : 0 ≤ r := by omega
    have h2 : r ≤ 1114111 := by omega
    obtain ⟨X, hX, eX⟩ := mod36 a
    obtain ⟨Y, hY, eY⟩ := mod36 b
    have hQ : hasR (setP (classR r : Nat)) r = true := (setP_has (classR_lt r) r).2 ⟨h1, h2, rfl⟩
    have CS := Lib.hid set_any
    have tail : ∀ (w' : World) (hb : Below w.heap.size w w'), True := fun _ _ => trivial
    have CH := Lib.hid (fun A c xs W (hS : SW W A c xs) (hr : right xs = true) => has_any2 A c xs r (by omega) (by omega) W hS hr)
    obtain ⟨N, hN⟩ : ∃ N, classR r = N := ⟨_, rfl⟩
    rw [hN] at hQ CC
    have HQ := Lib.hid hQ
    clear h hQ hN tail
    by_cases hXY : X = Y
    · have d : ((X : Int) != (Y : Int)) = false := by simp [hXY]
      have d' : ((X : Int) == (Y : Int)) = true := by simp [hXY]
      clear hXY
      go_enter Try.func12, Try.ntmps12
      go_wp2_with fail
      refine (CC.out _).mono ?_
      rintro e w1 ⟨rfl, hb1⟩
      go_wp2_with fail
      refine (CS.out _ _).mono ?_
      rintro e w2 ⟨⟨A2, c2, rfl, hS, hb⟩, hr, _⟩
      have hb2 := hb1.trans (hb.mono hb1.size)
      have C := CH.out A2 c2 _ w2 hS hr
      rw [HQ.out] at C
      have C := Lib.hid C
      clear hb hb1 hS hr
      go_wp2_with fail
      refine C.out.mono ?_
      rintro e w3 ⟨rfl, hb⟩
      have hb3 := hb2.trans (hb.mono hb2.size)
      clear hb hb2
      go_wp2_with fail
      refine (awake_any _).mono ?_
      rintro e w4 ⟨rfl, hb⟩
      have hb4 := hb3.trans (hb.mono hb3.size)
      clear hb hb3
      go_wp2
      go_ret
      exact ⟨rfl, hb4⟩
    · have d : ((X : Int) != (Y : Int)) = true := by simp; omega
      have d' : ((X : Int) == (Y : Int)) = false := by simp; omega
      have HN := Lib.hid (apart_none hX hY hXY)
      clear hXY
      go_enter Try.func12, Try.ntmps12
      go_wp2_with fail
      refine (CS.out _ _).mono ?_
      rintro e w1 ⟨⟨A1, c1, rfl, hS1, hb1⟩, hr1, hl1⟩
      have H1 := Lib.hid (And.intro hS1 (And.intro hr1 hl1))
      clear hS1 hr1 hl1
      go_wp2_with fail
      refine (CS.out _ _).mono ?_
      rintro e w2 ⟨⟨A2, c2, rfl, hS2, hb⟩, hr2, hl2⟩
      have hb2 := hb1.trans (hb.mono hb1.size)
      have C := cut_sp A1 c1 _ A2 c2 _ w2 (H1.out.1.below hb) hS2 H1.out.2.1 hr2 (by have := H1.out.2.2; omega) (by omega)
      rw [HN.out] at C
      have C := Lib.hid C
      clear hb hb1 hS2 hr2 hl2 H1
      go_wp2_with fail
      refine C.out.mono ?_
      rintro e w3 ⟨⟨A3, c3, rfl, hS3, hb⟩, _, _⟩
      have hb3 := hb2.trans (hb.mono hb2.size)
      have C := count_sp A3 c3 [] w3 hS3 rfl
      have C := Lib.hid C
      clear hb hb2 hS3
      go_wp2_with fail
      refine C.out.mono ?_
      rintro e w4 ⟨rfl, hb⟩
      have hb4 := hb3.trans (hb.mono hb3.size)
      have e0 : countR [] = 0 := rfl
      rw [e0]
      clear hb hb3 e0
      go_wp2_with fail
      refine (CC.out _).mono ?_
      rintro e w5 ⟨rfl, hb⟩
      have hb5 := hb4.trans (hb.mono hb4.size)
      clear hb hb4
      go_wp2_with fail
      refine (CS.out _ _).mono ?_
      rintro e w6 ⟨⟨A2, c2, rfl, hS, hb⟩, hr, _⟩
      have hb6 := hb5.trans (hb.mono hb5.size)
      have C := CH.out A2 c2 _ w6 hS hr
      rw [HQ.out] at C
      have C := Lib.hid C
      clear hb hb5 hS hr
      go_wp2_with fail
      refine C.out.mono ?_
      rintro e w7 ⟨rfl, hb⟩
      have hb7 := hb6.trans (hb.mono hb6.size)
      clear hb hb6
      go_wp2_with fail
      refine (awake_any _).mono ?_
      rintro e w8 ⟨rfl, hb⟩
      have hb8 := hb7.trans (hb.mono hb7.size)
      clear hb hb7
      go_wp2
      go_ret
      exact ⟨rfl, hb8⟩
end Go.Proofs.Ytphhdkffnboboaa
