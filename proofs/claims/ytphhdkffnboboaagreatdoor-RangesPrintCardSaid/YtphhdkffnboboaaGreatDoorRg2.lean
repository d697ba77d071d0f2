/-
  Contracts: ranges.Right, virguleref02.Right, ranges.valid, virguleref02.Known.
-/
import Derived.Test.YtphhdkffnboboaaGreatDoorRg1
namespace Go.Proofs.YtphhdkffnboboaaGreatDoor
open Go.RowKit Go.Shelf
open Go.Lib Go.BigFrame Go.Sort

set_option maxHeartbeats 2000000 in
theorem right_any (A : Option Addr) (cap : Nat) (xs : List Rng) (w : World) (h : RS w w.heap.size A cap xs) :
    Calls Tryz.prog 11 #[.slice A xs.length cap] w fun e w' => e = .returned (.bool (right xs)) ∧ Below w.heap.size w w' := by
  have H := Lib.hid h
  have C := Lib.hid inB_any
  have hm : xs.length ≤ maxLen := by have := h.1; have := h.2.1; omega
  obtain ⟨n, hn⟩ : ∃ n, xs.length = n := ⟨_, rfl⟩
  have HN := Lib.hid hn
  unfold maxLen at hm
  rw [hn] at hm ⊢
  clear h hn
  go_enter Tryz.func11, Tryz.ntmps11
  go_wp2
  go_loopw [7] (fun i wr => ∃ k : Nat, i = .int .i64 k ∧ k ≤ n ∧ right (xs.take k) = true ∧ Below w.heap.size w wr) (fun i _ => n - (RowKit.intOf i).toNat)
  case atStart => exact ⟨0, rfl, Nat.zero_le _, rfl, Below.refl _ _⟩
  case round =>
    obtain ⟨k, rfl, hk, hr, hb⟩ := hrel
    have HR := Lib.hid hr
    clear hr
    by_cases hlt : k < n
    · obtain ⟨x, hx⟩ : ∃ x, xs[k]? = some x := ⟨xs[k]'(by have := HN.out; omega), List.getElem?_eq_getElem _⟩
      obtain ⟨b, o, rfl, hbl, hRg⟩ := H.out.2.2.2 (by intro e; rw [e] at hx; simp at hx)
      obtain ⟨q1, q2⟩ := (hRg.below hbl hb) k x hx
      have hi := H.out.i32 hx
      have HX := Lib.hid hx
      have HG := Lib.hid hRg
      clear hRg hx
      obtain ⟨lo, hi'⟩ := x
      have i1 : (k : Int) < (n : Int) := by omega
      go_wp2_with fail
      have hb1 : Below w.heap.size w (wr.alloc (.cells #[.int .i32 lo, .int .i32 hi'] 39)) := hb.alloc hb.size _
      have f0 : (wr.alloc (.cells #[.int .i32 lo, .int .i32 hi'] 39)).cell? ⟨wr.heap.size, 0, none⟩ = some (.int .i32 lo) := by simp
      have f1 : (wr.alloc (.cells #[.int .i32 lo, .int .i32 hi'] 39)).cell? ⟨wr.heap.size, 1, none⟩ = some (.int .i32 hi') := by simp
      generalize wr.alloc (.cells #[.int .i32 lo, .int .i32 hi'] 39) = W1 at *
      generalize wr.heap.size = B1 at *
      have HB := Lib.hid hb1
      have g0 := cell_regrown f0
      have g1 := cell_regrown f1
      have C1 : ∀ d os, Calls Tryz.prog 22 #[.agg #[.int .i32 lo, .int .i32 hi']] (grow (redrawn W1 d) os) fun e w'' => e = .returned (.bool (may (lo, hi'))) ∧ ∃ p : Regrown, w'' = grow (redrawn W1 p.d) p.os := fun d os => Calls.regrown_of (C.out lo hi' hi _)
      have HS := Lib.hid (right_step xs k (lo, hi') HX.out)
      clear f0 f1 hb hb1 q1 q2
      obtain ⟨M, hM⟩ : ∃ M, may (lo, hi') = M := ⟨_, rfl⟩
      rw [hM] at C1
      cases M
      · have HF := Lib.hid (right_false xs (k + 1) (by rw [HS.out, hM, Bool.and_false]))
        refine wp_region_quiet_below (by kernel_rfl) (by kernel_rfl) ?_
        repeat (go_big_quiet_step (exact C1 _ _))
        refine wpQuiet_nil ?_
        intro _ hw'
        obtain ⟨⟨dq, osq⟩, hw''⟩ := hw'
        subst hw''
        have hbz := HB.out.trans ((below_regrown W1 dq osq).mono HB.out.size)
        go_wp2
        go_ret
        exact ⟨by rw [HF.out]; rfl, hbz⟩
      · obtain _ | m := k
        · have HF := Lib.hid (show right (xs.take (0 + 1)) = true by
            rw [HS.out, hM, Bool.and_true]
            have := (may_iff _).1 hM
            simp [right, rightFrom, hiOf]
            omega)
          refine wp_region_quiet_below (by kernel_rfl) (by kernel_rfl) ?_
          repeat (go_big_quiet_step (exact C1 _ _))
          refine wpQuiet_nil ?_
          intro _ hw'
          obtain ⟨⟨dq, osq⟩, hw''⟩ := hw'
          subst hw''
          have hbz := HB.out.trans ((below_regrown W1 dq osq).mono HB.out.size)
          go_wp2
          go_roundw
          case rel => exact ⟨1, by go_num, by omega, HF.out, hbz⟩
          case measure => simp [RowKit.intOf]; omega
        · obtain ⟨y, hy⟩ : ∃ y, xs[m]? = some y := ⟨xs[m]'(by have := HN.out; omega), List.getElem?_eq_getElem _⟩
          have q := (((HG.out.below hbl HB.out) m y hy).2)
          have q3 := cell_regrown q
          have hiy := H.out.i32 hy
          have hmy := (may_iff _).1 (right_may (b := -1) HR.out y (List.mem_iff_getElem?.2 ⟨m, by rw [List.getElem?_take]; simp [hy]⟩)).1
          rw [hiOf_take xs m y hy, hM, HR.out, Bool.true_and, Bool.and_true] at HS
          obtain ⟨lo', hy'⟩ := y
          have p0 : (0 : Int) < (m : Int) + 1 := by omega
          have p1 : (m : Int) < (n : Int) := by omega
          have p2 : (0 : Int) ≤ (m : Int) := by omega
          have p3 : hy' ≤ 1114111 := hmy.2.2
          have p4 : 0 ≤ hy' := by have := hmy.1; have := hmy.2.1; simp at *; omega
          clear hy q hmy
          by_cases c : lo ≤ hy' + 1
          · have HF := Lib.hid (right_false xs (m + 1 + 1) (by rw [HS.out]; simpa using c))
            clear HS
            refine wp_region_quiet_below (by kernel_rfl) (by kernel_rfl) ?_
            repeat (go_big_quiet_step (exact C1 _ _))
            refine wpQuiet_nil ?_
            intro _ hw'
            obtain ⟨⟨dq, osq⟩, hw''⟩ := hw'
            subst hw''
            have hbz := HB.out.trans ((below_regrown W1 dq osq).mono HB.out.size)
            go_wp2
            go_ret
            exact ⟨by rw [HF.out]; rfl, hbz⟩
          · have HF := Lib.hid (show right (xs.take (m + 1 + 1)) = true by rw [HS.out]; simp; omega)
            have d : decide (lo ≤ hy' + 1) = false := by simpa using c
            clear HS
            refine wp_region_quiet_below (by kernel_rfl) (by kernel_rfl) ?_
            repeat (go_big_quiet_step (exact C1 _ _))
            refine wpQuiet_nil ?_
            intro _ hw'
            obtain ⟨⟨dq, osq⟩, hw''⟩ := hw'
            subst hw''
            have hbz := HB.out.trans ((below_regrown W1 dq osq).mono HB.out.size)
            go_wp2
            go_roundw
            case rel => exact ⟨m + 1 + 1, by go_num, by omega, HF.out, hbz⟩
            case measure => simp [RowKit.intOf]; omega
    · have hkn : k = n := by omega
      have HF := Lib.hid (show right xs = true by have h := HR.out; rwa [hkn, ← HN.out, List.take_length] at h)
      subst hkn
      go_wp2
      go_ret
      exact ⟨by rw [HF.out]; rfl, hb⟩
end Go.Proofs.YtphhdkffnboboaaGreatDoor
