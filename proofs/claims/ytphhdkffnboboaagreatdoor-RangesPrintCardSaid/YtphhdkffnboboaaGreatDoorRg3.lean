/-
  Contracts: virguleref02.Right, ranges.valid, virguleref02.Known.
-/
import Derived.Test.YtphhdkffnboboaaGreatDoorRg2
namespace Go.Proofs.YtphhdkffnboboaaGreatDoor
open Go.RowKit Go.Shelf
open Go.Lib Go.BigFrame Go.Sort

set_option maxHeartbeats 2000000 in
theorem rright_any (A : Option Addr) (cap : Nat) (xs : List Rng) (w : World) (h : RS w w.heap.size A cap xs) :
    Calls Tryz.prog 14 #[.slice A xs.length cap] w fun e w' => e = .returned (.bool (right xs)) ∧ Below w.heap.size w w' := by
  have H := Lib.hid h
  have C := Lib.hid mayr_any
  have hm : xs.length ≤ maxLen := by have := h.1; have := h.2.1; omega
  obtain ⟨n, hn⟩ : ∃ n, xs.length = n := ⟨_, rfl⟩
  have HN := Lib.hid hn
  unfold maxLen at hm
  rw [hn] at hm ⊢
  clear h hn
  go_enter Tryz.func14, Tryz.ntmps14
  go_wp2
  go_loopw [3] (fun i wr => ∃ k : Nat, i = .int .i64 k ∧ k ≤ n ∧ right (xs.take k) = true ∧ Below w.heap.size w wr) (fun i _ => n - (RowKit.intOf i).toNat)
  case atStart => exact ⟨0, rfl, Nat.zero_le _, rfl, Below.refl _ _⟩
  case round =>
    obtain ⟨k, rfl, hk, hr, hb⟩ := hrel
    have HR := Lib.hid hr
    clear hr
    by_cases hlt : k < n
    · obtain ⟨x, hx⟩ : ∃ x, xs[k]? = some x := ⟨xs[k]'(by have := HN.out; omega), List.getElem?_eq_getElem _⟩
      obtain ⟨b, o, rfl, hbl, hRg⟩ := H.out.2.2.2 (by intro e; rw [e] at hx; simp at hx)
      obtain ⟨q1, q2⟩ := (hRg.below hbl hb) k x hx
      have hi := H.out.i32 hx
      have HX := Lib.hid hx
      have HG := Lib.hid hRg
      clear hRg hx
      obtain ⟨lo, hi'⟩ := x
      have i1 : (k : Int) < (n : Int) := by omega
      go_wp2_with fail
      have HB := Lib.hid hb
      generalize hW : wr = W1 at *
      have C1 : ∀ d os, Calls Tryz.prog 25 #[.agg #[.int .i32 lo, .int .i32 hi']] (grow (redrawn W1 d) os) fun e w'' => e = .returned (.bool (may (lo, hi'))) ∧ ∃ p : Regrown, w'' = grow (redrawn W1 p.d) p.os := fun d os => Calls.regrown_of (C.out lo hi' hi _)
      have HS := Lib.hid (right_step xs k (lo, hi') HX.out)
      clear hb
      obtain ⟨M, hM⟩ : ∃ M, may (lo, hi') = M := ⟨_, rfl⟩
      rw [hM] at C1
      cases M
      · have HF := Lib.hid (right_false xs (k + 1) (by rw [HS.out, hM, Bool.and_false]))
        have g0 := cell_regrown q1
        have g1 := cell_regrown q2
        clear q1 q2
        refine wp_region_quiet_below (by kernel_rfl) (by kernel_rfl) ?_
        repeat (go_big_quiet_step (exact C1 _ _))
        refine wpQuiet_nil ?_
        intro _ hw'
        obtain ⟨⟨dq, osq⟩, hw''⟩ := hw'
        subst hw''
        have hbz := HB.out.trans ((below_regrown W1 dq osq).mono HB.out.size)
        go_wp2
        go_ret
        exact ⟨by rw [HF.out]; rfl, hbz⟩
      · obtain _ | m := k
        · simp at q1 q2
          have g0 := cell_regrown q1
          have g1 := cell_regrown q2
          clear q1 q2
          have HF := Lib.hid (show right (xs.take (0 + 1)) = true by
            rw [HS.out, hM, Bool.and_true]
            have := (may_iff _).1 hM
            simp [right, rightFrom, hiOf]
            omega)
          refine wp_region_quiet_below (by kernel_rfl) (by kernel_rfl) ?_
          repeat (go_big_quiet_step (exact C1 _ _))
          refine wpQuiet_nil ?_
          intro _ hw'
          obtain ⟨⟨dq, osq⟩, hw''⟩ := hw'
          subst hw''
          have hbz := HB.out.trans ((below_regrown W1 dq osq).mono HB.out.size)
          go_wp2
          go_roundw
          case rel => exact ⟨1, by go_num, by omega, HF.out, hbz⟩
          case measure => simp [RowKit.intOf]; omega
        · obtain ⟨y, hy⟩ : ∃ y, xs[m]? = some y := ⟨xs[m]'(by have := HN.out; omega), List.getElem?_eq_getElem _⟩
          have q := (((HG.out.below hbl HB.out) m y hy).2)
          have q3 := cell_regrown q
          have hiy := H.out.i32 hy
          have hmy := (may_iff _).1 (right_may (b := -1) HR.out y (List.mem_iff_getElem?.2 ⟨m, by rw [List.getElem?_take]; simp [hy]⟩)).1
          rw [hiOf_take xs m y hy, hM, HR.out, Bool.true_and, Bool.and_true] at HS
          obtain ⟨lo', hy'⟩ := y
          have g0 := cell_regrown q1
          have g1 := cell_regrown q2
          clear q1 q2
          have hmx := (may_iff _).1 hM
          have p5 : 0 ≤ lo := hmx.1
          have p6 : lo ≤ 1114111 := by have := hmx.2.1; have := hmx.2.2; simp at *; omega
          clear hmx
          have p0 : (0 : Int) < (m : Int) + 1 := by omega
          have p1 : (m : Int) < (n : Int) := by omega
          have p2 : (0 : Int) ≤ (m : Int) := by omega
          have p3 : hy' ≤ 1114111 := hmy.2.2
          have p4 : 0 ≤ hy' := by have := hmy.1; have := hmy.2.1; simp at *; omega
          clear hy q hmy
          by_cases c : lo ≤ hy' + 1
          · have HF := Lib.hid (right_false xs (m + 1 + 1) (by rw [HS.out]; simpa using c))
            have d2 : lo - hy' < 2 := by omega
            clear HS
            refine wp_region_quiet_below (by kernel_rfl) (by kernel_rfl) ?_
            repeat (go_big_quiet_step (exact C1 _ _))
            refine wpQuiet_nil ?_
            intro _ hw'
            obtain ⟨⟨dq, osq⟩, hw''⟩ := hw'
            subst hw''
            have hbz := HB.out.trans ((below_regrown W1 dq osq).mono HB.out.size)
            go_wp2
            go_ret
            exact ⟨by rw [HF.out]; rfl, hbz⟩
          · have HF := Lib.hid (show right (xs.take (m + 1 + 1)) = true by rw [HS.out]; simp; omega)
            have d : decide (lo - hy' < 2) = false := by simp; omega
            clear HS
            refine wp_region_quiet_below (by kernel_rfl) (by kernel_rfl) ?_
            repeat (go_big_quiet_step (exact C1 _ _))
            refine wpQuiet_nil ?_
            intro _ hw'
            obtain ⟨⟨dq, osq⟩, hw''⟩ := hw'
            subst hw''
            have hbz := HB.out.trans ((below_regrown W1 dq osq).mono HB.out.size)
            go_wp2
            go_roundw
            case rel => exact ⟨m + 1 + 1, by go_num, by omega, HF.out, hbz⟩
            case measure => simp [RowKit.intOf]; omega
    · have hkn : k = n := by omega
      have HF := Lib.hid (show right xs = true by have h := HR.out; rwa [hkn, ← HN.out, List.take_length] at h)
      subst hkn
      go_wp2
      go_ret
      exact ⟨by rw [HF.out]; rfl, hb⟩

theorem valid_any (A : Option Addr) (cap : Nat) (xs : List Rng) (w : World) (h : RS w w.heap.size A cap xs) :
    Calls Tryz.prog 15 #[.slice A xs.length cap] w fun e w' => e = .returned (if right xs then .slice A xs.length cap else .slice none 0 0) ∧ Below w.heap.size w w' := by
  have C := right_any A cap xs w h
  obtain ⟨V, hV⟩ : ∃ V, right xs = V := ⟨_, rfl⟩
  rw [hV] at C ⊢
  have C := Lib.hid C
  clear h hV
  go_enter Tryz.func15, Tryz.ntmps15
  go_wp2_with fail
  refine C.out.mono ?_
  rintro e w1 ⟨rfl, hb⟩
  cases V
  · go_wp2
    go_ret
    exact ⟨rfl, hb⟩
  · go_wp2
    go_ret
    exact ⟨rfl, hb⟩

theorem known_any (A : Option Addr) (cap : Nat) (xs : List Rng) (w : World) (h : RS w w.heap.size A cap xs) :
    Calls Tryz.prog 5 #[.slice A xs.length cap] w fun e w' => e = .returned (if right xs then .slice A xs.length cap else .slice none 0 0) ∧ Below w.heap.size w w' := by
  have C := rright_any A cap xs w h
  obtain ⟨V, hV⟩ : ∃ V, right xs = V := ⟨_, rfl⟩
  rw [hV] at C ⊢
  have C := Lib.hid C
  clear h hV
  go_enter Tryz.func5, Tryz.ntmps5
  go_wp2_with fail
  refine C.out.mono ?_
  rintro e w1 ⟨rfl, hb⟩
  cases V
  · go_wp2
    go_ret
    exact ⟨rfl, hb⟩
  · go_wp2
    go_ret
    exact ⟨rfl, hb⟩
end Go.Proofs.YtphhdkffnboboaaGreatDoor
