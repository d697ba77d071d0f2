/-
  Contract: rows of the law.
-/
import Derived.Test.YtmldgfplnacecaaDoorRsm
import Derived.Test.YtmldgfplnacecaaDoorEqs
namespace Go.Proofs.YtmldgfplnacecaaDoor
open Go.RowKit Go.Shelf Go.Lib Go.Maps Go.Sort

set_option maxHeartbeats 4000000 in
set_option maxRecDepth 100000 in
theorem rows_any (xs ys : List (List Int)) (A A' : Option Addr) (cap cap' : Nat) (w : World) (hx : RsAt w w.heap.size xs A cap) (hy : RsAt w w.heap.size ys A' cap') :
    Calls Tryd.prog 40 #[.slice A xs.length cap, .slice A' ys.length cap'] w fun r w' => r = .returned (.bool (decide (xs = ys))) ∧ Below w.heap.size w w' := by
  have hl1 : xs.length ≤ 9223372036854775807 := by have := hx.l; have := hx.m; unfold maxLen at this; omega
  have hl2 : ys.length ≤ 9223372036854775807 := by have := hy.l; have := hy.m; unfold maxLen at this; omega
  obtain ⟨R, hR⟩ : ∃ R, decide (xs = ys) = R := ⟨_, rfl⟩
  obtain ⟨N, hN⟩ : ∃ N, xs.length = N := ⟨_, rfl⟩
  obtain ⟨M, hM⟩ : ∃ M, ys.length = M := ⟨_, rfl⟩
  rw [hN] at hl1
  rw [hM] at hl2
  rw [hR, hN, hM]
  have HH := Lib.hid (And.intro hx (And.intro hy (And.intro hR (And.intro hN hM))))
  clear hx hy hR hN hM
  by_cases hlen : N = M
  · subst hlen
    have hq0 : ((N : Int) != (N : Int)) = false := by simp
    have hq1 : ((N : Int) == (N : Int)) = true := by simp
    go_enter Tryd.func40, Tryd.ntmps40
    go_wp2_with fail
    go_loopw [5] (fun i wr => ∃ k : Nat, i = .int .i64 (k : Int) ∧ k ≤ N ∧ xs.take k = ys.take k ∧ Below w.heap.size w wr) (fun i _ => N - (RowKit.intOf i).toNat)
    case atStart => exact ⟨0, rfl, by omega, by simp, Below.refl _ _⟩
    case round =>
      obtain ⟨k, rfl, hk, htk, hb⟩ := hrel
      by_cases hlt : k < N
      · have i1 : (k : Int) < (N : Int) := by omega
        obtain ⟨x, hx⟩ : ∃ x, xs[k]? = some x := ⟨xs[k]'(by rw [HH.out.2.2.2.1]; exact hlt), List.getElem?_eq_getElem _⟩
        obtain ⟨y, hy⟩ : ∃ y, ys[k]? = some y := ⟨ys[k]'(by rw [HH.out.2.2.2.2]; exact hlt), List.getElem?_eq_getElem _⟩
        obtain ⟨b, o, rfl, hbl, hc⟩ := HH.out.1.r (by rintro rfl; simp at hx)
        obtain ⟨b', o', rfl, hbl', hc'⟩ := HH.out.2.1.r (by rintro rfl; simp at hy)
        obtain ⟨A1, c1, x1, x2, _⟩ := hc k x hx
        obtain ⟨A2, c2, y1, y2, _⟩ := hc' k y hy
        have d0 := (hb.cell (p := ⟨b, o + k, none⟩) hbl).trans x1
        have d1 := (hb.cell (p := ⟨b', o' + k, none⟩) hbl').trans y1
        have x2' := (x2.below hb).mono hb.size
        have y2' := (y2.below hb).mono hb.size
        have C : ∀ d os, Calls Tryd.prog 19 #[.slice A1 x.length c1, .slice A2 y.length c2] (grow (redrawn wr d) os) fun e w'' => e = .returned (.bool (decide (x = y))) ∧ ∃ p : Regrown, w'' = grow (redrawn wr p.d) p.os :=
          fun d os => Calls.regrown_of (is_any x y A1 A2 c1 c2 _ (x2'.on (below_regrown wr d os)) (y2'.on (below_regrown wr d os)))
        obtain ⟨lx, hlx⟩ : ∃ n, x.length = n := ⟨_, rfl⟩
        obtain ⟨ly, hly⟩ : ∃ n, y.length = n := ⟨_, rfl⟩
        rw [hlx] at C d0
        rw [hly] at C d1
        have q4 := cell_regrown d0
        have q5 := cell_regrown d1
        have HK := Lib.hid (And.intro htk (And.intro hb (And.intro hx hy)))
        by_cases he : x = y
        · have hq : decide (x = y) = true := by simpa using he
          rw [hq] at C
          have HE := Lib.hid he
          clear he hq htk hb hc hc' hx hy x1 x2 y1 y2 hlx hly x2' y2' d0 d1
          go_wp2_with fail
          refine wp_region_quiet_below (by kernel_rfl) (by kernel_rfl) ?_
          repeat (go_big_quiet_step (exact C _ _))
          refine wpQuiet_nil ?_
          intro _ hw'
          obtain ⟨⟨dq, osq⟩, hw''⟩ := hw'
          subst hw''
          have HB := Lib.hid (HK.out.2.1.trans ((below_regrown wr dq osq).mono HK.out.2.1.size))
          clear q4 q5 C
          go_wp2_with fail
          go_roundw
          case rel => exact ⟨k + 1, by go_num, by omega, take_eq_snocR HK.out.1 HK.out.2.2.1 HK.out.2.2.2 HE.out, HB.out⟩
          case measure => simp [RowKit.intOf]; omega
        · have hq : decide (x = y) = false := by simpa using he
          rw [hq] at C
          have : R = false := by
            rw [← HH.out.2.2.1]
            simp only [decide_eq_false_iff_not]
            intro e
            have h1 := HK.out.2.2.1
            rw [e, HK.out.2.2.2] at h1
            injection h1 with h1
            exact he h1.symm
          subst this
          clear he hq htk hb hc hc' hx hy x1 x2 y1 y2 hlx hly x2' y2' d0 d1
          go_wp2_with fail
          refine wp_region_quiet_below (by kernel_rfl) (by kernel_rfl) ?_
          repeat (go_big_quiet_step (exact C _ _))
          refine wpQuiet_nil ?_
          intro _ hw'
          obtain ⟨⟨dq, osq⟩, hw''⟩ := hw'
          subst hw''
          have HB := Lib.hid (HK.out.2.1.trans ((below_regrown wr dq osq).mono HK.out.2.1.size))
          clear q4 q5 C
          go_wp2_with fail
          go_ret
          exact ⟨rfl, HB.out⟩
      · obtain rfl : k = N := by omega
        have i1 : ¬ (k : Int) < (k : Int) := by omega
        have : R = true := by
          rw [← HH.out.2.2.1]
          have e1 : xs.take k = xs := by rw [← HH.out.2.2.2.1, List.take_length]
          have e2 : ys.take k = ys := by rw [← HH.out.2.2.2.2, List.take_length]
          rw [e1, e2] at htk
          simp [htk]
        subst this
        have HB := Lib.hid hb
        clear hb htk
        go_wp2_with fail
        go_ret
        exact ⟨rfl, HB.out⟩
  · have hq : ((N : Int) != (M : Int)) = true := by simp; omega
    have hq1 : ((N : Int) == (M : Int)) = false := by simp; omega
    have : R = false := by
      rw [← HH.out.2.2.1]
      simp only [decide_eq_false_iff_not]
      intro e
      have := HH.out.2.2.2
      rw [e] at this
      omega
    subst this
    go_enter Tryd.func40, Tryd.ntmps40
    go_wp2_with fail
    go_ret
    exact ⟨rfl, Below.refl _ _⟩
end Go.Proofs.YtmldgfplnacecaaDoor
