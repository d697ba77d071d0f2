/-
  SqueezeWide with what the row gives.
-/
import Derived.Sort.Walk7a
import Derived.Test.YtmldgfplnacecaaDoorWrt
import Derived.Test.YtmldgfplnacecaaDoorRwd
import Derived.Test.YtmldgfplnacecaaDoorRsm
import Derived.Test.YtmldgfplnacecaaDoorAwk
namespace Go.Proofs.YtmldgfplnacecaaDoor
open Go.RowKit Go.Shelf Go.Lib Go.Maps Go.Sort

theorem great_small {R : List (List Int)} {T : List Nat} (h : greatT R T = false) : R.length ≤ 20 ∧ T.length ≤ 20 := by
  unfold greatT at h
  simp only [Bool.or_eq_false_iff, decide_eq_false_iff_not] at h
  omega
theorem wide_res {w w' : World} {g : List Int} {R : List (List Int)} {T : List Nat} {r : Ending} (h : WideOk w g R T r w') :
    Below w.heap.size w w' ∧ ∃ P0 q0 P1 q1, r = .returned (.tuple #[.agg #[.slice P0 (if wideB g R T then widR R g else []).length q0, .slice P1 (if wideB g R T then T else []).length q1], .bool (wideB g R T)]) ∧
      TbV w' (if wideB g R T then widR R g else []) (if wideB g R T then T else []) (.agg #[.slice P0 (if wideB g R T then widR R g else []).length q0, .slice P1 (if wideB g R T then T else []).length q1]) := by
  obtain ⟨hb, (⟨hq, rfl⟩ | ⟨hq, v, rfl, hT⟩)⟩ := h
  · rw [hq]
    exact ⟨hb, none, 0, none, 0, rfl, none, 0, none, 0, rfl, ⟨Nat.le_refl _, by unfold maxLen; omega, fun _ => rfl, fun hn => absurd rfl hn⟩, ⟨Nat.le_refl _, by unfold maxLen; omega, fun _ => rfl, fun x hx => absurd hx (by simp), fun hn => absurd rfl hn⟩⟩
  · rw [hq]
    have hT2 := hT
    obtain ⟨A, c, A2, c2, rfl, _, _⟩ := hT
    exact ⟨hb, A, c, A2, c2, rfl, hT2⟩
set_option maxHeartbeats 16000000 in
set_option maxRecDepth 100000 in
theorem swide_any {g : List Int} {R : List (List Int)} {T : List Nat} {v : Value} (w : World) (h : NwV w g R T v) (hP : PW w) : Calls Tryd.prog 8 #[v] w fun r w' => r = .returned (.bool true) ∧ Below w.heap.size w w' := by
  obtain ⟨A, c, A1, c1, A2, c2, rfl, hI, hR, hU⟩ := h
  obtain ⟨n, hn⟩ : ∃ n, R.length = n := ⟨_, rfl⟩
  obtain ⟨n2, hn2⟩ : ∃ n, T.length = n := ⟨_, rfl⟩
  obtain ⟨N, hN⟩ : ∃ n, g.length = n := ⟨_, rfl⟩
  obtain ⟨W0, hW0⟩ : ∃ W, w.alloc (.cells #[.slice A N c, .slice A1 n c1, .slice A2 n2 c2] 74) = W := ⟨_, rfl⟩
  have b0 : Below w.heap.size w W0 := by rw [← hW0]; exact below_new _ _
  have x0 : Cells W0 w.heap.size 74 #[.slice A N c, .slice A1 n c1, .slice A2 n2 c2] := by rw [← hW0]; exact cells_new _ _ _
  have KW : ∀ W, Below w.heap.size w W → Calls Tryd.prog 30 #[] W fun r w' => r = .returned (.bool true) ∧ Below W.heap.size W w' := fun W hW => awake_any W (hP.below hW hP.lt)
  have KN : ∀ W, Below w.heap.size w W → NwV W g R T (.agg #[.slice A N c, .slice A1 n c1, .slice A2 n2 c2]) := fun W hW => ⟨A, c, A1, c1, A2, c2, by rw [hn, hn2, hN], (hI.below hW).mono hW.size, (hR.below hW).mono hW.size, (hU.below hW).mono hW.size⟩
  have D := great_tab (R := R) (T := T) (v := .agg #[.slice A1 n c1, .slice A2 n2 c2]) (w := W0) ⟨A1, c1, A2, c2, by rw [hn, hn2], (hR.below b0).mono b0.size, (hU.below b0).mono b0.size⟩
  have hNm : N ≤ 9223372036854775807 := by have := hI.l; have := hI.m; unfold maxLen at this; omega
  have e0 := x0.cell 0
  have e1 := x0.cell 1
  have e2 := x0.cell 2
  simp at e0 e1 e2
  have HKW := Lib.hid KW
  have HK := Lib.hid KN
  have HN := Lib.hid (And.intro hn (And.intro hn2 hN))
  have H := Lib.hid (And.intro b0 x0)
  have HW := Lib.hid hW0
  have HD := Lib.hid D
  rw [hn, hn2, hN]
  clear KW KN hn hn2 hN b0 x0 hW0 hI hR hU hP D
  go_enter Tryd.func8, Tryd.ntmps8
  go_wp2_with fail
  rw [HW.out]
  refine HD.out.mono ?_
  rintro r w2 ⟨rfl, hb2⟩
  have b2 : Below w.heap.size w w2 := H.out.1.trans (hb2.mono H.out.1.size)
  have x2 := H.out.2.on hb2
  clear e0 e1 e2
  have e0 := x2.cell 0
  simp at e0
  cases hg : greatT R T with
  | true =>
    have HC := Lib.hid (And.intro (HKW.out w2 b2) b2)
    clear hg hb2 b2 x2 e0
    go_wp2_with fail
    refine HC.out.1.mono ?_
    rintro r w3 ⟨rfl, hb3⟩
    have HB := Lib.hid (HC.out.2.trans (hb3.mono HC.out.2.size))
    clear hb3
    go_wp2_with fail
    go_ret
    exact ⟨rfl, HB.out⟩
  | false =>
    by_cases h60 : 60 < N
    · have i60 : (60 : Int) < (N : Int) := by omega
      have HC := Lib.hid (And.intro (HKW.out w2 b2) b2)
      clear hg hb2 b2 x2
      go_wp2_with fail
      refine HC.out.1.mono ?_
      rintro r w3 ⟨rfl, hb3⟩
      have HB := Lib.hid (HC.out.2.trans (hb3.mono HC.out.2.size))
      clear hb3
      go_wp2_with fail
      go_ret
      exact ⟨rfl, HB.out⟩
    · have i60 : ¬ (60 : Int) < (N : Int) := by omega
      have HC := Lib.hid (And.intro (HKW.out w2 b2) (And.intro b2 x2))
      have HG := Lib.hid (great_small hg)
      clear hg hb2 b2 x2
      go_wp2_with fail
      refine HC.out.1.mono ?_
      rintro r w3 ⟨rfl, hb3⟩
      have b3 := HC.out.2.1.trans (hb3.mono HC.out.2.1.size)
      have x3 := HC.out.2.2.on hb3
      clear e0
      have e0 := x3.cell 0
      have e1 := x3.cell 1
      have e2 := x3.cell 2
      simp at e0 e1 e2
      have hal := below_new w3 (.cells #[.slice A N c, .slice A1 n c1, .slice A2 n2 c2] 70)
      have y4 := cells_new w3 #[.slice A N c, .slice A1 n c1, .slice A2 n2 c2] 70
      have b4 := b3.trans (hal.mono b3.size)
      have x4 := x3.on hal
      have D := wide_any (HK.out _ b4) (by have := HN.out.2.2; omega) (by have := HG.out.2; omega)
      have t0 := y4.cell 0
      have t1 := y4.cell 1
      have t2 := y4.cell 2
      simp at t0 t1 t2
      have HD4 := Lib.hid (And.intro D (And.intro b4 (And.intro x4 y4)))
      clear D hal y4 b4 x4 b3 x3 hb3
      go_wp2_with fail
      refine HD4.out.1.mono ?_
      intro r w5 hres
      obtain ⟨hb5, P0, q0, P1, q1, rfl, hT5⟩ := wide_res hres
      have b5 := HD4.out.2.1.trans (hb5.mono HD4.out.2.1.size)
      have x5 := HD4.out.2.2.1.on hb5
      have y5 := HD4.out.2.2.2.on hb5
      obtain ⟨B, hB⟩ : ∃ B, wideB g R T = B := ⟨_, rfl⟩
      obtain ⟨X, hX⟩ : ∃ X, (if wideB g R T then widR R g else []) = X := ⟨_, rfl⟩
      obtain ⟨Y, hY⟩ : ∃ Y, (if wideB g R T then T else []) = Y := ⟨_, rfl⟩
      rw [hX, hY] at hT5 ⊢
      rw [hB]
      obtain ⟨nX, hnX⟩ : ∃ n, X.length = n := ⟨_, rfl⟩
      obtain ⟨nY, hnY⟩ : ∃ n, Y.length = n := ⟨_, rfl⟩
      rw [hnX, hnY] at hT5 ⊢
      have hal := below_new w5 (.cells #[.slice P0 nX q0, .slice P1 nY q1] 54)
      have z6 := cells_new w5 #[.slice P0 nX q0, .slice P1 nY q1] 54
      have b6 := b5.trans (hal.mono b5.size)
      have x6 := x5.on hal
      have y6 := y5.on hal
      have hT6 := hT5.on hal
      have D := rwide_any (HK.out _ b6) (by have := HN.out.2.2; omega) (by have := HG.out.1; omega)
      have l5 := x5.lt
      clear e0 e1 e2 t0 t1 t2
      have e0 := x5.cell 0
      have e1 := x5.cell 1
      have e2 := x5.cell 2
      simp at e0 e1 e2
      have HX := Lib.hid (And.intro hB (And.intro hX (And.intro hY (And.intro hnX hnY))))
      have HD6 := Lib.hid (And.intro D (And.intro b6 (And.intro y6 (And.intro z6 hT6))))
      clear D hal z6 b6 x6 y6 hT6 hT5 b5 x5 y5 hb5 hres hB hX hY hnX hnY
      go_wp2_with fail
      refine HD6.out.1.mono ?_
      intro r w7 hres
      obtain ⟨hb7, Q0, r0, Q1, r1, rfl, hT7⟩ := wide_res hres
      have b7 := HD6.out.2.1.trans (hb7.mono HD6.out.2.1.size)
      have y7 := HD6.out.2.2.1.on hb7
      have z7 := HD6.out.2.2.2.1.on hb7
      have hD7 := HD6.out.2.2.2.2.on hb7
      rw [HX.out.2.1, HX.out.2.2.1] at hT7 ⊢
      rw [HX.out.1]
      rw [HX.out.2.2.2.1, HX.out.2.2.2.2] at hT7 ⊢
      obtain ⟨W8, hW8⟩ : ∃ W, w7.alloc (.cells #[.slice Q0 nX r0, .slice Q1 nY r1] 57) = W := ⟨_, rfl⟩
      have hal : Below w7.heap.size w7 W8 := by rw [← hW8]; exact below_new _ _
      have u8 : Cells W8 w7.heap.size 57 #[.slice Q0 nX r0, .slice Q1 nY r1] := by rw [← hW8]; exact cells_new _ _ _
      have b8 := b7.trans (hal.mono b7.size)
      have y8 := y7.on hal
      have z8 := z7.on hal
      have hD8 := hD7.on hal
      have hT8 := hT7.on hal
      have t0 := cell_regrown (y8.cell 0)
      have t1 := cell_regrown (y8.cell 1)
      have t2 := cell_regrown (y8.cell 2)
      have s0 := cell_regrown (z8.cell 0)
      have s1 := cell_regrown (z8.cell 1)
      have u0 := cell_regrown (u8.cell 0)
      have u1 := cell_regrown (u8.cell 1)
      simp at t0 t1 t2 s0 s1 u0 u1
      have D1 : ∀ d os, Calls Tryd.prog 43 #[.agg #[.slice A N c, .slice A1 n c1, .slice A2 n2 c2]] (grow (redrawn W8 d) os) fun e w'' => e = .returned (.bool B) ∧ ∃ p : Regrown, w'' = grow (redrawn W8 p.d) p.os := fun d os => by
        have C := wright_any ((HK.out W8 b8).on (below_regrown W8 d os)) (by have := HN.out.2.2; omega) (by have := HG.out.2; omega)
        rw [HX.out.1] at C
        exact Calls.regrown_of C
      have D2 : ∀ d os, Calls Tryd.prog 44 #[.agg #[.slice P0 nX q0, .slice P1 nY q1]] (grow (redrawn W8 d) os) fun e w'' => e = .returned (.agg #[.slice P0 nX q0, .slice P1 nY q1]) ∧ ∃ p : Regrown, w'' = grow (redrawn W8 p.d) p.os := fun d os => Calls.regrown_of (of_tab _ _ _ _ _ _ _)
      have D3 : ∀ d os, Calls Tryd.prog 29 #[.agg #[.slice P0 nX q0, .slice P1 nY q1], .agg #[.slice Q0 nX r0, .slice Q1 nY r1]] (grow (redrawn W8 d) os) fun e w'' => e = .returned (.bool true) ∧ ∃ p : Regrown, w'' = grow (redrawn W8 p.d) p.os := fun d os => by
        have C := refSame_any (hD8.on (below_regrown W8 d os)) (hT8.on (below_regrown W8 d os))
        rw [show (decide (X = X) && decide (Y = Y)) = true by simp] at C
        exact Calls.regrown_of C
      have hBB : (B == B) = true := by simp
      have HW8 := Lib.hid hW8
      have HB := Lib.hid b8
      clear hal u8 b8 y8 z8 hD8 hT8 hW8 b7 y7 z7 hD7 hT7 hb7 hres e0 e1 e2
      go_wp2_with fail
      rw [HW8.out]
      refine wp_region_quiet_below (by kernel_rfl) (by kernel_rfl) ?_
      repeat (go_big_quiet_step (first | (with_reducible exact D1 _ _) | (with_reducible exact D2 _ _) | (with_reducible exact D3 _ _)))
      refine wpQuiet_nil ?_
      intro _ hw'
      obtain ⟨⟨dq, osq⟩, hw''⟩ := hw'
      subst hw''
      have HB5 := Lib.hid (HB.out.trans ((below_regrown W8 dq osq).mono HB.out.size))
      clear t0 t1 t2 s0 s1 u0 u1 D1 D2 D3
      go_wp2_with fail
      go_ret
      exact ⟨rfl, HB5.out⟩
end Go.Proofs.YtmldgfplnacecaaDoor
