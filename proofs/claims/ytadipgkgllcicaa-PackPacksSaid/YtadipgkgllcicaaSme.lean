/-
  The walk of PackSame.
-/
import Derived.Test.YtadipgkgllcicaaAwk
namespace Go.Proofs.Ytadipgkgllcicaa
open Go.RowKit Go.Shelf Go.Lib Go.Maps Go.Sort

theorem pk_lens {w : World} {p : Pk} {v : Value} (h : PkV w p v) : ∃ px A1 n1 c1 A2 n2 c2 A3 n3 c3 A4 n4 c4, v = .agg #[.int .i64 px, .slice A1 n1 c1, .slice A2 n2 c2, .slice A3 n3 c3, .slice A4 n4 c4] ∧ px = p.w ∧ n1 = p.us.length ∧ n2 = p.bs.length ∧ n3 = p.cs.length ∧ n4 = p.ns.length := by
  obtain ⟨hp, A1, c1, A2, c2, A3, c3, A4, c4, e, _⟩ := h
  exact ⟨_, _, _, _, _, _, _, _, _, _, _, _, _, e, rfl, rfl, rfl, rfl, rfl⟩
set_option maxHeartbeats 8000000 in
set_option maxRecDepth 100000 in
theorem sameLaw_any {p q : Pk} {v v' : Value} {w : World} (h : PkV w p v) (h' : PkV w q v') :
    Calls Try.prog 7 #[v, v'] w fun r w' => r = .returned (.bool true) ∧ Below w.heap.size w w' := by
  obtain ⟨px, A1, n1, c1, A2, n2, c2, A3, n3, c3, A4, n4, c4, rfl, -⟩ := pk_lens h
  obtain ⟨qx, A1', m1, c1', A2', m2, c2', A3', m3, c3', A4', m4, c4', rfl, -⟩ := pk_lens h'
  obtain ⟨W0, hW0⟩ : ∃ W, (w.alloc (.cells #[Value.int .i64 px, .slice A1 n1 c1, .slice A2 n2 c2, .slice A3 n3 c3, .slice A4 n4 c4] 34)).alloc (.cells #[Value.int .i64 qx, .slice A1' m1 c1', .slice A2' m2 c2', .slice A3' m3 c3', .slice A4' m4 c4'] 34) = W := ⟨_, rfl⟩
  have b0 : Below w.heap.size w W0 := by rw [← hW0]; exact (below_new w _).trans ((below_new _ _).mono (by simp))
  have x0 : Cells W0 w.heap.size 34 #[Value.int .i64 px, .slice A1 n1 c1, .slice A2 n2 c2, .slice A3 n3 c3, .slice A4 n4 c4] := by rw [← hW0]; exact ((below_new _ _).block _ (by simp)).trans (cells_new _ _ _)
  have x1 : Cells W0 (w.heap.size + 1) 34 #[Value.int .i64 qx, .slice A1' m1 c1', .slice A2' m2 c2', .slice A3' m3 c3', .slice A4' m4 c4'] := by
    rw [← hW0]
    have := cells_new (w.alloc (.cells #[Value.int .i64 px, .slice A1 n1 c1, .slice A2 n2 c2, .slice A3 n3 c3, .slice A4 n4 c4] 34)) #[Value.int .i64 qx, .slice A1' m1 c1', .slice A2' m2 c2', .slice A3' m3 c3', .slice A4' m4 c4'] 34
    simpa using this
  have C1 := huge_any (h.on b0)
  have H := Lib.hid (And.intro b0 (And.intro x0 (And.intro x1 (And.intro h h'))))
  have HW := Lib.hid hW0
  have HC1 := Lib.hid C1
  clear b0 x0 x1 hW0 h h' C1
  cases hg : hugeB p with
  | true =>
    rw [hg] at HC1
    clear hg
    go_enter Try.func7, Try.ntmps7
    go_wp2_with fail
    rw [HW.out]
    refine HC1.out.mono ?_
    rintro r w2 ⟨rfl, hb⟩
    have bw := H.out.1.trans (hb.mono H.out.1.size)
    have C := Lib.hid (awake_any w2)
    have HB := Lib.hid bw
    clear bw hb
    go_wp2_with fail
    refine C.out.mono ?_
    rintro r w3 ⟨rfl, hb3⟩
    have HB3 := Lib.hid (HB.out.trans (hb3.mono HB.out.size))
    clear hb3
    go_wp2_with fail
    go_ret
    exact ⟨rfl, HB3.out⟩
  | false =>
    rw [hg] at HC1
    clear hg
    go_enter Try.func7, Try.ntmps7
    go_wp2_with fail
    rw [HW.out]
    refine HC1.out.mono ?_
    rintro r w2 ⟨rfl, hb⟩
    have bw := H.out.1.trans (hb.mono H.out.1.size)
    have y0 := H.out.2.1.on hb
    have y1 := H.out.2.2.1.on hb
    have g0 := y1.cell 0
    have g1 := y1.cell 1
    have g2 := y1.cell 2
    have g3 := y1.cell 3
    have g4 := y1.cell 4
    simp at g0 g1 g2 g3 g4
    have C2 := huge_any (H.out.2.2.2.2.on bw)
    have HC2 := Lib.hid C2
    have HB := Lib.hid (And.intro bw (And.intro y0 y1))
    clear bw hb y0 y1 C2
    go_wp2_with fail
    refine HC2.out.mono ?_
    rintro r w3 ⟨rfl, hb3⟩
    have bw := HB.out.1.trans (hb3.mono HB.out.1.size)
    have y0 := HB.out.2.1.on hb3
    have y1 := HB.out.2.2.on hb3
    have C := Lib.hid (awake_any w3)
    have HB3 := Lib.hid (And.intro bw (And.intro y0 y1))
    clear bw y0 y1 hb3 g0 g1 g2 g3 g4
    cases hg : hugeB q with
    | true =>
      clear hg
      go_wp2_with fail
      refine C.out.mono ?_
      rintro r w4 ⟨rfl, hb4⟩
      have HB4 := Lib.hid (HB3.out.1.trans (hb4.mono HB3.out.1.size))
      clear hb4
      go_wp2_with fail
      go_ret
      exact ⟨rfl, HB4.out⟩
    | false =>
      clear hg
      go_wp2_with fail
      refine C.out.mono ?_
      rintro r w4 ⟨rfl, hb4⟩
      have bw := HB3.out.1.trans (hb4.mono HB3.out.1.size)
      have y0 := HB3.out.2.1.on hb4
      have y1 := HB3.out.2.2.on hb4
      have q0 := cell_regrown (show w4.cell? ⟨w.heap.size, 0, none⟩ = some (Value.int .i64 px) from y0.cell 0)
      have s0 := cell_regrown (show w4.cell? ⟨w.heap.size + 1, 0, none⟩ = some (Value.int .i64 qx) from y1.cell 0)
      have q1 := cell_regrown (show w4.cell? ⟨w.heap.size, 1, none⟩ = some (Value.slice A1 n1 c1) from y0.cell 1)
      have s1 := cell_regrown (show w4.cell? ⟨w.heap.size + 1, 1, none⟩ = some (Value.slice A1' m1 c1') from y1.cell 1)
      have q2 := cell_regrown (show w4.cell? ⟨w.heap.size, 2, none⟩ = some (Value.slice A2 n2 c2) from y0.cell 2)
      have s2 := cell_regrown (show w4.cell? ⟨w.heap.size + 1, 2, none⟩ = some (Value.slice A2' m2 c2') from y1.cell 2)
      have q3 := cell_regrown (show w4.cell? ⟨w.heap.size, 3, none⟩ = some (Value.slice A3 n3 c3) from y0.cell 3)
      have s3 := cell_regrown (show w4.cell? ⟨w.heap.size + 1, 3, none⟩ = some (Value.slice A3' m3 c3') from y1.cell 3)
      have q4 := cell_regrown (show w4.cell? ⟨w.heap.size, 4, none⟩ = some (Value.slice A4 n4 c4) from y0.cell 4)
      have s4 := cell_regrown (show w4.cell? ⟨w.heap.size + 1, 4, none⟩ = some (Value.slice A4' m4 c4') from y1.cell 4)
      have t1 := H.out.2.2.2.1.on bw
      have t2 := H.out.2.2.2.2.on bw
      have D1 : ∀ d os, Calls Try.prog 20 #[Value.agg #[.int .i64 px, .slice A1 n1 c1, .slice A2 n2 c2, .slice A3 n3 c3, .slice A4 n4 c4]] (grow (redrawn w4 d) os) fun e w'' => e = .returned (Value.agg #[.int .i64 px, .slice A1 n1 c1, .slice A2 n2 c2, .slice A3 n3 c3, .slice A4 n4 c4]) ∧ ∃ p : Regrown, w'' = grow (redrawn w4 p.d) p.os := fun d os => Calls.regrown_of (to_any (t1.on (below_regrown w4 d os)))
      have D2 : ∀ d os, Calls Try.prog 20 #[Value.agg #[.int .i64 qx, .slice A1' m1 c1', .slice A2' m2 c2', .slice A3' m3 c3', .slice A4' m4 c4']] (grow (redrawn w4 d) os) fun e w'' => e = .returned (Value.agg #[.int .i64 qx, .slice A1' m1 c1', .slice A2' m2 c2', .slice A3' m3 c3', .slice A4' m4 c4']) ∧ ∃ p : Regrown, w'' = grow (redrawn w4 p.d) p.os := fun d os => Calls.regrown_of (to_any (t2.on (below_regrown w4 d os)))
      have D3 : ∀ d os, Calls Try.prog 16 #[Value.agg #[.int .i64 px, .slice A1 n1 c1, .slice A2 n2 c2, .slice A3 n3 c3, .slice A4 n4 c4], Value.agg #[.int .i64 qx, .slice A1' m1 c1', .slice A2' m2 c2', .slice A3' m3 c3', .slice A4' m4 c4']] (grow (redrawn w4 d) os) fun e w'' => e = .returned (.bool (sameB p q)) ∧ ∃ p : Regrown, w'' = grow (redrawn w4 p.d) p.os := fun d os => Calls.regrown_of (pkSame_any (t1.on (below_regrown w4 d os)) (t2.on (below_regrown w4 d os)))
      have D4 : ∀ d os, Calls Try.prog 12 #[Value.agg #[.int .i64 px, .slice A1 n1 c1, .slice A2 n2 c2, .slice A3 n3 c3, .slice A4 n4 c4], Value.agg #[.int .i64 qx, .slice A1' m1 c1', .slice A2' m2 c2', .slice A3' m3 c3', .slice A4' m4 c4']] (grow (redrawn w4 d) os) fun e w'' => e = .returned (.bool (sameB p q)) ∧ ∃ p : Regrown, w'' = grow (redrawn w4 p.d) p.os := fun d os => Calls.regrown_of (pkIs_any (t1.on (below_regrown w4 d os)) (t2.on (below_regrown w4 d os)))
      have D5 : ∀ d os, Calls Try.prog 16 #[Value.agg #[.int .i64 px, .slice A1 n1 c1, .slice A2 n2 c2, .slice A3 n3 c3, .slice A4 n4 c4], Value.agg #[.int .i64 px, .slice A1 n1 c1, .slice A2 n2 c2, .slice A3 n3 c3, .slice A4 n4 c4]] (grow (redrawn w4 d) os) fun e w'' => e = .returned (.bool true) ∧ ∃ p : Regrown, w'' = grow (redrawn w4 p.d) p.os := fun d os => by
        have := Calls.regrown_of (pkSame_any (t1.on (below_regrown w4 d os)) (t1.on (below_regrown w4 d os)))
        rw [show sameB p p = true from sameB_self p] at this
        exact this
      have HB4 := Lib.hid bw
      generalize sameB p q = t at *
      have hpp : (t == t) = true := by simp
      clear bw y0 y1 hb4 t1 t2
      go_wp2_with fail
      refine wp_region_quiet_below (by kernel_rfl) (by kernel_rfl) ?_
      repeat (go_big_quiet_step (first | (with_reducible exact D1 _ _) | (with_reducible exact D2 _ _) | (with_reducible exact D3 _ _) | (with_reducible exact D4 _ _) | (with_reducible exact D5 _ _)))
      refine wpQuiet_nil ?_
      intro _ hw'
      obtain ⟨⟨dq, osq⟩, hw''⟩ := hw'
      subst hw''
      have HB5 := Lib.hid (HB4.out.trans ((below_regrown w4 dq osq).mono HB4.out.size))
      clear q0 q1 q2 q3 q4 s0 s1 s2 s3 s4 D1 D2 D3 D4 D5
      go_wp2_with fail
      go_ret
      exact ⟨rfl, HB5.out⟩
end Go.Proofs.Ytadipgkgllcicaa
