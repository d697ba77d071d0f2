/-
  Packed rows in memory; contracts: pack.Same, Packed.Is, To, huge.
-/
import Derived.Test.YtadipgkgllcicaaEqs
namespace Go.Proofs.Ytadipgkgllcicaa
open Go.RowKit Go.Shelf Go.Lib Go.Maps

/-- Packed rows. -/
structure Pk where
  w : Int
  us : List Int
  bs : List Int
  cs : List Int
  ns : List Int
def sameB (p q : Pk) : Bool := decide (p.w = q.w) && (decide (p.us = q.us) && (decide (p.bs = q.bs) && (decide (p.cs = q.cs) && decide (p.ns = q.ns))))
theorem sameB_self (p : Pk) : sameB p p = true := by simp [sameB]
def PkV (w : World) (p : Pk) (v : Value) : Prop :=
  i64 p.w ∧ ∃ A1 c1 A2 c2 A3 c3 A4 c4, v = .agg #[.int .i64 p.w, .slice A1 p.us.length c1, .slice A2 p.bs.length c2, .slice A3 p.cs.length c3, .slice A4 p.ns.length c4] ∧
    IS w w.heap.size p.us A1 c1 ∧ IS w w.heap.size p.bs A2 c2 ∧ IS w w.heap.size p.cs A3 c3 ∧ IS w w.heap.size p.ns A4 c4
theorem PkV.on {w w' : World} {p : Pk} {v : Value} (h : PkV w p v) (hb : Below w.heap.size w w') : PkV w' p v := by
  obtain ⟨hp, A1, c1, A2, c2, A3, c3, A4, c4, e, i1, i2, i3, i4⟩ := h
  exact ⟨hp, A1, c1, A2, c2, A3, c3, A4, c4, e, i1.on hb, i2.on hb, i3.on hb, i4.on hb⟩
set_option maxHeartbeats 4000000 in
set_option maxRecDepth 100000 in
theorem pkSame_any {p q : Pk} {v v' : Value} {w : World} (h : PkV w p v) (h' : PkV w q v') :
    Calls Try.prog 16 #[v, v'] w fun r w' => r = .returned (.bool (sameB p q)) ∧ Below w.heap.size w w' := by
  obtain ⟨hp, A1, c1, A2, c2, A3, c3, A4, c4, rfl, i1, i2, i3, i4⟩ := h
  obtain ⟨hp', A1', c1', A2', c2', A3', c3', A4', c4', rfl, j1, j2, j3, j4⟩ := h'
  obtain ⟨px, us, bs, cs, ns⟩ := p
  obtain ⟨qx, us', bs', cs', ns'⟩ := q
  dsimp only at *
  obtain ⟨W0, hW0⟩ : ∃ W, (w.alloc (.cells #[.int .i64 px, .slice A1 us.length c1, .slice A2 bs.length c2, .slice A3 cs.length c3, .slice A4 ns.length c4] 27)).alloc (.cells #[.int .i64 qx, .slice A1' us'.length c1', .slice A2' bs'.length c2', .slice A3' cs'.length c3', .slice A4' ns'.length c4'] 27) = W := ⟨_, rfl⟩
  have b0 : Below w.heap.size w W0 := by rw [← hW0]; exact (below_new w _).trans ((below_new _ _).mono (by simp))
  have x0 : Cells W0 w.heap.size 27 #[.int .i64 px, .slice A1 us.length c1, .slice A2 bs.length c2, .slice A3 cs.length c3, .slice A4 ns.length c4] := by rw [← hW0]; exact ((below_new _ _).block _ (by simp)).trans (cells_new _ _ _)
  have x1 : Cells W0 (w.heap.size + 1) 27 #[.int .i64 qx, .slice A1' us'.length c1', .slice A2' bs'.length c2', .slice A3' cs'.length c3', .slice A4' ns'.length c4'] := by
    rw [← hW0]
    have := cells_new (w.alloc (.cells #[.int .i64 px, .slice A1 us.length c1, .slice A2 bs.length c2, .slice A3 cs.length c3, .slice A4 ns.length c4] 27)) #[.int .i64 qx, .slice A1' us'.length c1', .slice A2' bs'.length c2', .slice A3' cs'.length c3', .slice A4' ns'.length c4'] 27
    simpa using this
  have C1 := fun w' (hb : Below W0.heap.size W0 w') => eq29_any us us' A1 A1' c1 c1' w' ((i1.on b0).on hb) ((j1.on b0).on hb)
  have C2 := fun w' (hb : Below W0.heap.size W0 w') => eq29_any bs bs' A2 A2' c2 c2' w' ((i2.on b0).on hb) ((j2.on b0).on hb)
  have C3 := fun w' (hb : Below W0.heap.size W0 w') => eq29_any cs cs' A3 A3' c3 c3' w' ((i3.on b0).on hb) ((j3.on b0).on hb)
  have C4 := fun w' (hb : Below W0.heap.size W0 w') => eq29_any ns ns' A4 A4' c4 c4' w' ((i4.on b0).on hb) ((j4.on b0).on hb)
  have e0 := x0.cell 0
  have d0 := x1.cell 0
  have e1 := x0.cell 1
  have d1 := x1.cell 1
  have e2 := x0.cell 2
  have d2 := x1.cell 2
  have e3 := x0.cell 3
  have d3 := x1.cell 3
  have e4 := x0.cell 4
  have d4 := x1.cell 4
  simp at e0 e1 e2 e3 e4 d0 d1 d2 d3 d4
  obtain ⟨n1, hn1⟩ : ∃ n, us.length = n := ⟨_, rfl⟩
  obtain ⟨m1, hm1⟩ : ∃ n, us'.length = n := ⟨_, rfl⟩
  obtain ⟨n2, hn2⟩ : ∃ n, bs.length = n := ⟨_, rfl⟩
  obtain ⟨m2, hm2⟩ : ∃ n, bs'.length = n := ⟨_, rfl⟩
  obtain ⟨n3, hn3⟩ : ∃ n, cs.length = n := ⟨_, rfl⟩
  obtain ⟨m3, hm3⟩ : ∃ n, cs'.length = n := ⟨_, rfl⟩
  obtain ⟨n4, hn4⟩ : ∃ n, ns.length = n := ⟨_, rfl⟩
  obtain ⟨m4, hm4⟩ : ∃ n, ns'.length = n := ⟨_, rfl⟩
  rw [hn1, hn2, hn3, hn4] at hW0 x0
  rw [hm1, hm2, hm3, hm4] at hW0 x1
  rw [hn1] at e1
  rw [hm1] at d1
  rw [hn1, hm1] at C1
  rw [hn2] at e2
  rw [hm2] at d2
  rw [hn2, hm2] at C2
  rw [hn3] at e3
  rw [hm3] at d3
  rw [hn3, hm3] at C3
  rw [hn4] at e4
  rw [hm4] at d4
  rw [hn4, hm4] at C4
  rw [hn1, hn2, hn3, hn4, hm1, hm2, hm3, hm4]
  unfold sameB
  dsimp only
  generalize decide (us = us') = t1 at *
  generalize decide (bs = bs') = t2 at *
  generalize decide (cs = cs') = t3 at *
  generalize decide (ns = ns') = t4 at *
  have H := Lib.hid (And.intro b0 (And.intro x0 x1))
  have HW := Lib.hid hW0
  have HC1 := Lib.hid C1
  have HC2 := Lib.hid C2
  have HC3 := Lib.hid C3
  have HC4 := Lib.hid C4
  clear b0 x0 x1 hW0 C1 C2 C3 C4 i1 i2 i3 i4 j1 j2 j3 j4 hn1 hn2 hn3 hn4 hm1 hm2 hm3 hm4
  unfold i64 at hp hp'
  by_cases he : px = qx
  case neg =>
    have hq : (px == qx) = false := by simpa using he
    have hd : decide (px = qx) = false := by simpa using he
    rw [hd]
    clear he hd
    go_enter Try.func16, Try.ntmps16
    go_wp2_with fail
    rw [HW.out]
    go_ret
    exact ⟨rfl, H.out.1⟩
  have hq : (px == qx) = true := by simpa using he
  have hd : decide (px = qx) = true := by simpa using he
  rw [hd]
  clear he hd
  go_enter Try.func16, Try.ntmps16
  go_wp2_with fail
  rw [HW.out]
  refine (HC1.out W0 (Below.refl _ _)).mono ?_
  rintro r w1 ⟨rfl, hb1⟩
  have HB1 := Lib.hid hb1
  clear hb1
  cases t1
  case false =>
    go_wp2_with fail
    go_ret
    exact ⟨rfl, H.out.1.trans (HB1.out.mono H.out.1.size)⟩
  have y1 := (H.out.2.1.on HB1.out).cell 2
  have z1 := (H.out.2.2.on HB1.out).cell 2
  simp at y1 z1
  go_wp2_with fail
  refine (HC2.out w1 HB1.out).mono ?_
  rintro r w2 ⟨rfl, hb2⟩
  have HB2 := Lib.hid (HB1.out.trans (hb2.mono HB1.out.size))
  clear hb2 y1 z1
  cases t2
  case false =>
    go_wp2_with fail
    go_ret
    exact ⟨rfl, H.out.1.trans (HB2.out.mono H.out.1.size)⟩
  have y2 := (H.out.2.1.on HB2.out).cell 3
  have z2 := (H.out.2.2.on HB2.out).cell 3
  simp at y2 z2
  go_wp2_with fail
  refine (HC3.out w2 HB2.out).mono ?_
  rintro r w3 ⟨rfl, hb3⟩
  have HB3 := Lib.hid (HB2.out.trans (hb3.mono HB2.out.size))
  clear hb3 y2 z2
  cases t3
  case false =>
    go_wp2_with fail
    go_ret
    exact ⟨rfl, H.out.1.trans (HB3.out.mono H.out.1.size)⟩
  have y3 := (H.out.2.1.on HB3.out).cell 4
  have z3 := (H.out.2.2.on HB3.out).cell 4
  simp at y3 z3
  go_wp2_with fail
  refine (HC4.out w3 HB3.out).mono ?_
  rintro r w4 ⟨rfl, hb4⟩
  have HB4 := Lib.hid (HB3.out.trans (hb4.mono HB3.out.size))
  clear hb4 y3 z3
  cases t4
  case false =>
    go_wp2_with fail
    go_ret
    exact ⟨rfl, H.out.1.trans (HB4.out.mono H.out.1.size)⟩
  go_wp2_with fail
  go_ret
  exact ⟨rfl, H.out.1.trans (HB4.out.mono H.out.1.size)⟩
set_option maxHeartbeats 4000000 in
set_option maxRecDepth 100000 in
theorem pkIs_any {p q : Pk} {v v' : Value} {w : World} (h : PkV w p v) (h' : PkV w q v') :
    Calls Try.prog 12 #[v, v'] w fun r w' => r = .returned (.bool (sameB p q)) ∧ Below w.heap.size w w' := by
  obtain ⟨hp, A1, c1, A2, c2, A3, c3, A4, c4, rfl, i1, i2, i3, i4⟩ := h
  obtain ⟨hp', A1', c1', A2', c2', A3', c3', A4', c4', rfl, j1, j2, j3, j4⟩ := h'
  obtain ⟨px, us, bs, cs, ns⟩ := p
  obtain ⟨qx, us', bs', cs', ns'⟩ := q
  dsimp only at *
  obtain ⟨W0, hW0⟩ : ∃ W, (w.alloc (.cells #[.int .i64 px, .slice A1 us.length c1, .slice A2 bs.length c2, .slice A3 cs.length c3, .slice A4 ns.length c4] 32)).alloc (.cells #[.int .i64 qx, .slice A1' us'.length c1', .slice A2' bs'.length c2', .slice A3' cs'.length c3', .slice A4' ns'.length c4'] 34) = W := ⟨_, rfl⟩
  have b0 : Below w.heap.size w W0 := by rw [← hW0]; exact (below_new w _).trans ((below_new _ _).mono (by simp))
  have x0 : Cells W0 w.heap.size 32 #[.int .i64 px, .slice A1 us.length c1, .slice A2 bs.length c2, .slice A3 cs.length c3, .slice A4 ns.length c4] := by rw [← hW0]; exact ((below_new _ _).block _ (by simp)).trans (cells_new _ _ _)
  have x1 : Cells W0 (w.heap.size + 1) 34 #[.int .i64 qx, .slice A1' us'.length c1', .slice A2' bs'.length c2', .slice A3' cs'.length c3', .slice A4' ns'.length c4'] := by
    rw [← hW0]
    have := cells_new (w.alloc (.cells #[.int .i64 px, .slice A1 us.length c1, .slice A2 bs.length c2, .slice A3 cs.length c3, .slice A4 ns.length c4] 32)) #[.int .i64 qx, .slice A1' us'.length c1', .slice A2' bs'.length c2', .slice A3' cs'.length c3', .slice A4' ns'.length c4'] 34
    simpa using this
  have C1 := fun w' (hb : Below W0.heap.size W0 w') => same17_any us us' A1 A1' c1 c1' w' ((i1.on b0).on hb) ((j1.on b0).on hb)
  have C2 := fun w' (hb : Below W0.heap.size W0 w') => same17_any bs bs' A2 A2' c2 c2' w' ((i2.on b0).on hb) ((j2.on b0).on hb)
  have C3 := fun w' (hb : Below W0.heap.size W0 w') => same17_any cs cs' A3 A3' c3 c3' w' ((i3.on b0).on hb) ((j3.on b0).on hb)
  have C4 := fun w' (hb : Below W0.heap.size W0 w') => same17_any ns ns' A4 A4' c4 c4' w' ((i4.on b0).on hb) ((j4.on b0).on hb)
  have e0 := x0.cell 0
  have d0 := x1.cell 0
  have e1 := x0.cell 1
  have d1 := x1.cell 1
  have e2 := x0.cell 2
  have d2 := x1.cell 2
  have e3 := x0.cell 3
  have d3 := x1.cell 3
  have e4 := x0.cell 4
  have d4 := x1.cell 4
  simp at e0 e1 e2 e3 e4 d0 d1 d2 d3 d4
  obtain ⟨n1, hn1⟩ : ∃ n, us.length = n := ⟨_, rfl⟩
  obtain ⟨m1, hm1⟩ : ∃ n, us'.length = n := ⟨_, rfl⟩
  obtain ⟨n2, hn2⟩ : ∃ n, bs.length = n := ⟨_, rfl⟩
  obtain ⟨m2, hm2⟩ : ∃ n, bs'.length = n := ⟨_, rfl⟩
  obtain ⟨n3, hn3⟩ : ∃ n, cs.length = n := ⟨_, rfl⟩
  obtain ⟨m3, hm3⟩ : ∃ n, cs'.length = n := ⟨_, rfl⟩
  obtain ⟨n4, hn4⟩ : ∃ n, ns.length = n := ⟨_, rfl⟩
  obtain ⟨m4, hm4⟩ : ∃ n, ns'.length = n := ⟨_, rfl⟩
  rw [hn1, hn2, hn3, hn4] at hW0 x0
  rw [hm1, hm2, hm3, hm4] at hW0 x1
  rw [hn1] at e1
  rw [hm1] at d1
  rw [hn1, hm1] at C1
  rw [hn2] at e2
  rw [hm2] at d2
  rw [hn2, hm2] at C2
  rw [hn3] at e3
  rw [hm3] at d3
  rw [hn3, hm3] at C3
  rw [hn4] at e4
  rw [hm4] at d4
  rw [hn4, hm4] at C4
  rw [hn1, hn2, hn3, hn4, hm1, hm2, hm3, hm4]
  unfold sameB
  dsimp only
  generalize decide (us = us') = t1 at *
  generalize decide (bs = bs') = t2 at *
  generalize decide (cs = cs') = t3 at *
  generalize decide (ns = ns') = t4 at *
  have H := Lib.hid (And.intro b0 (And.intro x0 x1))
  have HW := Lib.hid hW0
  have HC1 := Lib.hid C1
  have HC2 := Lib.hid C2
  have HC3 := Lib.hid C3
  have HC4 := Lib.hid C4
  clear b0 x0 x1 hW0 C1 C2 C3 C4 i1 i2 i3 i4 j1 j2 j3 j4 hn1 hn2 hn3 hn4 hm1 hm2 hm3 hm4
  unfold i64 at hp hp'
  by_cases he : px = qx
  case neg =>
    have hq : (px == qx) = false := by simpa using he
    have hd : decide (px = qx) = false := by simpa using he
    rw [hd]
    clear he hd
    go_enter Try.func12, Try.ntmps12
    go_wp2_with fail
    rw [HW.out]
    go_ret
    exact ⟨rfl, H.out.1⟩
  have hq : (px == qx) = true := by simpa using he
  have hd : decide (px = qx) = true := by simpa using he
  rw [hd]
  clear he hd
  go_enter Try.func12, Try.ntmps12
  go_wp2_with fail
  rw [HW.out]
  refine (HC1.out W0 (Below.refl _ _)).mono ?_
  rintro r w1 ⟨rfl, hb1⟩
  have HB1 := Lib.hid hb1
  clear hb1
  cases t1
  case false =>
    go_wp2_with fail
    go_ret
    exact ⟨rfl, H.out.1.trans (HB1.out.mono H.out.1.size)⟩
  have y1 := (H.out.2.1.on HB1.out).cell 2
  have z1 := (H.out.2.2.on HB1.out).cell 2
  simp at y1 z1
  go_wp2_with fail
  refine (HC2.out w1 HB1.out).mono ?_
  rintro r w2 ⟨rfl, hb2⟩
  have HB2 := Lib.hid (HB1.out.trans (hb2.mono HB1.out.size))
  clear hb2 y1 z1
  cases t2
  case false =>
    go_wp2_with fail
    go_ret
    exact ⟨rfl, H.out.1.trans (HB2.out.mono H.out.1.size)⟩
  have y2 := (H.out.2.1.on HB2.out).cell 3
  have z2 := (H.out.2.2.on HB2.out).cell 3
  simp at y2 z2
  go_wp2_with fail
  refine (HC3.out w2 HB2.out).mono ?_
  rintro r w3 ⟨rfl, hb3⟩
  have HB3 := Lib.hid (HB2.out.trans (hb3.mono HB2.out.size))
  clear hb3 y2 z2
  cases t3
  case false =>
    go_wp2_with fail
    go_ret
    exact ⟨rfl, H.out.1.trans (HB3.out.mono H.out.1.size)⟩
  have y3 := (H.out.2.1.on HB3.out).cell 4
  have z3 := (H.out.2.2.on HB3.out).cell 4
  simp at y3 z3
  go_wp2_with fail
  refine (HC4.out w3 HB3.out).mono ?_
  rintro r w4 ⟨rfl, hb4⟩
  have HB4 := Lib.hid (HB3.out.trans (hb4.mono HB3.out.size))
  clear hb4 y3 z3
  cases t4
  case false =>
    go_wp2_with fail
    go_ret
    exact ⟨rfl, H.out.1.trans (HB4.out.mono H.out.1.size)⟩
  go_wp2_with fail
  go_ret
  exact ⟨rfl, H.out.1.trans (HB4.out.mono H.out.1.size)⟩
end Go.Proofs.Ytadipgkgllcicaa
