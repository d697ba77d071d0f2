/-
  Contracts: pack.Right; the document's May.
-/
import Derived.Test.YtadipgkgllcicaaAri
namespace Go.Proofs.Ytadipgkgllcicaa
open Go.RowKit Go.Shelf Go.Lib Go.Maps

theorem refInB_any (lo hi : Int) (xs : List Int) (A' : Option Addr) (c' : Nat) (w : World) (hx : IS w w.heap.size xs A' c') :
    Calls Try.prog 30 #[.slice A' xs.length c', .int .i64 lo, .int .i64 hi] w fun r w' => r = .returned (.bool (inB lo hi xs)) ∧ Below w.heap.size w w' :=
  (refIn_any lo hi xs A' c' w hx).mono fun _r _w' h => ⟨h.1, h.2 ▸ Below.refl _ _⟩
def okPk (p : Pk) : Bool := widthB p.w && (decide (p.us.length ≤ 1000) && (decide (p.bs.length = p.us.length) && (decide (p.cs.length ≤ 65599) && (decide (p.ns.length = p.cs.length) && (inB 0 65535 p.us && (inB 0 65535 p.bs && (inB 0 65535 p.ns && inB (-1) ((p.us.length : Int) - 1) p.cs)))))))
set_option maxHeartbeats 4000000 in
set_option maxRecDepth 100000 in
theorem right_any {p : Pk} {v : Value} {w : World} (h : PkV w p v) : Calls Try.prog 14 #[v] w fun r w' => r = .returned (.bool (okPk p)) ∧ Below w.heap.size w w' := by
  obtain ⟨hp, A1, c1, A2, c2, A3, c3, A4, c4, rfl, i1, i2, i3, i4⟩ := h
  obtain ⟨px, us, bs, cs, ns⟩ := p
  dsimp only at *
  obtain ⟨W0, hW0⟩ : ∃ W, w.alloc (.cells #[.int .i64 px, .slice A1 us.length c1, .slice A2 bs.length c2, .slice A3 cs.length c3, .slice A4 ns.length c4] 27) = W := ⟨_, rfl⟩
  have b0 : Below w.heap.size w W0 := by rw [← hW0]; exact below_new w _
  have x0 : Cells W0 w.heap.size 27 #[.int .i64 px, .slice A1 us.length c1, .slice A2 bs.length c2, .slice A3 cs.length c3, .slice A4 ns.length c4] := by rw [← hW0]; exact cells_new _ _ _
  have m1 : us.length ≤ 9223372036854775807 := by have := i1.l; have := i1.m; unfold maxLen at this; omega
  have m2 : bs.length ≤ 9223372036854775807 := by have := i2.l; have := i2.m; unfold maxLen at this; omega
  have m3 : cs.length ≤ 9223372036854775807 := by have := i3.l; have := i3.m; unfold maxLen at this; omega
  have m4 : ns.length ≤ 9223372036854775807 := by have := i4.l; have := i4.m; unfold maxLen at this; omega
  have C1 := fun w' (hb : Below W0.heap.size W0 w') => within_any 0 65535 us A1 c1 w' ((i1.on b0).on hb)
  have C2 := fun w' (hb : Below W0.heap.size W0 w') => within_any 0 65535 bs A2 c2 w' ((i2.on b0).on hb)
  have C3 := fun w' (hb : Below W0.heap.size W0 w') => within_any (-1) ((us.length : Int) - 1) cs A3 c3 w' ((i3.on b0).on hb)
  have C4 := fun w' (hb : Below W0.heap.size W0 w') => within_any 0 65535 ns A4 c4 w' ((i4.on b0).on hb)
  have e0 := x0.cell 0
  have e1 := x0.cell 1
  have e2 := x0.cell 2
  have e3 := x0.cell 3
  have e4 := x0.cell 4
  simp at e0 e1 e2 e3 e4
  unfold okPk
  dsimp only
  generalize inB 0 65535 us = t1 at *
  generalize inB 0 65535 bs = t2 at *
  generalize inB (-1) ((us.length : Int) - 1) cs = t3 at *
  generalize inB 0 65535 ns = t4 at *
  obtain ⟨n1, hn1⟩ : ∃ n, us.length = n := ⟨_, rfl⟩
  obtain ⟨n2, hn2⟩ : ∃ n, bs.length = n := ⟨_, rfl⟩
  obtain ⟨n3, hn3⟩ : ∃ n, cs.length = n := ⟨_, rfl⟩
  obtain ⟨n4, hn4⟩ : ∃ n, ns.length = n := ⟨_, rfl⟩
  rw [hn1, hn2, hn3, hn4] at hW0 x0
  rw [hn1] at e1 m1 C1
  rw [hn2] at e2 m2 C2
  rw [hn3] at e3 m3 C3
  rw [hn4] at e4 m4 C4
  rw [hn1] at C3
  rw [hn1, hn2, hn3, hn4]
  have H := Lib.hid (And.intro b0 x0)
  have HW := Lib.hid hW0
  have HC1 := Lib.hid C1
  have HC2 := Lib.hid C2
  have HC3 := Lib.hid C3
  have HC4 := Lib.hid C4
  clear b0 x0 hW0 C1 C2 C3 C4 i1 i2 i3 i4 hn1 hn2 hn3 hn4
  unfold i64 at hp
  generalize hT : widthB px = t0
  have HT := Lib.hid (width_any px)
  rw [hT] at HT
  clear hT
  obtain ⟨R, hR⟩ : ∃ R, (t0 && (decide (n1 ≤ 1000) && (decide (n2 = n1) && (decide (n3 ≤ 65599) && (decide (n4 = n3) && (t1 && (t2 && (t4 && t3)))))))) = R := ⟨_, rfl⟩
  rw [hR]
  have HR := Lib.hid hR
  clear hR
  go_enter Try.func14, Try.ntmps14
  go_wp2_with fail
  rw [HW.out]
  go_region
  go_wp2_with fail
  refine (HT.out W0.drew).mono ?_
  rintro r w1 ⟨rfl, e⟩
  have HB1 := Lib.hid (show Below W0.heap.size W0 w1 by rw [e]; exact (Below.refl _ _).drew)
  clear e e0 e1 e2 e3 e4
  cases t0
  case false =>
    obtain rfl : R = false := by rw [← HR.out]; simp
    go_wp2_with fail
    go_ret
    exact ⟨rfl, H.out.1.trans (HB1.out.mono H.out.1.size)⟩
  have y1 := (H.out.2.on HB1.out).cell 1
  have y2 := (H.out.2.on HB1.out).cell 2
  have y3 := (H.out.2.on HB1.out).cell 3
  have y4 := (H.out.2.on HB1.out).cell 4
  simp at y1 y2 y3 y4
  by_cases g1 : n1 ≤ 1000
  case neg =>
    have qg1 : (1000 : Int) < (n1 : Int) := by first | omega | (simp; omega)
    have HF := Lib.hid g1
    clear g1
    obtain rfl : R = false := by rw [← HR.out]; simp [HF.out]
    go_wp2_with fail
    go_ret
    exact ⟨rfl, H.out.1.trans (HB1.out.mono H.out.1.size)⟩
  have qg1 : ¬ (1000 : Int) < (n1 : Int) := by first | omega | (simp; omega)
  have Hg1 := Lib.hid g1
  clear g1
  by_cases g2 : n2 = n1
  case neg =>
    have qg2 : ((n2 : Int) == (n1 : Int)) = false := by first | omega | (simp; omega)
    have HF := Lib.hid g2
    clear g2
    obtain rfl : R = false := by rw [← HR.out]; simp [HF.out]
    go_wp2_with fail
    go_ret
    exact ⟨rfl, H.out.1.trans (HB1.out.mono H.out.1.size)⟩
  have qg2 : ((n2 : Int) == (n1 : Int)) = true := by first | omega | (simp; omega)
  have Hg2 := Lib.hid g2
  clear g2
  by_cases g3 : n3 ≤ 65599
  case neg =>
    have qg3 : (65599 : Int) < (n3 : Int) := by first | omega | (simp; omega)
    have HF := Lib.hid g3
    clear g3
    obtain rfl : R = false := by rw [← HR.out]; simp [HF.out]
    go_wp2_with fail
    go_ret
    exact ⟨rfl, H.out.1.trans (HB1.out.mono H.out.1.size)⟩
  have qg3 : ¬ (65599 : Int) < (n3 : Int) := by first | omega | (simp; omega)
  have Hg3 := Lib.hid g3
  clear g3
  by_cases g4 : n4 = n3
  case neg =>
    have qg4 : ((n4 : Int) == (n3 : Int)) = false := by first | omega | (simp; omega)
    have HF := Lib.hid g4
    clear g4
    obtain rfl : R = false := by rw [← HR.out]; simp [HF.out]
    go_wp2_with fail
    go_ret
    exact ⟨rfl, H.out.1.trans (HB1.out.mono H.out.1.size)⟩
  have qg4 : ((n4 : Int) == (n3 : Int)) = true := by first | omega | (simp; omega)
  have Hg4 := Lib.hid g4
  clear g4
  go_wp2_with fail
  refine (HC1.out w1 HB1.out).mono ?_
  rintro r w2 ⟨rfl, hb2⟩
  have HB2 := Lib.hid (HB1.out.trans (hb2.mono HB1.out.size))
  clear hb2
  cases t1
  case false =>
    obtain rfl : R = false := by rw [← HR.out]; simp
    go_wp2_with fail
    go_ret
    exact ⟨rfl, H.out.1.trans (HB2.out.mono H.out.1.size)⟩
  have y2 := (H.out.2.on HB2.out).cell 2
  simp at y2
  go_wp2_with fail
  refine (HC2.out w2 HB2.out).mono ?_
  rintro r w3 ⟨rfl, hb3⟩
  have HB3 := Lib.hid (HB2.out.trans (hb3.mono HB2.out.size))
  clear hb3
  cases t2
  case false =>
    obtain rfl : R = false := by rw [← HR.out]; simp
    go_wp2_with fail
    go_ret
    exact ⟨rfl, H.out.1.trans (HB3.out.mono H.out.1.size)⟩
  have y3 := (H.out.2.on HB3.out).cell 4
  simp at y3
  go_wp2_with fail
  refine (HC4.out w3 HB3.out).mono ?_
  rintro r w4 ⟨rfl, hb4⟩
  have HB4 := Lib.hid (HB3.out.trans (hb4.mono HB3.out.size))
  clear hb4
  cases t4
  case false =>
    obtain rfl : R = false := by rw [← HR.out]; simp
    go_wp2_with fail
    go_ret
    exact ⟨rfl, H.out.1.trans (HB4.out.mono H.out.1.size)⟩
  have y4 := (H.out.2.on HB4.out).cell 3
  simp at y4
  go_wp2_with fail
  refine (HC3.out w4 HB4.out).mono ?_
  rintro r w5 ⟨rfl, hb5⟩
  have HB5 := Lib.hid (HB4.out.trans (hb5.mono HB4.out.size))
  clear hb5
  cases t3
  case false =>
    obtain rfl : R = false := by rw [← HR.out]; simp
    go_wp2_with fail
    go_ret
    exact ⟨rfl, H.out.1.trans (HB5.out.mono H.out.1.size)⟩
  obtain rfl : R = true := by rw [← HR.out]; simp [Hg1.out, Hg2.out, Hg3.out, Hg4.out]
  go_wp2_with fail
  go_ret
  exact ⟨rfl, H.out.1.trans (HB5.out.mono H.out.1.size)⟩
set_option maxHeartbeats 4000000 in
set_option maxRecDepth 100000 in
theorem may_any {p : Pk} {v : Value} {w : World} (h : PkV w p v) : Calls Try.prog 21 #[v] w fun r w' => r = .returned (.bool (okPk p)) ∧ Below w.heap.size w w' := by
  obtain ⟨hp, A1, c1, A2, c2, A3, c3, A4, c4, rfl, i1, i2, i3, i4⟩ := h
  obtain ⟨px, us, bs, cs, ns⟩ := p
  dsimp only at *
  obtain ⟨W0, hW0⟩ : ∃ W, w.alloc (.cells #[.int .i64 px, .slice A1 us.length c1, .slice A2 bs.length c2, .slice A3 cs.length c3, .slice A4 ns.length c4] 34) = W := ⟨_, rfl⟩
  have b0 : Below w.heap.size w W0 := by rw [← hW0]; exact below_new w _
  have x0 : Cells W0 w.heap.size 34 #[.int .i64 px, .slice A1 us.length c1, .slice A2 bs.length c2, .slice A3 cs.length c3, .slice A4 ns.length c4] := by rw [← hW0]; exact cells_new _ _ _
  have m1 : us.length ≤ 9223372036854775807 := by have := i1.l; have := i1.m; unfold maxLen at this; omega
  have m2 : bs.length ≤ 9223372036854775807 := by have := i2.l; have := i2.m; unfold maxLen at this; omega
  have m3 : cs.length ≤ 9223372036854775807 := by have := i3.l; have := i3.m; unfold maxLen at this; omega
  have m4 : ns.length ≤ 9223372036854775807 := by have := i4.l; have := i4.m; unfold maxLen at this; omega
  have C1 := fun w' (hb : Below W0.heap.size W0 w') => refInB_any 0 65535 us A1 c1 w' ((i1.on b0).on hb)
  have C2 := fun w' (hb : Below W0.heap.size W0 w') => refInB_any 0 65535 bs A2 c2 w' ((i2.on b0).on hb)
  have C3 := fun w' (hb : Below W0.heap.size W0 w') => refInB_any (-1) ((us.length : Int) - 1) cs A3 c3 w' ((i3.on b0).on hb)
  have C4 := fun w' (hb : Below W0.heap.size W0 w') => refInB_any 0 65535 ns A4 c4 w' ((i4.on b0).on hb)
  have e0 := x0.cell 0
  have e1 := x0.cell 1
  have e2 := x0.cell 2
  have e3 := x0.cell 3
  have e4 := x0.cell 4
  simp at e0 e1 e2 e3 e4
  unfold okPk
  dsimp only
  generalize inB 0 65535 us = t1 at *
  generalize inB 0 65535 bs = t2 at *
  generalize inB (-1) ((us.length : Int) - 1) cs = t3 at *
  generalize inB 0 65535 ns = t4 at *
  obtain ⟨n1, hn1⟩ : ∃ n, us.length = n := ⟨_, rfl⟩
  obtain ⟨n2, hn2⟩ : ∃ n, bs.length = n := ⟨_, rfl⟩
  obtain ⟨n3, hn3⟩ : ∃ n, cs.length = n := ⟨_, rfl⟩
  obtain ⟨n4, hn4⟩ : ∃ n, ns.length = n := ⟨_, rfl⟩
  rw [hn1, hn2, hn3, hn4] at hW0 x0
  rw [hn1] at e1 m1 C1
  rw [hn2] at e2 m2 C2
  rw [hn3] at e3 m3 C3
  rw [hn4] at e4 m4 C4
  rw [hn1] at C3
  rw [hn1, hn2, hn3, hn4]
  obtain ⟨R, hR⟩ : ∃ R, (widthB px && (decide (n1 ≤ 1000) && (decide (n2 = n1) && (decide (n3 ≤ 65599) && (decide (n4 = n3) && (t1 && (t2 && (t4 && t3)))))))) = R := ⟨_, rfl⟩
  rw [hR]
  unfold widthB at hR
  have HR := Lib.hid hR
  clear hR
  have H := Lib.hid (And.intro b0 x0)
  have HW := Lib.hid hW0
  have HC1 := Lib.hid C1
  have HC2 := Lib.hid C2
  have HC3 := Lib.hid C3
  have HC4 := Lib.hid C4
  clear b0 x0 hW0 C1 C2 C3 C4 i1 i2 i3 i4 hn1 hn2 hn3 hn4
  unfold i64 at hp
  by_cases g5 : 1 ≤ px
  case neg =>
    have qg5 : ¬ 1 ≤ px := by first | omega | (simp; omega)
    have HF := Lib.hid g5
    clear g5
    obtain rfl : R = false := by rw [← HR.out]; simp [HF.out]
    go_enter Try.func21, Try.ntmps21
    go_wp2_with fail
    rw [HW.out]
    go_ret
    exact ⟨rfl, H.out.1⟩
  have qg5 : 1 ≤ px := by first | omega | (simp; omega)
  have Hg5 := Lib.hid g5
  clear g5
  by_cases g6 : px ≤ 64
  case neg =>
    have qg6 : ¬ px ≤ 64 := by first | omega | (simp; omega)
    have HF := Lib.hid g6
    clear g6
    obtain rfl : R = false := by rw [← HR.out]; simp [HF.out]
    go_enter Try.func21, Try.ntmps21
    go_wp2_with fail
    rw [HW.out]
    go_ret
    exact ⟨rfl, H.out.1⟩
  have qg6 : px ≤ 64 := by first | omega | (simp; omega)
  have Hg6 := Lib.hid g6
  clear g6
  by_cases g1 : n1 ≤ 1000
  case neg =>
    have qg1 : (1000 : Int) < (n1 : Int) := by first | omega | (simp; omega)
    have HF := Lib.hid g1
    clear g1
    obtain rfl : R = false := by rw [← HR.out]; simp [HF.out]
    go_enter Try.func21, Try.ntmps21
    go_wp2_with fail
    rw [HW.out]
    go_ret
    exact ⟨rfl, H.out.1⟩
  have qg1 : ¬ (1000 : Int) < (n1 : Int) := by first | omega | (simp; omega)
  have Hg1 := Lib.hid g1
  clear g1
  by_cases g2 : n2 = n1
  case neg =>
    have qg2 : ((n2 : Int) == (n1 : Int)) = false := by first | omega | (simp; omega)
    have HF := Lib.hid g2
    clear g2
    obtain rfl : R = false := by rw [← HR.out]; simp [HF.out]
    go_enter Try.func21, Try.ntmps21
    go_wp2_with fail
    rw [HW.out]
    go_ret
    exact ⟨rfl, H.out.1⟩
  have qg2 : ((n2 : Int) == (n1 : Int)) = true := by first | omega | (simp; omega)
  have Hg2 := Lib.hid g2
  clear g2
  by_cases g4 : n3 = n4
  case neg =>
    have qg4 : ((n3 : Int) == (n4 : Int)) = false := by first | omega | (simp; omega)
    have HF := Lib.hid g4
    clear g4
    obtain rfl : R = false := by rw [← HR.out]; simp [show ¬ n4 = n3 from fun e => HF.out e.symm]
    go_enter Try.func21, Try.ntmps21
    go_wp2_with fail
    rw [HW.out]
    go_ret
    exact ⟨rfl, H.out.1⟩
  have qg4 : ((n3 : Int) == (n4 : Int)) = true := by first | omega | (simp; omega)
  have Hg4 := Lib.hid g4.symm
  clear g4
  by_cases g3 : n3 ≤ 65599
  case neg =>
    have qg3 : (65599 : Int) < (n3 : Int) := by first | omega | (simp; omega)
    have HF := Lib.hid g3
    clear g3
    obtain rfl : R = false := by rw [← HR.out]; simp [HF.out]
    go_enter Try.func21, Try.ntmps21
    go_wp2_with fail
    rw [HW.out]
    go_ret
    exact ⟨rfl, H.out.1⟩
  have qg3 : ¬ (65599 : Int) < (n3 : Int) := by first | omega | (simp; omega)
  have Hg3 := Lib.hid g3
  clear g3
  go_enter Try.func21, Try.ntmps21
  go_wp2_with fail
  rw [HW.out]
  have HB0 := Lib.hid (Below.refl W0.heap.size W0)
  refine (HC1.out W0 HB0.out).mono ?_
  rintro r w1 ⟨rfl, hb1⟩
  have HB1 := Lib.hid (HB0.out.trans (hb1.mono HB0.out.size))
  clear hb1
  cases t1
  case false =>
    obtain rfl : R = false := by rw [← HR.out]; simp
    go_wp2_with fail
    go_ret
    exact ⟨rfl, H.out.1.trans (HB1.out.mono H.out.1.size)⟩
  have y1 := (H.out.2.on HB1.out).cell 2
  simp at y1
  go_wp2_with fail
  refine (HC2.out w1 HB1.out).mono ?_
  rintro r w2 ⟨rfl, hb2⟩
  have HB2 := Lib.hid (HB1.out.trans (hb2.mono HB1.out.size))
  clear hb2
  cases t2
  case false =>
    obtain rfl : R = false := by rw [← HR.out]; simp
    go_wp2_with fail
    go_ret
    exact ⟨rfl, H.out.1.trans (HB2.out.mono H.out.1.size)⟩
  have y2 := (H.out.2.on HB2.out).cell 4
  simp at y2
  go_wp2_with fail
  refine (HC4.out w2 HB2.out).mono ?_
  rintro r w3 ⟨rfl, hb3⟩
  have HB3 := Lib.hid (HB2.out.trans (hb3.mono HB2.out.size))
  clear hb3
  cases t4
  case false =>
    obtain rfl : R = false := by rw [← HR.out]; simp
    go_wp2_with fail
    go_ret
    exact ⟨rfl, H.out.1.trans (HB3.out.mono H.out.1.size)⟩
  have y3 := (H.out.2.on HB3.out).cell 3
  simp at y3
  go_wp2_with fail
  refine (HC3.out w3 HB3.out).mono ?_
  rintro r w4 ⟨rfl, hb4⟩
  have HB4 := Lib.hid (HB3.out.trans (hb4.mono HB3.out.size))
  clear hb4
  cases t3
  case false =>
    obtain rfl : R = false := by rw [← HR.out]; simp
    go_wp2_with fail
    go_ret
    exact ⟨rfl, H.out.1.trans (HB4.out.mono H.out.1.size)⟩
  obtain rfl : R = true := by rw [← HR.out]; simp [Hg1.out, Hg2.out, Hg3.out, Hg4.out, Hg5.out, Hg6.out]
  go_wp2_with fail
  go_ret
  exact ⟨rfl, H.out.1.trans (HB4.out.mono H.out.1.size)⟩
end Go.Proofs.Ytadipgkgllcicaa
