/-
  The walk of PackGets.
-/
import Derived.Test.YtadipgkgllcicaaSme
namespace Go.Proofs.Ytadipgkgllcicaa
open Go.RowKit Go.Shelf Go.Lib Go.Maps Go.Sort

theorem rowsR_len (p : Pk) : (rowsR p).length = p.us.length := by simp [rowsR]
theorem rowsR_row {p : Pk} {i : Nat} {r : List Int} (h : (rowsR p)[i]? = some r) : i < p.us.length ∧ r.length = p.w.toNat ∧ ∀ c x, r[c]? = some x → c < p.w.toNat ∧ x = getR p i c := by
  have hi : i < p.us.length := by have := (List.getElem?_eq_some_iff.1 h).1; rw [rowsR_len] at this; exact this
  unfold rowsR at h
  rw [List.getElem?_map, List.getElem?_range hi] at h
  simp only [Option.map_some, Option.some.injEq] at h
  subst h
  refine ⟨hi, by simp, fun c x hx => ?_⟩
  have hc : c < p.w.toNat := by have := (List.getElem?_eq_some_iff.1 hx).1; simpa using this
  rw [List.getElem?_map, List.getElem?_range hc] at hx
  simp only [Option.map_some, Option.some.injEq] at hx
  exact ⟨hc, hx.symm⟩
set_option maxHeartbeats 8000000 in
set_option maxRecDepth 100000 in
theorem getsLaw_any {p : Pk} {v : Value} {w : World} (h : PkV w p v) (a b : Int) (ha : i64 a) (hb : i64 b) :
    Calls Try.prog 5 #[v, .int .i64 a, .int .i64 b] w fun r w' => r = .returned (.bool true) ∧ Below w.heap.size w w' := by
  obtain ⟨px, A1, n1, c1, A2, n2, c2, A3, n3, c3, A4, n4, c4, rfl, k0, k1, -, -, -⟩ := pk_lens h
  have hn1 : n1 ≤ 9223372036854775807 := by
    obtain ⟨_, B1, d1, _, _, _, _, _, _, e, i1, _⟩ := h
    have := i1.l; have := i1.m; unfold maxLen at this; omega
  have hpx : i64 px := by rw [k0]; exact h.1
  obtain ⟨W0, hW0⟩ : ∃ W, w.alloc (.cells #[Value.int .i64 px, .slice A1 n1 c1, .slice A2 n2 c2, .slice A3 n3 c3, .slice A4 n4 c4] 34) = W := ⟨_, rfl⟩
  have b0 : Below w.heap.size w W0 := by rw [← hW0]; exact below_new w _
  have x0 : Cells W0 w.heap.size 34 #[Value.int .i64 px, .slice A1 n1 c1, .slice A2 n2 c2, .slice A3 n3 c3, .slice A4 n4 c4] := by rw [← hW0]; exact cells_new _ _ _
  have C1 := huge_any (h.on b0)
  have H := Lib.hid (And.intro b0 (And.intro x0 (And.intro h (And.intro k0 (And.intro k1 (And.intro ha hb))))))
  have HW := Lib.hid hW0
  have HC1 := Lib.hid C1
  clear b0 x0 hW0 h C1 k0 k1
  unfold i64 at ha hb hpx
  cases hg : hugeB p with
  | true =>
    rw [hg] at HC1
    clear hg
    go_enter Try.func5, Try.ntmps5
    go_wp2_with fail
    rw [HW.out]
    refine HC1.out.mono ?_
    rintro r w2 ⟨rfl, hb2⟩
    have C := Lib.hid (awake_any w2)
    have HB := Lib.hid (H.out.1.trans (hb2.mono H.out.1.size))
    clear hb2
    go_wp2_with fail
    refine C.out.mono ?_
    rintro r w3 ⟨rfl, hb3⟩
    have HB3 := Lib.hid (HB.out.trans (hb3.mono HB.out.size))
    clear hb3
    go_wp2_with fail
    go_ret
    exact ⟨rfl, HB3.out⟩
  | false =>
    rw [hg] at HC1
    clear hg
    go_enter Try.func5, Try.ntmps5
    go_wp2_with fail
    rw [HW.out]
    refine HC1.out.mono ?_
    rintro r w2 ⟨rfl, hb2⟩
    have C := Lib.hid (awake_any w2)
    have HB := Lib.hid (And.intro (H.out.1.trans (hb2.mono H.out.1.size)) (H.out.2.1.on hb2))
    clear hb2
    go_wp2_with fail
    refine C.out.mono ?_
    rintro r w3 ⟨rfl, hb3⟩
    have bw := HB.out.1.trans (hb3.mono HB.out.1.size)
    have y := HB.out.2.on hb3
    have g0 := y.cell 0
    have g1 := y.cell 1
    have g2 := y.cell 2
    have g3 := y.cell 3
    have g4 := y.cell 4
    simp at g0 g1 g2 g3 g4
    have CT := Lib.hid (to_any (H.out.2.2.1.on bw))
    have HB3 := Lib.hid (And.intro bw y)
    clear bw y hb3
    go_wp2_with fail
    refine CT.out.mono ?_
    rintro r w4 ⟨rfl, hb4⟩
    obtain ⟨W5, hW5⟩ : ∃ W, w4.alloc (.cells #[Value.int .i64 px, .slice A1 n1 c1, .slice A2 n2 c2, .slice A3 n3 c3, .slice A4 n4 c4] 27) = W := ⟨_, rfl⟩
    have b5 : Below w4.heap.size w4 W5 := by rw [← hW5]; exact below_new _ _
    have x5 : Cells W5 w4.heap.size 27 #[Value.int .i64 px, .slice A1 n1 c1, .slice A2 n2 c2, .slice A3 n3 c3, .slice A4 n4 c4] := by rw [← hW5]; exact cells_new _ _ _
    have B5 := (HB3.out.1.trans (hb4.mono HB3.out.1.size)).trans (b5.mono ((HB3.out.1.trans (hb4.mono HB3.out.1.size)).size))
    have y5 := (HB3.out.2.on hb4).on b5
    have CG := get_any (H.out.2.2.1.on B5) a b H.out.2.2.2.2.2.1 H.out.2.2.2.2.2.2
    obtain ⟨ge, hge⟩ : ∃ x, getX p a b = x := ⟨_, rfl⟩
    rw [hge] at CG
    have H5 := Lib.hid (And.intro B5 (And.intro y5 (And.intro x5 hge)))
    have HW5 := Lib.hid hW5
    have HCG := Lib.hid CG
    clear b5 x5 B5 y5 hge hW5 CG hb4 g0 g1 g2 g3 g4
    go_wp2_with fail
    rw [HW5.out]
    refine HCG.out.mono ?_
    rintro r w6 ⟨rfl, hb6⟩
    have B6 := H5.out.1.trans (hb6.mono H5.out.1.size)
    have y6 := H5.out.2.1.on hb6
    have x6 := H5.out.2.2.1.on hb6
    have CR := rows_any (H.out.2.2.1.on B6)
    have q0 := x6.cell 0
    have q1 := x6.cell 1
    have q2 := x6.cell 2
    have q3 := x6.cell 3
    have q4 := x6.cell 4
    simp at q0 q1 q2 q3 q4
    have H6 := Lib.hid (And.intro B6 (And.intro y6 x6))
    have HCR := Lib.hid CR
    clear B6 y6 x6 CR hb6
    go_wp2_with fail
    refine HCR.out.mono ?_
    rintro r w7 ⟨hb7, hrows⟩
    have B7 := H6.out.1.trans (hb7.mono H6.out.1.size)
    have y7 := H6.out.2.1.on hb7
    have x7 := H6.out.2.2.on hb7
    have CM := may_any (H.out.2.2.1.on B7)
    have r0 := y7.cell 0
    have r1 := y7.cell 1
    have r2 := y7.cell 2
    have r3 := y7.cell 3
    have r4 := y7.cell 4
    simp at r0 r1 r2 r3 r4
    have H7 := Lib.hid (And.intro B7 (And.intro y7 x7))
    obtain ⟨ok, hok⟩ : ∃ x, okPk p = x := ⟨_, rfl⟩
    rw [hok] at CM
    have HCM := Lib.hid CM
    clear B7 y7 x7 CM hb7 q0 q1 q2 q3 q4
    rcases hrows with ⟨hok', A, cap, rfl, hR⟩ | ⟨hok', rfl⟩
    case inr =>
      obtain rfl : ok = false := hok.symm.trans hok'
      have hge0 : ge = (0, false) := by
        rw [← H5.out.2.2.2]
        unfold getX
        rw [hok']
        simp
      subst hge0
      have HO := Lib.hid hok
      clear hok hok'
      go_wp2_with fail
      refine HCM.out.mono ?_
      rintro r w8 ⟨rfl, hb8⟩
      have B8 := H7.out.1.trans (hb8.mono H7.out.1.size)
      have x8 := H7.out.2.2.on hb8
      have CX := right_any (H.out.2.2.1.on B8)
      rw [HO.out] at CX
      have q0 := x8.cell 0
      have q1 := x8.cell 1
      have q2 := x8.cell 2
      have q3 := x8.cell 3
      have q4 := x8.cell 4
      simp at q0 q1 q2 q3 q4
      have HB8 := Lib.hid B8
      have HCX := Lib.hid CX
      clear B8 x8 CX hb8 r0 r1 r2 r3 r4
      go_wp2_with fail
      refine HCX.out.mono ?_
      rintro r w9 ⟨rfl, hb9⟩
      have HB9 := Lib.hid (HB8.out.trans (hb9.mono HB8.out.size))
      clear hb9
      go_wp2_with fail
      go_ret
      exact ⟨rfl, HB9.out⟩
    case inl =>
      obtain rfl : ok = true := hok.symm.trans hok'
      have HO := Lib.hid (And.intro hok (okPk_iff.1 hok'))
      have HR := Lib.hid hR
      obtain ⟨NR, hNR⟩ : ∃ n, (rowsR p).length = n := ⟨_, rfl⟩
      have hNn : NR = n1 := by rw [← hNR, rowsR_len]; exact H.out.2.2.2.2.1.symm
      subst hNn
      rw [hNR]
      have HNR := Lib.hid hNR
      clear hok hok' hR hNR
      go_wp2_with fail
      refine HCM.out.mono ?_
      rintro r w8 ⟨rfl, hb8⟩
      have B8 := H7.out.1.trans (hb8.mono H7.out.1.size)
      have y8 := H7.out.2.1.on hb8
      have x8 := H7.out.2.2.on hb8
      have CX := right_any (H.out.2.2.1.on B8)
      rw [HO.out.1] at CX
      have q0 := x8.cell 0
      have q1 := x8.cell 1
      have q2 := x8.cell 2
      have q3 := x8.cell 3
      have q4 := x8.cell 4
      simp at q0 q1 q2 q3 q4
      have H8 := Lib.hid (And.intro B8 (And.intro y8 hb8))
      have HCX := Lib.hid CX
      clear B8 x8 y8 CX hb8 r0 r1 r2 r3 r4
      go_wp2_with fail
      refine HCX.out.mono ?_
      rintro r w9 ⟨rfl, hb9⟩
      have B9 := H8.out.1.trans (hb9.mono H8.out.1.size)
      have y9 := H8.out.2.1.on hb9
      have R9 := HR.out.on (H8.out.2.2.trans (hb9.mono H8.out.2.2.size))
      have r0 := y9.cell 0
      have r1 := y9.cell 1
      have r2 := y9.cell 2
      have r3 := y9.cell 3
      have r4 := y9.cell 4
      simp at r0 r1 r2 r3 r4
      have H9 := Lib.hid (And.intro B9 (And.intro y9 R9))
      clear B9 y9 R9 hb9 q0 q1 q2 q3 q4
      have hq : ((NR : Int) == (NR : Int)) = true := by simp
      go_wp2_with fail
      have hokp := HO.out.2
      have w1 := hokp.w1
      have w2' := hokp.w2
      rw [← H.out.2.2.2.1] at w1 w2'
      obtain ⟨W, rfl⟩ := Int.eq_ofNat_of_zero_le (show 0 ≤ px by omega)
      have hWp : p.w.toNat = W := by rw [← H.out.2.2.2.1]; simp
      have hW64 : W ≤ 64 := by omega
      have HWp := Lib.hid (And.intro hWp hokp)
      clear hWp hokp r0 r1 r2 r3 r4
      go_loopw [12, 13] (fun i _ wr => ∃ k : Nat, i = .int .i64 (k : Int) ∧ k ≤ NR ∧ Below w.heap.size w wr ∧ Cells wr w.heap.size 34 #[Value.int .i64 (W : Int), .slice A1 NR c1, .slice A2 n2 c2, .slice A3 n3 c3, .slice A4 n4 c4] ∧ RsAt wr wr.heap.size (rowsR p) A cap) (fun i _ _ => NR - (RowKit.intOf i).toNat)
      case atStart => exact ⟨0, rfl, by omega, H9.out.1, H9.out.2.1, H9.out.2.2⟩
      case round =>
        obtain ⟨wo, rfl⟩ : ∃ wo : World, wo = wr := ⟨_, rfl⟩
        obtain ⟨i, rfl, hi, hbi, hyi, hRi⟩ := hrel
        by_cases hlt : i < NR
        · have j1 : (i : Int) < (NR : Int) := by omega
          obtain ⟨r, hr⟩ : ∃ r, (rowsR p)[i]? = some r := ⟨(rowsR p)[i]'(by rw [HNR.out]; exact hlt), List.getElem?_eq_getElem _⟩
          obtain ⟨hi2, hrl, hrx⟩ := rowsR_row hr
          rw [HWp.out.1] at hrl hrx
          obtain ⟨bA, oA, rfl, hblA, hcA⟩ := hRi.r (by rintro e; rw [e] at hr; simp at hr)
          obtain ⟨A', c', dr, hIr, _⟩ := hcA i r hr
          rw [hrl] at dr
          have dp := hyi.cell 0
          simp at dp
          have hq : ((W : Int) == (W : Int)) = true := by simp
          have zS := hyi.lt
          have HI := Lib.hid (And.intro hbi (And.intro hyi (And.intro hRi (And.intro hr (And.intro hrl (And.intro hrx hIr))))))
          have HLT := Lib.hid hi2
          clear hbi hyi hRi hr hrl hrx hcA hIr hi2
          go_wp2_with fail
          go_region
          go_wp2_with fail
          go_loopw [13] (fun t wr => ∃ j : Nat, t = .int .i64 (j : Int) ∧ j ≤ W ∧ Below wo.heap.size wo wr) (fun t _ => W - (RowKit.intOf t).toNat)
          case atStart => exact ⟨0, rfl, by omega, (Below.refl _ _).drew⟩
          case round =>
            obtain ⟨j, rfl, hj, hbj⟩ := hrel
            have yj := HI.out.2.1.on hbj
            by_cases hlt2 : j < W
            · have j2 : (j : Int) < (W : Int) := by omega
              obtain ⟨x, hx⟩ := list_at (xs := r) (i := j) (by rw [HI.out.2.2.2.2.1]; exact hlt2)
              obtain ⟨_, hxe⟩ := HI.out.2.2.2.2.2.1 j x hx
              subst hxe
              have Rj := HI.out.2.2.1.on hbj
              obtain ⟨bA2, oA2, eA2, hblA2, hcA2⟩ := Rj.r (by intro e; have := HI.out.2.2.2.1; rw [e] at this; simp at this)
              injection eA2 with eA2
              injection eA2 with eA2 eA3
              subst eA2; subst eA3
              have drj := (hbj.cell (p := ⟨bA, oA + i, none⟩) (by have := HI.out.2.2.1; exact hblA)).trans dr
              obtain ⟨bR, oR, rfl, hblR, hcR⟩ := HI.out.2.2.2.2.2.2.r (by rintro rfl; simp at hx)
              have dx := (hbj.cell (p := ⟨bR, oR + j, none⟩) hblR).trans (hcR j _ hx)
              have e0 := yj.cell 0
              have e1 := yj.cell 1
              have e2 := yj.cell 2
              have e3 := yj.cell 3
              have e4 := yj.cell 4
              simp at e0 e1 e2 e3 e4
              have q1 := cell_regrown drj
              have q2 := cell_regrown dx
              have q3 := cell_regrown e0
              have q4 := cell_regrown e1
              have q5 := cell_regrown e2
              have q6 := cell_regrown e3
              have q7 := cell_regrown e4
              have t1 := H.out.2.2.1.on (HI.out.1.trans (hbj.mono HI.out.1.size))
              have D1 : ∀ d os, Calls Try.prog 22 #[Value.agg #[.int .i64 (W : Int), .slice A1 NR c1, .slice A2 n2 c2, .slice A3 n3 c3, .slice A4 n4 c4], .int .i64 (i : Int), .int .i64 (j : Int)] (grow (redrawn wr d) os) fun e w'' => e = .returned (.int .i64 (getR p i j)) ∧ ∃ p : Regrown, w'' = grow (redrawn wr p.d) p.os := fun d os => Calls.regrown_of (refGet_any (t1.on (below_regrown wr d os)) HWp.out.2 i j HLT.out (by omega))
              have hpp : (getR p i j == getR p i j) = true := by simp
              have HJ := Lib.hid hbj
              generalize getR p i j = G at *
              clear hbj yj Rj hcA2 hx hcR drj dx e1 e2 e3 e4 t1 hblR hblA2
              go_wp2_with fail
              refine wp_region_quiet_below (by kernel_rfl) (by kernel_rfl) ?_
              repeat (go_big_quiet_step (first | (with_reducible exact D1 _ _)))
              refine wpQuiet_nil ?_
              intro _ hw'
              obtain ⟨⟨dq, osq⟩, hw''⟩ := hw'
              subst hw''
              have HB5 := Lib.hid (HJ.out.trans ((below_regrown wr dq osq).mono HJ.out.size))
              clear q1 q2 q3 q4 q5 q6 q7 D1
              go_wp2_with fail
              go_roundw
              case rel => exact ⟨j + 1, by go_num, by omega, HB5.out⟩
              case measure => simp [RowKit.intOf]; omega
            · obtain rfl : j = W := by omega
              have j2 : ¬ (j : Int) < (j : Int) := by omega
              have e0 := yj.cell 0
              simp at e0
              have HJ := Lib.hid hbj
              clear hbj yj
              go_wp2_with fail
              go_roundw
              case rel => exact ⟨i + 1, by go_num, by omega, HI.out.1.trans (HJ.out.mono HI.out.1.size), HI.out.2.1.on HJ.out, HI.out.2.2.1.on HJ.out⟩
              case measure => simp [RowKit.intOf]; omega
        · obtain rfl : i = NR := by omega
          have j1 : ¬ (i : Int) < (i : Int) := by omega
          have e0 := hyi.cell 0
          have e1 := hyi.cell 1
          have e2 := hyi.cell 2
          have e3 := hyi.cell 3
          have e4 := hyi.cell 4
          simp at e0 e1 e2 e3 e4
          have HI := Lib.hid hbi
          have zS := hyi.lt
          have hgx := H5.out.2.2.2
          unfold getX thereB at hgx
          rw [HO.out.1, ← H.out.2.2.2.2.1, ← H.out.2.2.2.1] at hgx
          have CGf := fun (x y : Nat) (hx : x < i) (hy : y < 64) => refGet_any (H.out.2.2.1.on hbi) HWp.out.2 x y (by rw [← H.out.2.2.2.2.1]; exact hx) hy
          have HGX := Lib.hid hgx
          have HCGf := Lib.hid CGf
          clear hbi hyi hRi hgx CGf
          by_cases p1 : a < 0
          · obtain rfl : ge = (0, false) := by rw [← HGX.out]; simp; omega
            go_wp2_with fail
            go_ret
            exact ⟨rfl, HI.out⟩
          by_cases p2 : (i : Int) ≤ a
          · obtain rfl : ge = (0, false) := by rw [← HGX.out]; simp; omega
            go_wp2_with fail
            go_ret
            exact ⟨rfl, HI.out⟩
          by_cases p3 : b < 0
          · obtain rfl : ge = (0, false) := by rw [← HGX.out]; simp; omega
            go_wp2_with fail
            go_ret
            exact ⟨rfl, HI.out⟩
          by_cases p4 : (W : Int) ≤ b
          · obtain rfl : ge = (0, false) := by rw [← HGX.out]; simp; omega
            go_wp2_with fail
            go_ret
            exact ⟨rfl, HI.out⟩
          obtain ⟨x, rfl⟩ := Int.eq_ofNat_of_zero_le (show 0 ≤ a by omega)
          obtain ⟨y, rfl⟩ := Int.eq_ofNat_of_zero_le (show 0 ≤ b by omega)
          obtain rfl : ge = (getR p x y, true) := by
            rw [← HGX.out, if_pos (by simp; omega)]
            simp
          have CG2 := HCGf.out x y (by omega) (by omega)
          have hpp : (getR p x y == getR p x y) = true := by simp
          have HC2 := Lib.hid CG2
          clear CG2
          go_wp2_with fail
          refine HC2.out.mono ?_
          rintro r w10 ⟨rfl, hb10⟩
          have HB10 := Lib.hid (HI.out.trans (hb10.mono HI.out.size))
          clear hb10
          go_wp2_with fail
          go_ret
          exact ⟨rfl, HB10.out⟩
end Go.Proofs.Ytadipgkgllcicaa
