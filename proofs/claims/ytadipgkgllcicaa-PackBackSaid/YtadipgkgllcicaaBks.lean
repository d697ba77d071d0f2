/-
  The walk of PackBack.
-/
import Derived.Test.YtadipgkgllcicaaPko
import Derived.Test.YtadipgkgllcicaaRfr
namespace Go.Proofs.Ytadipgkgllcicaa
open Go.RowKit Go.Shelf Go.Lib Go.Maps Go.Sort

set_option maxHeartbeats 8000000 in
set_option maxRecDepth 100000 in
theorem backLaw_any (width : Int) (hw : i64 width) (R : List (List Int)) (A : Option Addr) (cap : Nat) (a b : Int) (ha : i64 a) (hb : i64 b) (w : World) (hR : RsAt w w.heap.size R A cap) :
    Calls Try.prog 4 #[.int .i64 width, .slice A R.length cap, .int .i64 a, .int .i64 b] w fun r w' => r = .returned (.bool true) ∧ Below w.heap.size w w' := by
  have hl : R.length ≤ 9223372036854775807 := by have := hR.l; have := hR.m; unfold maxLen at this; omega
  obtain ⟨N, hN⟩ : ∃ N, R.length = N := ⟨_, rfl⟩
  have CGr := great_any R A cap w hR
  obtain ⟨g, hg⟩ : ∃ g, greatB R = g := ⟨_, rfl⟩
  rw [hg, hN] at CGr
  have CA := fun w' => awake_any w'
  have CP := fun w' (hb' : Below w.heap.size w w') => pack_any width hw R A cap w' (hR.on hb')
  have CQ := fun w' (hb' : Below w.heap.size w w') => refRight_any width hw R A cap w' (hR.on hb')
  rw [hN] at CP CQ
  have H := Lib.hid (And.intro hR (And.intro hN (And.intro hw (And.intro ha hb))))
  have HGr := Lib.hid CGr
  have HA := Lib.hid CA
  have HP := Lib.hid CP
  have HQ := Lib.hid CQ
  rw [hN] at hl ⊢
  clear hR hN CGr hg CA CP CQ
  unfold i64 at hw ha hb
  cases g
  case true =>
    go_enter Try.func4, Try.ntmps4
    go_wp2_with fail
    refine HGr.out.mono ?_
    rintro r w1 ⟨rfl, e⟩
    obtain rfl := e.symm
    clear e
    go_wp2_with fail
    refine (HA.out _).mono ?_
    rintro r w2 ⟨rfl, hb2⟩
    have HB := Lib.hid hb2
    clear hb2
    go_wp2_with fail
    go_ret
    exact ⟨rfl, HB.out⟩
  case false =>
    go_enter Try.func4, Try.ntmps4
    go_wp2_with fail
    refine HGr.out.mono ?_
    rintro r w1 ⟨rfl, e⟩
    obtain rfl := e.symm
    clear e
    go_wp2_with fail
    refine (HA.out _).mono ?_
    rintro r w2 ⟨rfl, hb2⟩
    have HB := Lib.hid hb2
    clear hb2
    go_wp2_with fail
    refine (HP.out w2 HB.out).mono ?_
    rintro r w3 ⟨hb3, hcase⟩
    have B3 := HB.out.trans (hb3.mono HB.out.size)
    have HB3 := Lib.hid B3
    clear hb3 B3
    rcases hcase with ⟨hok, v, rfl, hv⟩ | ⟨hno, rfl⟩
    case inr =>
      have hno' := Lib.hid hno
      clear hno
      unfold zeroPk
      obtain ⟨W4, hW4⟩ : ∃ W, w3.alloc (.cells #[.int .i64 0, .slice none 0 0, .slice none 0 0, .slice none 0 0, .slice none 0 0] 27) = W := ⟨_, rfl⟩
      have B4 : Below w.heap.size w W4 := by rw [← hW4]; exact HB3.out.alloc HB3.out.size _
      have CQ4 := HQ.out W4 B4
      rw [hno'.out] at CQ4
      have HC := Lib.hid (And.intro CQ4 (And.intro B4 hW4))
      clear CQ4 B4 hW4
      go_wp2_with fail
      rw [HC.out.2.2]
      refine HC.out.1.mono ?_
      rintro r w5 ⟨rfl, e⟩
      obtain rfl := e.symm
      clear e
      go_wp2_with fail
      go_ret
      exact ⟨rfl, HC.out.2.1⟩
    case inl =>
      obtain ⟨p, hp⟩ : ∃ p, packR width R = p := ⟨_, rfl⟩
      obtain ⟨k1, k2, k3, k4, k5⟩ := packed_ok hok
      rw [hp] at k1 k2 hv
      have hok2 : okPk p = true := okPk_iff.2 k1
      obtain ⟨px, A1, n1, c1, A2, n2, c2, A3, n3, c3, A4, n4, c4, rfl, e0, e1, -, -, -⟩ := pk_lens hv
      have hpx : px = width := by rw [e0, ← hp]; exact packR_w width R _ rfl
      subst hpx
      have hn1 : n1 = N := by rw [e1, ← rowsR_len, k2]; exact H.out.2.1
      subst hn1
      obtain ⟨W4, hW4⟩ : ∃ W, w3.alloc (.cells #[Value.int .i64 px, .slice A1 n1 c1, .slice A2 n2 c2, .slice A3 n3 c3, .slice A4 n4 c4] 27) = W := ⟨_, rfl⟩
      have b4 : Below w3.heap.size w3 W4 := by rw [← hW4]; exact below_new _ _
      have x4 : Cells W4 w3.heap.size 27 #[Value.int .i64 px, .slice A1 n1 c1, .slice A2 n2 c2, .slice A3 n3 c3, .slice A4 n4 c4] := by rw [← hW4]; exact cells_new _ _ _
      have B4 := HB3.out.trans (b4.mono HB3.out.size)
      have CR := rows_any (hv.on b4)
      have HV := Lib.hid (And.intro hv (And.intro b4 (And.intro k1 (And.intro k2 (And.intro k3 (And.intro k4 (And.intro k5 (And.intro e1 (And.intro hok2 e0)))))))))
      have H4 := Lib.hid (And.intro B4 (And.intro x4 hW4))
      have HCR := Lib.hid CR
      clear hv b4 k1 k2 k3 k4 k5 e1 hok2 e0 B4 x4 hW4 CR hp hok
      go_wp2_with fail
      rw [H4.out.2.2]
      refine HCR.out.mono ?_
      rintro r w5 ⟨hb5, hrows⟩
      rcases hrows with ⟨_, A5, cap5, rfl, hR5⟩ | ⟨hno, rfl⟩
      case inr => rw [HV.out.2.2.2.2.2.2.2.2.1] at hno; cases hno
      rw [HV.out.2.2.2.1] at hR5 ⊢
      rw [H.out.2.1]
      have B5 := H4.out.1.trans (hb5.mono H4.out.1.size)
      have x5 := H4.out.2.1.on hb5
      have b5 := HV.out.2.1.trans (hb5.mono HV.out.2.1.size)
      have CS5 := pkSame_any (HV.out.1.on b5) (HV.out.1.on b5)
      rw [show sameB p p = true from sameB_self p] at CS5
      have q0 := x5.cell 0
      have q1 := x5.cell 1
      have q2 := x5.cell 2
      have q3 := x5.cell 3
      have q4 := x5.cell 4
      simp at q0 q1 q2 q3 q4
      have H5 := Lib.hid (And.intro B5 (And.intro x5 (And.intro b5 hR5)))
      have HCS := Lib.hid CS5
      clear B5 x5 b5 hR5 CS5 hb5
      have hq : ((n1 : Int) == (n1 : Int)) = true := by simp
      go_wp2_with fail
      refine HCS.out.mono ?_
      rintro r w6 ⟨rfl, hb6⟩
      have B6 := H5.out.1.trans (hb6.mono H5.out.1.size)
      have x6 := H5.out.2.1.on hb6
      have b6 := H5.out.2.2.1.trans (hb6.mono H5.out.2.2.1.size)
      have R6 := H5.out.2.2.2.on hb6
      have H6 := Lib.hid (And.intro B6 (And.intro x6 (And.intro b6 R6)))
      clear B6 x6 b6 R6 hb6 q0 q1 q2 q3 q4
      go_wp2_with fail
      go_loopw [13] (fun i wr => ∃ k : Nat, i = .int .i64 (k : Int) ∧ k ≤ n1 ∧ Below w6.heap.size w6 wr) (fun i _ => n1 - (RowKit.intOf i).toNat)
      case atStart => exact ⟨0, rfl, by omega, Below.refl _ _⟩
      case round =>
        obtain ⟨k, rfl, hk, hbk⟩ := hrel
        have Bk := H6.out.1.trans (hbk.mono H6.out.1.size)
        by_cases hlt : k < n1
        · have i1 : (k : Int) < (n1 : Int) := by omega
          obtain ⟨r, hr⟩ : ∃ r, R[k]? = some r := ⟨R[k]'(by rw [H.out.2.1]; exact hlt), List.getElem?_eq_getElem _⟩
          obtain ⟨bA, oA, rfl, hblA, hcA⟩ := H.out.1.r (by rintro rfl; simp at hr)
          obtain ⟨A', c', dr, hIr, _⟩ := hcA k r hr
          obtain ⟨bB, oB, rfl, hblB, hcB⟩ := H6.out.2.2.2.r (by rintro rfl; simp at hr)
          obtain ⟨A'', c'', dr2, hIr2, _⟩ := hcB k r hr
          have d1 := (Bk.cell (p := ⟨bA, oA + k, none⟩) hblA).trans dr
          have d2 := (hbk.cell (p := ⟨bB, oB + k, none⟩) hblB).trans dr2
          have q1 := cell_regrown d1
          have q2 := cell_regrown d2
          obtain ⟨n, hn⟩ : ∃ n, r.length = n := ⟨_, rfl⟩
          have D1 : ∀ d os, Calls Try.prog 17 #[.slice A'' n c'', .slice A' n c'] (grow (redrawn wr d) os) fun e w'' => e = .returned (.bool true) ∧ ∃ p : Regrown, w'' = grow (redrawn wr p.d) p.os := fun d os => by
            have := Calls.regrown_of (same17_any r r A'' A' c'' c' (grow (redrawn wr d) os) ((hIr2.on hbk).on (below_regrown wr d os)) (((hIr.mono (Nat.le_refl _)).on Bk).on (below_regrown wr d os)))
            rw [hn] at this
            simpa using this
          rw [hn] at q1 q2
          have HK := Lib.hid (And.intro hbk Bk)
          clear hr hcA dr hIr hcB dr2 hIr2 d1 d2 hn hbk Bk hblA hblB
          go_wp2_with fail
          refine wp_region_quiet_below (by kernel_rfl) (by kernel_rfl) ?_
          repeat (go_big_quiet_step (first | (with_reducible exact D1 _ _)))
          refine wpQuiet_nil ?_
          intro _ hw'
          obtain ⟨⟨dq, osq⟩, hw''⟩ := hw'
          subst hw''
          have HB7 := Lib.hid (HK.out.1.trans ((below_regrown wr dq osq).mono HK.out.1.size))
          clear q1 q2 D1
          go_wp2_with fail
          go_roundw
          case rel => exact ⟨k + 1, by go_num, by omega, HB7.out⟩
          case measure => simp [RowKit.intOf]; omega
        · obtain rfl : k = n1 := by omega
          have i1 : ¬ (k : Int) < (k : Int) := by omega
          have x7 := H6.out.2.1.on hbk
          have b7 := H6.out.2.2.1.trans (hbk.mono H6.out.2.2.1.size)
          have CG := get_any (HV.out.1.on b7) a b H.out.2.2.2.1 H.out.2.2.2.2
          obtain ⟨ge, hge⟩ : ∃ x, getX p a b = x := ⟨_, rfl⟩
          have hgx := hge
          rw [hge] at CG
          unfold getX thereB at hgx
          rw [HV.out.2.2.2.2.2.2.2.2.1, ← HV.out.2.2.2.2.2.2.2.1, ← HV.out.2.2.2.2.2.2.2.2.2] at hgx
          have q0 := x7.cell 0
          have q1 := x7.cell 1
          have q2 := x7.cell 2
          have q3 := x7.cell 3
          have q4 := x7.cell 4
          simp at q0 q1 q2 q3 q4
          have HC := Lib.hid (And.intro CG (And.intro Bk hgx))
          clear hbk x7 b7 CG hge hgx Bk
          go_wp2_with fail
          refine HC.out.1.mono ?_
          rintro r w8 ⟨rfl, hb8⟩
          have B8 := HC.out.2.1.trans (hb8.mono HC.out.2.1.size)
          have HB8 := Lib.hid B8
          clear hb8 B8 q0 q1 q2 q3 q4
          by_cases p1 : a < 0
          · obtain rfl : ge = (0, false) := by rw [← HC.out.2.2]; simp; omega
            go_wp2_with fail
            go_ret
            exact ⟨rfl, HB8.out⟩
          by_cases p2 : (k : Int) ≤ a
          · obtain rfl : ge = (0, false) := by rw [← HC.out.2.2]; simp; omega
            go_wp2_with fail
            go_ret
            exact ⟨rfl, HB8.out⟩
          by_cases p3 : b < 0
          · obtain rfl : ge = (0, false) := by rw [← HC.out.2.2]; simp; omega
            go_wp2_with fail
            go_ret
            exact ⟨rfl, HB8.out⟩
          by_cases p4 : px ≤ b
          · obtain rfl : ge = (0, false) := by rw [← HC.out.2.2]; simp; omega
            go_wp2_with fail
            go_ret
            exact ⟨rfl, HB8.out⟩
          obtain ⟨x, rfl⟩ := Int.eq_ofNat_of_zero_le (show 0 ≤ a by omega)
          obtain ⟨y, rfl⟩ := Int.eq_ofNat_of_zero_le (show 0 ≤ b by omega)
          obtain rfl : ge = (getR p x y, true) := by
            rw [← HC.out.2.2, if_pos (by simp; omega)]
            simp
          obtain ⟨r, hr⟩ : ∃ r, R[x]? = some r := ⟨R[x]'(by rw [H.out.2.1]; omega), List.getElem?_eq_getElem _⟩
          have hrl := HV.out.2.2.2.2.1 x r hr
          obtain ⟨bA, oA, rfl, hblA, hcA⟩ := H.out.1.r (by rintro rfl; simp at hr)
          obtain ⟨A', c', dr, hIr, _⟩ := hcA x r hr
          obtain ⟨z, hz⟩ := list_at (xs := r) (i := y) (by omega)
          obtain ⟨bR, oR, rfl, hblR, hcR⟩ := hIr.r (by rintro rfl; simp at hz)
          have d1 := (HB8.out.cell (p := ⟨bA, oA + x, none⟩) hblA).trans dr
          have d2 := (HB8.out.cell (p := ⟨bR, oR + y, none⟩) hblR).trans (hcR y z hz)
          have hzz : z = getR p x y := by
            have h1 : (rowsR p)[x]? = some r := by rw [HV.out.2.2.2.1]; exact hr
            exact ((rowsR_row h1).2.2 y z hz).2
          subst hzz
          obtain ⟨n, hn⟩ : ∃ n, r.length = n := ⟨_, rfl⟩
          rw [hn] at d1 hrl
          have j1 : (y : Int) < (n : Int) := by omega
          have j2 : (x : Int) < (k : Int) := by omega
          have hpp : (getR p x y == getR p x y) = true := by simp
          have hl2 : n ≤ 9223372036854775807 := by omega
          clear hr hcA dr hIr hcR hz hn hrl
          go_wp2_with fail
          go_ret
          exact ⟨rfl, HB8.out⟩
end Go.Proofs.Ytadipgkgllcicaa
