/-
  The walk of PackFits.
-/
import Derived.Test.YtadipgkgllcicaaPko
import Derived.Test.YtadipgkgllcicaaRfr
namespace Go.Proofs.Ytadipgkgllcicaa
open Go.RowKit Go.Shelf Go.Lib Go.Maps Go.Sort

theorem cntU_take {cs : List Int} {k : Nat} {x : Int} (h : cs[k]? = some x) : cntU (cs.take (k + 1)) = cntU (cs.take k) + if 0 ≤ x then 1 else 0 := by
  unfold cntU
  rw [List.take_add_one, h, Option.toList_some, List.countP_append]
  congr 1
  by_cases q : 0 ≤ x <;> simp [q]
theorem oth_take {r : List Int} {k : Nat} {x u : Int} (h : r[k]? = some x) : (r.take (k + 1)).countP (fun x => decide (x ≠ u)) = (r.take k).countP (fun x => decide (x ≠ u)) + if x = u then 0 else 1 := by
  rw [List.take_add_one, h, Option.toList_some, List.countP_append]
  congr 1
  by_cases q : x = u <;> simp [q]
set_option maxHeartbeats 8000000 in
set_option maxRecDepth 100000 in
theorem fitsLaw_any (width : Int) (hw : i64 width) (R : List (List Int)) (A : Option Addr) (cap : Nat) (w : World) (hR : RsAt w w.heap.size R A cap) :
    Calls Try.prog 6 #[.int .i64 width, .slice A R.length cap] w fun r w' => r = .returned (.bool true) ∧ Below w.heap.size w w' := by
  have hl : R.length ≤ 9223372036854775807 := by have := hR.l; have := hR.m; unfold maxLen at this; omega
  obtain ⟨N, hN⟩ : ∃ N, R.length = N := ⟨_, rfl⟩
  have CGr := great_any R A cap w hR
  obtain ⟨g, hg⟩ : ∃ g, greatB R = g := ⟨_, rfl⟩
  rw [hg, hN] at CGr
  have CA := fun w' => awake_any w'
  have CP := fun w' (hb' : Below w.heap.size w w') => pack_any width hw R A cap w' (hR.on hb')
  have CQ := fun w' (hb' : Below w.heap.size w w') => refRight_any width hw R A cap w' (hR.on hb')
  rw [hN] at CP CQ
  have H := Lib.hid (And.intro hR (And.intro hN hw))
  have HGr := Lib.hid CGr
  have HA := Lib.hid CA
  have HP := Lib.hid CP
  have HQ := Lib.hid CQ
  rw [hN] at hl ⊢
  clear hR hN CGr hg CA CP CQ
  unfold i64 at hw
  cases g
  case true =>
    go_enter Try.func6, Try.ntmps6
    go_wp2_with fail
    refine HGr.out.mono ?_
    rintro r w1 ⟨rfl, e⟩
    obtain rfl := e.symm
    clear e
    go_wp2_with fail
    refine (HA.out _).mono ?_
    rintro r w2 ⟨rfl, hb2⟩
    have HB := Lib.hid hb2
    clear hb2
    go_wp2_with fail
    go_ret
    exact ⟨rfl, HB.out⟩
  case false =>
    go_enter Try.func6, Try.ntmps6
    go_wp2_with fail
    refine HGr.out.mono ?_
    rintro r w1 ⟨rfl, e⟩
    obtain rfl := e.symm
    clear e
    go_wp2_with fail
    refine (HA.out _).mono ?_
    rintro r w2 ⟨rfl, hb2⟩
    have HB := Lib.hid hb2
    clear hb2
    go_wp2_with fail
    refine (HP.out w2 HB.out).mono ?_
    rintro r w3 ⟨hb3, hcase⟩
    have B3 := HB.out.trans (hb3.mono HB.out.size)
    have HB3 := Lib.hid B3
    clear hb3 B3
    rcases hcase with ⟨hok, v, rfl, hv⟩ | ⟨hno, rfl⟩
    case inr =>
      have hno' := Lib.hid hno
      clear hno
      unfold zeroPk
      obtain ⟨W4, hW4⟩ : ∃ W, w3.alloc (.cells #[.int .i64 0, .slice none 0 0, .slice none 0 0, .slice none 0 0, .slice none 0 0] 27) = W := ⟨_, rfl⟩
      have B4 : Below w.heap.size w W4 := by rw [← hW4]; exact HB3.out.alloc HB3.out.size _
      have CQ4 := HQ.out W4 B4
      rw [hno'.out] at CQ4
      have HC := Lib.hid (And.intro CQ4 (And.intro B4 hW4))
      clear CQ4 B4 hW4
      go_wp2_with fail
      rw [HC.out.2.2]
      refine HC.out.1.mono ?_
      rintro r w5 ⟨rfl, e⟩
      obtain rfl := e.symm
      clear e
      go_wp2_with fail
      go_ret
      exact ⟨rfl, HC.out.2.1⟩
    case inl =>
      obtain ⟨p, hp⟩ : ∃ p, packR width R = p := ⟨_, rfl⟩
      obtain ⟨k1, k2, k3, k4, k5⟩ := packed_ok hok
      obtain ⟨f1, f2, f3, f4⟩ := packed_fit hok
      rw [hp] at k1 k2 hv f1 f2 f3 f4
      rw [H.out.2.1] at f3
      obtain ⟨hpi, A1, c1, A2, c2, A3, c3, A4, c4, e0, i1, i2, i3, i4⟩ := hv
      have hpx : p.w = width := by rw [← hp]; exact packR_w width R _ rfl
      have hm3 : p.cs.length ≤ 9223372036854775807 := by have := i3.l; have := i3.m; unfold maxLen at this; omega
      rw [hpx, f3.u, f3.b, f3.c] at e0
      subst e0
      obtain ⟨M, hM⟩ : ∃ M, p.cs.length = M := ⟨_, rfl⟩
      rw [hM] at hm3 f2 ⊢
      obtain ⟨W, rfl⟩ := Int.eq_ofNat_of_zero_le (show 0 ≤ width by omega)
      have hW64 : W ≤ 64 := by omega
      have hM64 : M ≤ 100000 := by have := f3.l; have := k1.l; have := f3.u; omega
      have hN1000 : N ≤ 1000 := by have := k1.l; rw [f3.u] at this; exact this
      obtain ⟨W4, hW4⟩ : ∃ W', w3.alloc (.cells #[.int .i64 (W : Int), .slice A1 N c1, .slice A2 N c2, .slice A3 M c3, .slice A4 M c4] 27) = W' := ⟨_, rfl⟩
      have b4 : Below w3.heap.size w3 W4 := by rw [← hW4]; exact below_new _ _
      have x4 : Cells W4 w3.heap.size 27 #[.int .i64 (W : Int), .slice A1 N c1, .slice A2 N c2, .slice A3 M c3, .slice A4 M c4] := by rw [← hW4]; exact cells_new _ _ _
      have B4 := HB3.out.trans (b4.mono HB3.out.size)
      have HV := Lib.hid (And.intro (i1.on b4) (And.intro (i3.on b4) (And.intro k3 (And.intro f1 (And.intro f2 (And.intro f4 (And.intro hM (And.intro f3 B4))))))))
      have H4 := Lib.hid (And.intro x4 hW4)
      have l1 := x4.cell 1
      have l2 := x4.cell 2
      have l3 := x4.cell 3
      have l4 := x4.cell 4
      simp at l1 l2 l3 l4
      clear i1 i2 i3 i4 b4 k1 k2 k3 k4 k5 f1 f2 f3 f4 hpi hpx hM B4 x4 hp hok
      have hq : ((N : Int) == (N : Int)) = true := by simp
      have hq2 : ((M : Int) == (M : Int)) = true := by simp
      go_wp2_with fail
      clear hW4 l1 l2 l4
      go_loopw [7, 9] (fun u i wr => ∃ k : Nat, i = .int .i64 (k : Int) ∧ k ≤ M ∧ (∃ c : Nat, u = .int .i64 (c : Int) ∧ cntU (p.cs.take k) = c) ∧ wr = W4) (fun _ i _ => M - (RowKit.intOf i).toNat)
      case atStart => exact ⟨0, rfl, by omega, ⟨0, rfl, rfl⟩, rfl⟩
      case round =>
        obtain ⟨k, rfl, hk, ⟨c, rfl, hc⟩, e⟩ := hrel
        obtain rfl := e
        by_cases hlt : k < M
        · have j1 : (k : Int) < (M : Int) := by omega
          obtain ⟨x, hx⟩ := list_at (xs := p.cs) (i := k) (by rw [HV.out.2.2.2.2.2.2.1]; exact hlt)
          obtain ⟨bA, oA, rfl, hblA, d0⟩ := HV.out.2.1.at hx
          have ht := cntU_take hx
          rw [hc] at ht
          have hcb : c ≤ k := by rw [← hc]; unfold cntU; exact Nat.le_trans List.countP_le_length (by rw [List.length_take]; omega)
          have HK := Lib.hid ht
          clear ht hc hx
          by_cases hz : 0 ≤ x
          · have HE := Lib.hid (show cntU (p.cs.take (k + 1)) = c + 1 by rw [HK.out, if_pos hz])
            go_wp2_with fail
            go_roundw
            case rel => exact ⟨k + 1, by go_num, by omega, ⟨c + 1, by simp, HE.out⟩, trivial⟩
            case measure => simp [RowKit.intOf]; omega
          · have HE := Lib.hid (show cntU (p.cs.take (k + 1)) = c by rw [HK.out, if_neg hz]; rfl)
            go_wp2_with fail
            go_roundw
            case rel => exact ⟨k + 1, by go_num, by omega, ⟨c, rfl, HE.out⟩, trivial⟩
            case measure => simp [RowKit.intOf]; omega
        · obtain rfl : k = M := by omega
          have j1 : ¬ (k : Int) < (k : Int) := by omega
          obtain ⟨wo, rfl⟩ : ∃ wo : World, wo = wr := ⟨_, rfl⟩
          have e1 : p.cs.take k = p.cs := by rw [← HV.out.2.2.2.2.2.2.1, List.take_length]
          rw [e1, HV.out.2.2.2.1] at hc
          have HC := Lib.hid hc
          clear hc e1
          go_wp2_with fail
          go_loopw [8, 10, 11] (fun u i _ ws => ∃ j : Nat, i = .int .i64 (j : Int) ∧ j ≤ N ∧ (∃ d : Nat, u = .int .i64 (d : Int) ∧ othersN (R.take j) = d ∧ d ≤ 64 * j) ∧ Below wo.heap.size wo ws) (fun _ i _ _ => N - (RowKit.intOf i).toNat)
          case atStart => exact ⟨0, rfl, by omega, ⟨0, rfl, rfl, by omega⟩, Below.refl _ _⟩
          case round =>
            obtain ⟨wi, rfl⟩ : ∃ wi : World, wi = wr := ⟨_, rfl⟩
            obtain ⟨j, rfl, hj, ⟨d, rfl, hd, hdl⟩, hbj⟩ := hrel
            by_cases hlt2 : j < N
            · have j2 : (j : Int) < (N : Int) := by omega
              obtain ⟨r, hr⟩ : ∃ r, R[j]? = some r := ⟨R[j]'(by rw [H.out.2.1]; exact hlt2), List.getElem?_eq_getElem _⟩
              have hrl := HV.out.2.2.1 j r hr
              have Bj := HV.out.2.2.2.2.2.2.2.2.trans (hbj.mono HV.out.2.2.2.2.2.2.2.2.size)
              obtain ⟨bA, oA, rfl, hblA, hcA⟩ := H.out.1.r (by rintro rfl; simp at hr)
              obtain ⟨A', c', dr, hIr, _⟩ := hcA j r hr
              obtain ⟨bU, oU, rfl, hblU, dU⟩ := HV.out.1.at (HV.out.2.2.2.2.2.1 j r hr)
              have HK := Lib.hid (And.intro hd (And.intro hr (And.intro hrl (And.intro hIr (And.intro dr (And.intro dU (And.intro hbj (And.intro Bj (And.intro hblA hblU)))))))))
              clear hd hr hrl hIr dr dU hbj Bj hblA hblU hcA
              go_wp2_with fail
              go_loopw [8, 11] (fun u t ws => ∃ q : Nat, t = .int .i64 (q : Int) ∧ q ≤ W ∧ (∃ d2 : Nat, u = .int .i64 (d2 : Int) ∧ d2 = d + (r.take q).countP (fun x => decide (x ≠ usualR r)) ∧ d2 ≤ d + q) ∧ Below wi.heap.size wi ws) (fun _ t _ => W - (RowKit.intOf t).toNat)
              case atStart => exact ⟨0, rfl, by omega, ⟨d, rfl, rfl, by omega⟩, Below.refl _ _⟩
              case round =>
                obtain ⟨q, rfl, hqW, ⟨d2, rfl, hd2, hd2l⟩, hbq⟩ := hrel
                by_cases hlt3 : q < W
                · have j3 : (q : Int) < (W : Int) := by omega
                  obtain ⟨x, hx⟩ := list_at (xs := r) (i := q) (by have := HK.out.2.2.1; omega)
                  obtain ⟨bR, oR, rfl, hblR, dR⟩ := HK.out.2.2.2.1.at hx
                  have Bq := HK.out.2.2.2.2.2.2.2.1.trans (hbq.mono HK.out.2.2.2.2.2.2.2.1.size)
                  have bq2 := HK.out.2.2.2.2.2.2.1.trans (hbq.mono HK.out.2.2.2.2.2.2.1.size)
                  have g1 := (Bq.cell (p := ⟨bA, oA + j, none⟩) HK.out.2.2.2.2.2.2.2.2.1).trans HK.out.2.2.2.2.1
                  have g2 := (Bq.cell (p := ⟨bR, oR + q, none⟩) hblR).trans dR
                  have g3 := (bq2.cell (p := ⟨bU, oU + j, none⟩) HK.out.2.2.2.2.2.2.2.2.2).trans HK.out.2.2.2.2.2.1
                  have y := H4.out.1.on bq2
                  have g4 := y.cell 1
                  simp at g4
                  have hrl2 : r.length = W := by have := HK.out.2.2.1; omega
                  rw [hrl2] at g1
                  have ht := oth_take (u := usualR r) hx
                  obtain ⟨U, hU⟩ : ∃ U, usualR r = U := ⟨_, rfl⟩
                  rw [hU] at g3 ht hd2
                  have HT := Lib.hid (And.intro ht (And.intro hd2 (And.intro hbq hU)))
                  clear ht hd2 hbq hU hx dR Bq bq2 y hrl2
                  by_cases he : x = U
                  · have hqq : (x == U) = true := by simpa using he
                    have HE := Lib.hid (show d2 = d + (r.take (q + 1)).countP (fun x => decide (x ≠ usualR r)) by rw [HT.out.2.2.2, HT.out.1, if_pos he, HT.out.2.1]; omega)
                    clear he
                    go_wp2_with fail
                    go_region
                    go_wp2_with fail
                    go_roundw
                    case rel => exact ⟨q + 1, by go_num, by omega, ⟨d2, rfl, HE.out, by omega⟩, HT.out.2.2.1.drew⟩
                    case measure => simp [RowKit.intOf]; omega
                  · have hqq : (x == U) = false := by simpa using he
                    have HE := Lib.hid (show d2 + 1 = d + (r.take (q + 1)).countP (fun x => decide (x ≠ usualR r)) by rw [HT.out.2.2.2, HT.out.1, if_neg he, HT.out.2.1]; omega)
                    clear he
                    go_wp2_with fail
                    go_region
                    go_wp2_with fail
                    go_roundw
                    case rel => exact ⟨q + 1, by go_num, by omega, ⟨d2 + 1, by simp, HE.out, by omega⟩, HT.out.2.2.1.drew⟩
                    case measure => simp [RowKit.intOf]; omega
                · obtain rfl : q = W := by omega
                  have j3 : ¬ (q : Int) < (q : Int) := by omega
                  have e2 : r.take q = r := List.take_of_length_le (by have := HK.out.2.2.1; omega)
                  rw [e2] at hd2
                  have HD := Lib.hid (And.intro hd2 hbq)
                  clear hd2 hbq e2
                  go_wp2_with fail
                  go_roundw
                  case rel => exact ⟨j + 1, by go_num, by omega, ⟨d2, rfl, by rw [othersN_take HK.out.2.1, HK.out.1, HD.out.1], by omega⟩, HK.out.2.2.2.2.2.2.1.trans (HD.out.2.mono HK.out.2.2.2.2.2.2.1.size)⟩
                  case measure => simp [RowKit.intOf]; omega
            · obtain rfl : j = N := by omega
              have j2 : ¬ (j : Int) < (j : Int) := by omega
              have e2 : R.take j = R := by rw [← H.out.2.1, List.take_length]
              rw [e2, HC.out] at hd
              have hdc : c = d := hd
              subst hdc
              have y := H4.out.1.on hbj
              have l3 := y.cell 3
              simp at l3
              have hcc : ((c : Int) == (c : Int)) = true := by simp
              have Bj := HV.out.2.2.2.2.2.2.2.2.trans (hbj.mono HV.out.2.2.2.2.2.2.2.2.size)
              have HBj := Lib.hid Bj
              rcases HV.out.2.2.2.2.1 with hz | ⟨x, hx, hx0⟩
              · have hkz : k = 0 := hz
                subst hkz
                clear hd hbj y Bj e2
                go_wp2_with fail
                go_ret
                exact ⟨rfl, HBj.out⟩
              · have hk0 : 0 < k := by
                  rcases Nat.eq_zero_or_pos k with z | z
                  · exfalso
                    have := (List.getElem?_eq_some_iff.1 hx).1
                    have := HV.out.2.2.2.2.2.2.1
                    omega
                  · exact z
                obtain ⟨bA, oA, rfl, hblA, d0⟩ := HV.out.2.1.at hx
                have d1 := (hbj.cell (p := ⟨bA, oA + (k - 1), none⟩) hblA).trans d0
                have hkz : ((k : Int) == 0) = false := by simp; omega
                obtain ⟨k', rfl⟩ : ∃ k', k = k' + 1 := ⟨k - 1, by omega⟩
                simp only [Nat.add_sub_cancel] at d1
                clear hd hbj y Bj e2 hx d0
                go_wp2_with fail
                go_ret
                exact ⟨rfl, HBj.out⟩
end Go.Proofs.Ytadipgkgllcicaa
