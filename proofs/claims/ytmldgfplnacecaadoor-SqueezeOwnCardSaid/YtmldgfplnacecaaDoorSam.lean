/-
  Contracts: slices.EqualFunc of rows, dfa.Same.
-/
import Derived.Test.YtmldgfplnacecaaDoorTgr
namespace Go.Proofs.YtmldgfplnacecaaDoor
open Go.RowKit Go.Shelf Go.Lib Go.Maps Go.Sort


theorem take_eq_snocR {xs ys : List (List Int)} {k : Nat} {x y : List Int} (h : xs.take k = ys.take k) (hx : xs[k]? = some x) (hy : ys[k]? = some y) (he : x = y) : xs.take (k + 1) = ys.take (k + 1) := by
  rw [List.take_add_one, List.take_add_one, h, hx, hy, he]
set_option maxHeartbeats 4000000 in
set_option maxRecDepth 100000 in
theorem eqf_any (xs ys : List (List Int)) (A A' : Option Addr) (cap cap' : Nat) (w : World) (hx : RsAt w w.heap.size xs A cap) (hy : RsAt w w.heap.size ys A' cap') :
    Calls Tryd.prog 78 #[.slice A xs.length cap, .slice A' ys.length cap', .func (.func 68) #[] #[]] w fun r w' => r = .returned (.bool (decide (xs = ys))) ∧ Below w.heap.size w w' := by
  have hl1 : xs.length ≤ 9223372036854775807 := by have := hx.l; have := hx.m; unfold maxLen at this; omega
  obtain ⟨R, hR⟩ : ∃ R, decide (xs = ys) = R := ⟨_, rfl⟩
  obtain ⟨N, hN⟩ : ∃ N, xs.length = N := ⟨_, rfl⟩
  obtain ⟨M, hM⟩ : ∃ M, ys.length = M := ⟨_, rfl⟩
  rw [hN] at hl1
  rw [hR, hN, hM]
  have HH := Lib.hid (And.intro hx (And.intro hy (And.intro hR (And.intro hN hM))))
  clear hx hy hR hN hM
  by_cases hlen : N = M
  · subst hlen
    have hq0 : ((N : Int) == (N : Int)) = true := by simp
    go_enter Tryd.func78, Tryd.ntmps78
    go_wp2_with fail
    go_loopw [17] (fun i wr => ∃ k : Nat, i = .int .i64 (k : Int) ∧ k ≤ N ∧ xs.take k = ys.take k ∧ Below w.heap.size w wr) (fun i _ => N - (RowKit.intOf i).toNat)
    case atStart => exact ⟨0, rfl, by omega, by simp, Below.refl _ _⟩
    case round =>
      obtain ⟨k, rfl, hk, htk, hb⟩ := hrel
      by_cases hlt : k < N
      · have i1 : (k : Int) < (N : Int) := by omega
        obtain ⟨x, hx⟩ : ∃ x, xs[k]? = some x := ⟨xs[k]'(by rw [HH.out.2.2.2.1]; exact hlt), List.getElem?_eq_getElem _⟩
        obtain ⟨y, hy⟩ : ∃ y, ys[k]? = some y := ⟨ys[k]'(by rw [HH.out.2.2.2.2]; exact hlt), List.getElem?_eq_getElem _⟩
        obtain ⟨b, o, rfl, hbl, hc⟩ := HH.out.1.r (by rintro rfl; simp at hx)
        obtain ⟨b', o', rfl, hbl', hc'⟩ := HH.out.2.1.r (by rintro rfl; simp at hy)
        obtain ⟨A1, c1, x1, x2, _⟩ := hc k x hx
        obtain ⟨A2, c2, y1, y2, _⟩ := hc' k y hy
        have d0 := (hb.cell (p := ⟨b, o + k, none⟩) hbl).trans x1
        have d1 := (hb.cell (p := ⟨b', o' + k, none⟩) hbl').trans y1
        have C := eq61_any x y A1 A2 c1 c2 wr ((x2.below hb).mono hb.size) ((y2.below hb).mono hb.size)
        obtain ⟨lx, hlx⟩ : ∃ n, x.length = n := ⟨_, rfl⟩
        obtain ⟨ly, hly⟩ : ∃ n, y.length = n := ⟨_, rfl⟩
        rw [hlx] at C d0
        rw [hly] at C d1
        have HK := Lib.hid (And.intro htk (And.intro hb (And.intro hx hy)))
        by_cases he : x = y
        · have hq : decide (x = y) = true := by simpa using he
          rw [hq] at C
          have HC := Lib.hid C
          have HE := Lib.hid he
          clear he hq C htk hb hc hc' hx hy x1 x2 y1 y2 hlx hly
          go_wp2_with fail
          refine HC.out.mono ?_
          rintro r w2 ⟨rfl, hb2⟩
          have HB := Lib.hid (HK.out.2.1.trans (hb2.mono HK.out.2.1.size))
          clear hb2
          go_wp2_with fail
          go_roundw
          case rel => exact ⟨k + 1, by go_num, by omega, take_eq_snocR HK.out.1 HK.out.2.2.1 HK.out.2.2.2 HE.out, HB.out⟩
          case measure => simp [RowKit.intOf]; omega
        · have hq : decide (x = y) = false := by simpa using he
          rw [hq] at C
          have HC := Lib.hid C
          have : R = false := by
            rw [← HH.out.2.2.1]
            simp only [decide_eq_false_iff_not]
            intro e
            have h1 := HK.out.2.2.1
            rw [e, HK.out.2.2.2] at h1
            injection h1 with h1
            exact he h1.symm
          subst this
          clear he hq C htk hb hc hc' hx hy x1 x2 y1 y2 hlx hly
          go_wp2_with fail
          refine HC.out.mono ?_
          rintro r w2 ⟨rfl, hb2⟩
          have HB := Lib.hid (HK.out.2.1.trans (hb2.mono HK.out.2.1.size))
          clear hb2
          go_wp2_with fail
          go_ret
          exact ⟨rfl, HB.out⟩
      · obtain rfl : k = N := by omega
        have i1 : ¬ (k : Int) < (k : Int) := by omega
        have : R = true := by
          rw [← HH.out.2.2.1]
          have e1 : xs.take k = xs := by rw [← HH.out.2.2.2.1, List.take_length]
          have e2 : ys.take k = ys := by rw [← HH.out.2.2.2.2, List.take_length]
          rw [e1, e2] at htk
          simp [htk]
        subst this
        have HB := Lib.hid hb
        clear hb htk
        go_wp2_with fail
        go_ret
        exact ⟨rfl, HB.out⟩
  · have hq : ((N : Int) == (M : Int)) = false := by simp; omega
    have : R = false := by
      rw [← HH.out.2.2.1]
      simp only [decide_eq_false_iff_not]
      intro e
      have := HH.out.2.2.2
      rw [e] at this
      omega
    subst this
    go_enter Tryd.func78, Tryd.ntmps78
    go_wp2_with fail
    go_ret
    exact ⟨rfl, Below.refl _ _⟩
set_option maxHeartbeats 4000000 in
set_option maxRecDepth 100000 in
theorem sameD_any {R R' : List (List Int)} {T T' : List Nat} {v v' : Value} {w : World} (h : TbV w R T v) (h' : TbV w R' T' v') :
    Calls Tryd.prog 46 #[v, v'] w fun r w' => r = .returned (.bool (decide (R = R') && decide (T = T'))) ∧ Below w.heap.size w w' := by
  obtain ⟨A, c, A2, c2, rfl, hR, hT⟩ := h
  obtain ⟨A', c', A2', c2', rfl, hR', hT'⟩ := h'
  obtain ⟨W0, hW0⟩ : ∃ W, (w.alloc (.cells #[.slice A R.length c, .slice A2 T.length c2] 54)).alloc (.cells #[.slice A' R'.length c', .slice A2' T'.length c2'] 54) = W := ⟨_, rfl⟩
  have b0 : Below w.heap.size w W0 := by rw [← hW0]; exact (below_new w _).trans ((below_new _ _).mono (by simp))
  have z0 : W0.heap.size = w.heap.size + 1 + 1 := by rw [← hW0]; simp
  have x0 : Cells W0 w.heap.size 54 #[.slice A R.length c, .slice A2 T.length c2] := by rw [← hW0]; exact ((below_new _ _).block _ (by simp)).trans (cells_new _ _ _)
  have x1 : Cells W0 (w.heap.size + 1) 54 #[.slice A' R'.length c', .slice A2' T'.length c2'] := by
    rw [← hW0]
    have := cells_new (w.alloc (.cells #[.slice A R.length c, .slice A2 T.length c2] 54)) #[.slice A' R'.length c', .slice A2' T'.length c2'] 54
    simpa using this
  have C1 := eqf_any R R' A A' c c' W0 (hR.on b0) (hR'.on b0)
  have C2 := fun w' (hb : Below W0.heap.size W0 w') => eq62_any T T' A2 A2' c2 c2' w' ((hT.on b0).on hb) ((hT'.on b0).on hb)
  have e0 := x0.cell 0
  have e1 := x0.cell 1
  have e2 := x1.cell 0
  have e3 := x1.cell 1
  simp at e0 e1 e2 e3
  obtain ⟨n1, hn1⟩ : ∃ n, R.length = n := ⟨_, rfl⟩
  obtain ⟨n2, hn2⟩ : ∃ n, T.length = n := ⟨_, rfl⟩
  obtain ⟨n3, hn3⟩ : ∃ n, R'.length = n := ⟨_, rfl⟩
  obtain ⟨n4, hn4⟩ : ∃ n, T'.length = n := ⟨_, rfl⟩
  rw [hn1, hn2] at hW0 x0
  rw [hn1] at C1 e0
  rw [hn2] at C2 e1
  rw [hn3] at C1 e2
  rw [hn3, hn4] at hW0 x1
  rw [hn4] at C2 e3
  rw [hn1, hn2, hn3, hn4]
  generalize decide (R = R') = p at *
  generalize decide (T = T') = q at *
  have H := Lib.hid (And.intro b0 (And.intro z0 (And.intro x0 x1)))
  have HW := Lib.hid hW0
  have HC1 := Lib.hid C1
  have HC2 := Lib.hid C2
  clear b0 z0 x0 x1 hW0 C1 C2 hR hT hR' hT' hn1 hn2 hn3 hn4
  cases p
  · go_enter Tryd.func46, Tryd.ntmps46
    go_wp2_with fail
    rw [HW.out]
    refine HC1.out.mono ?_
    rintro r w2 ⟨rfl, hb⟩
    have HB := Lib.hid (H.out.1.trans (hb.mono H.out.1.size))
    clear hb
    go_wp2_with fail
    go_ret
    exact ⟨rfl, HB.out⟩
  · go_enter Tryd.func46, Tryd.ntmps46
    go_wp2_with fail
    rw [HW.out]
    refine HC1.out.mono ?_
    rintro r w2 ⟨rfl, hb⟩
    have y0 : Cells w2 w.heap.size 54 #[.slice A n1 c, .slice A2 n2 c2] := (hb.block _ H.out.2.2.1.lt).trans H.out.2.2.1
    have y1 : Cells w2 (w.heap.size + 1) 54 #[.slice A' n3 c', .slice A2' n4 c2'] := (hb.block _ H.out.2.2.2.lt).trans H.out.2.2.2
    have g0 := y0.cell 0
    have g1 := y0.cell 1
    have g2 := y1.cell 0
    have g3 := y1.cell 1
    simp at g0 g1 g2 g3
    have HB := Lib.hid hb
    clear hb y0 y1
    go_wp2_with fail
    refine (HC2.out w2 HB.out).mono ?_
    rintro r w3 ⟨rfl, hb3⟩
    have HB3 := Lib.hid (H.out.1.trans ((HB.out.trans (hb3.mono HB.out.size)).mono H.out.1.size))
    clear hb3
    go_wp2_with fail
    go_ret
    exact ⟨rfl, HB3.out⟩
end Go.Proofs.YtmldgfplnacecaaDoor
