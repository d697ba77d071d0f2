/-
  Contract: the document's Same.
-/
import Derived.Test.YtmldgfplnacecaaDoorSam
import Derived.Sort.Walk7a
namespace Go.Proofs.YtmldgfplnacecaaDoor
open Go.RowKit Go.Shelf Go.Lib Go.Maps Go.Sort


set_option maxHeartbeats 8000000 in
set_option maxRecDepth 100000 in
theorem refSame_any {R R' : List (List Int)} {T T' : List Nat} {v v' : Value} {w : World} (h : TbV w R T v) (h' : TbV w R' T' v') :
    Calls Tryd.prog 29 #[v, v'] w fun r w' => r = .returned (.bool (decide (R = R') && decide (T = T'))) ∧ Below w.heap.size w w' := by
  obtain ⟨A, c, A2, c2, rfl, hR, hT⟩ := h
  obtain ⟨A', c', A2', c2', rfl, hR', hT'⟩ := h'
  obtain ⟨W0, hW0⟩ : ∃ W, (w.alloc (.cells #[.slice A R.length c, .slice A2 T.length c2] 57)).alloc (.cells #[.slice A' R'.length c', .slice A2' T'.length c2'] 57) = W := ⟨_, rfl⟩
  have b0 : Below w.heap.size w W0 := by rw [← hW0]; exact (below_new w _).trans ((below_new _ _).mono (by simp))
  have z0 : W0.heap.size = w.heap.size + 1 + 1 := by rw [← hW0]; simp
  have x0 : Cells W0 w.heap.size 57 #[.slice A R.length c, .slice A2 T.length c2] := by rw [← hW0]; exact ((below_new _ _).block _ (by simp)).trans (cells_new _ _ _)
  have x1 : Cells W0 (w.heap.size + 1) 57 #[.slice A' R'.length c', .slice A2' T'.length c2'] := by
    rw [← hW0]
    have := cells_new (w.alloc (.cells #[.slice A R.length c, .slice A2 T.length c2] 57)) #[.slice A' R'.length c', .slice A2' T'.length c2'] 57
    simpa using this
  have e0 := x0.cell 0
  have e1 := x0.cell 1
  have e2 := x1.cell 0
  have e3 := x1.cell 1
  simp at e0 e1 e2 e3
  have l1 : R.length ≤ 9223372036854775807 := by have := hR.l; have := hR.m; unfold maxLen at this; omega
  have l2 : T.length ≤ 9223372036854775807 := by have := hT.l; have := hT.m; unfold maxLen at this; omega
  have l3 : R'.length ≤ 9223372036854775807 := by have := hR'.l; have := hR'.m; unfold maxLen at this; omega
  have l4 : T'.length ≤ 9223372036854775807 := by have := hT'.l; have := hT'.m; unfold maxLen at this; omega
  obtain ⟨X, hX⟩ : ∃ X, (decide (R = R') && decide (T = T')) = X := ⟨_, rfl⟩
  rw [hX]
  have hXf : R ≠ R' ∨ T ≠ T' → X = false := fun e => by
    rw [← hX]
    rcases e with e | e <;> simp [e]
  have hXt : R = R' → T = T' → X = true := fun e f => by rw [← hX]; simp [e, f]
  obtain ⟨n1, hn1⟩ : ∃ n, R.length = n := ⟨_, rfl⟩
  obtain ⟨n2, hn2⟩ : ∃ n, T.length = n := ⟨_, rfl⟩
  obtain ⟨n3, hn3⟩ : ∃ n, R'.length = n := ⟨_, rfl⟩
  obtain ⟨n4, hn4⟩ : ∃ n, T'.length = n := ⟨_, rfl⟩
  rw [hn1, hn2] at hW0 x0
  rw [hn1] at e0 l1
  rw [hn2] at e1 l2
  rw [hn3] at e2 l3
  rw [hn3, hn4] at hW0 x1
  rw [hn4] at e3 l4
  rw [hn1, hn2, hn3, hn4]
  have H := Lib.hid (And.intro b0 (And.intro z0 (And.intro x0 x1)))
  have HT := Lib.hid (And.intro hR (And.intro hT (And.intro hR' hT')))
  have HX := Lib.hid (And.intro hXf hXt)
  have HN := Lib.hid (And.intro hn1 (And.intro hn2 (And.intro hn3 hn4)))
  have HW := Lib.hid hW0
  clear b0 z0 x0 x1 hW0 hR hT hR' hT' hX hXf hXt
  by_cases h1 : n1 = n3
  · by_cases h2 : n2 = n4
    · have HNn := Lib.hid (And.intro hn1 (And.intro hn2 (And.intro hn3 hn4)))
      clear hn1 hn2 hn3 hn4
      subst h1 h2
      have i1 : ((n1 : Int) != (n1 : Int)) = false := by simp
      have i2 : ((n2 : Int) != (n2 : Int)) = false := by simp
      have i3 : ((n1 : Int) == (n1 : Int)) = true := by simp
      have i4 : ((n2 : Int) == (n2 : Int)) = true := by simp
      go_enter Tryd.func29, Tryd.ntmps29
      go_wp2_with fail
      rw [HW.out]
      clear e0 e1 e2 e3
      go_loopw [5] (fun i wr => ∃ k : Nat, i = .int .i64 (k : Int) ∧ k ≤ n1 ∧ R.take k = R'.take k ∧ Below W0.heap.size W0 wr) (fun i _ => n1 - (RowKit.intOf i).toNat)
      case atStart => exact ⟨0, rfl, by omega, by simp, Below.refl _ _⟩
      case round =>
        obtain ⟨k, rfl, hk, htk, hb⟩ := hrel
        have y0 : Cells wr w.heap.size 57 #[.slice A n1 c, .slice A2 n2 c2] := (hb.block _ H.out.2.2.1.lt).trans H.out.2.2.1
        have y1 : Cells wr (w.heap.size + 1) 57 #[.slice A' n1 c', .slice A2' n2 c2'] := (hb.block _ H.out.2.2.2.lt).trans H.out.2.2.2
        have g0 := y0.cell 0
        have g1 := y0.cell 1
        have g2 := y1.cell 0
        have g3 := y1.cell 1
        simp at g0 g1 g2 g3
        have bw : Below w.heap.size w wr := H.out.1.trans (hb.mono H.out.1.size)
        by_cases hlt : k < n1
        · have i5 : (k : Int) < (n1 : Int) := by omega
          obtain ⟨x, hx⟩ : ∃ x, R[k]? = some x := ⟨R[k]'(by rw [HN.out.1]; exact hlt), List.getElem?_eq_getElem _⟩
          obtain ⟨y, hy⟩ : ∃ y, R'[k]? = some y := ⟨R'[k]'(by rw [HN.out.2.2.1]; exact hlt), List.getElem?_eq_getElem _⟩
          obtain ⟨b, o, rfl, hbl, hc⟩ := HT.out.1.r (by rintro rfl; simp at hx)
          obtain ⟨b', o', rfl, hbl', hc'⟩ := HT.out.2.2.1.r (by rintro rfl; simp at hy)
          obtain ⟨A1, c1, x1, x2, _⟩ := hc k x hx
          obtain ⟨A3, c3, y1', y2, _⟩ := hc' k y hy
          have d0 := (bw.cell (p := ⟨b, o + k, none⟩) hbl).trans x1
          have d1 := (bw.cell (p := ⟨b', o' + k, none⟩) hbl').trans y1'
          have x2' := (x2.below bw).mono bw.size
          have y2' := (y2.below bw).mono bw.size
          have C : ∀ d os, Calls Tryd.prog 65 #[.slice A1 x.length c1, .slice A3 y.length c3] (grow (redrawn wr d) os) fun e w'' => e = .returned (.bool (decide (x = y))) ∧ ∃ p : Regrown, w'' = grow (redrawn wr p.d) p.os :=
            fun d os => Calls.regrown_of (same55_any x y A1 A3 c1 c3 _ (x2'.on (below_regrown wr d os)) (y2'.on (below_regrown wr d os)))
          obtain ⟨lx, hlx⟩ : ∃ n, x.length = n := ⟨_, rfl⟩
          obtain ⟨ly, hly⟩ : ∃ n, y.length = n := ⟨_, rfl⟩
          rw [hlx] at C d0
          rw [hly] at C d1
          have q0 := cell_regrown g0
          have q2 := cell_regrown g2
          have q4 := cell_regrown d0
          have q5 := cell_regrown d1
          have HK := Lib.hid (And.intro htk (And.intro hb (And.intro hx (And.intro hy bw))))
          by_cases he : x = y
          · have hq : decide (x = y) = true := by simpa using he
            rw [hq] at C
            have HE := Lib.hid he
            clear he hq htk hb hc hc' hx hy x1 x2 y1' y2 hlx hly x2' y2' bw y0 y1 d0 d1
            go_wp2_with fail
            clear g0 g1 g2 g3
            refine wp_region_quiet_below (by kernel_rfl) (by kernel_rfl) ?_
            repeat (go_big_quiet_step (exact C _ _))
            refine wpQuiet_nil ?_
            intro _ hw'
            obtain ⟨⟨dq, osq⟩, hw''⟩ := hw'
            subst hw''
            have HB := Lib.hid (HK.out.2.1.trans ((below_regrown wr dq osq).mono HK.out.2.1.size))
            clear q0 q2 q4 q5 C
            go_wp2_with fail
            go_roundw
            case rel => exact ⟨k + 1, by go_num, by omega, take_eq_snocR HK.out.1 HK.out.2.2.1 HK.out.2.2.2.1 HE.out, HB.out⟩
            case measure => simp [RowKit.intOf]; omega
          · have hq : decide (x = y) = false := by simpa using he
            rw [hq] at C
            have : X = false := HX.out.1 (.inl (fun e => by
              have h1 := HK.out.2.2.1
              rw [e, HK.out.2.2.2.1] at h1
              injection h1 with h1
              exact he h1.symm))
            subst this
            clear he hq htk hb hc hc' hx hy x1 x2 y1' y2 hlx hly x2' y2' bw y0 y1 d0 d1
            go_wp2_with fail
            clear g0 g1 g2 g3
            refine wp_region_quiet_below (by kernel_rfl) (by kernel_rfl) ?_
            repeat (go_big_quiet_step (exact C _ _))
            refine wpQuiet_nil ?_
            intro _ hw'
            obtain ⟨⟨dq, osq⟩, hw''⟩ := hw'
            subst hw''
            have HB := Lib.hid (HK.out.2.2.2.2.trans ((below_regrown wr dq osq).mono HK.out.2.2.2.2.size))
            clear q0 q2 q4 q5 C
            go_wp2_with fail
            go_ret
            exact ⟨rfl, HB.out⟩
        · obtain rfl : k = n1 := by omega
          have i5 : ¬ (k : Int) < (k : Int) := by omega
          have hRR : R = R' := by
            have e1 : R.take k = R := by rw [← HN.out.1, List.take_length]
            have e2 : R'.take k = R' := by rw [← HN.out.2.2.1, List.take_length]
            rw [e1, e2] at htk
            exact htk
          have HRR := Lib.hid hRR
          have HB := Lib.hid hb
          clear htk hRR hb bw y0 y1
          go_wp2_with fail
          clear g0 g1 g2 g3
          go_loopw [6] (fun i wr2 => ∃ m : Nat, i = .int .i64 (m : Int) ∧ m ≤ n2 ∧ T.take m = T'.take m ∧ Below W0.heap.size W0 wr2) (fun i _ => n2 - (RowKit.intOf i).toNat)
          case atStart => exact ⟨0, rfl, by omega, by simp, HB.out⟩
          case round =>
            rename_i wr2
            obtain ⟨m, rfl, hm, htm, hb⟩ := hrel
            have y0 : Cells wr w.heap.size 57 #[.slice A k c, .slice A2 n2 c2] := (hb.block _ H.out.2.2.1.lt).trans H.out.2.2.1
            have y1 : Cells wr (w.heap.size + 1) 57 #[.slice A' k c', .slice A2' n2 c2'] := (hb.block _ H.out.2.2.2.lt).trans H.out.2.2.2
            have g1 := y0.cell 1
            have g3 := y1.cell 1
            simp at g1 g3
            have bw : Below w.heap.size w wr := H.out.1.trans (hb.mono H.out.1.size)
            by_cases hlt2 : m < n2
            · have i6 : (m : Int) < (n2 : Int) := by omega
              obtain ⟨x, hx⟩ : ∃ x, T[m]? = some x := ⟨T[m]'(by rw [HN.out.2.1]; exact hlt2), List.getElem?_eq_getElem _⟩
              obtain ⟨y, hy⟩ : ∃ y, T'[m]? = some y := ⟨T'[m]'(by rw [HN.out.2.2.2]; exact hlt2), List.getElem?_eq_getElem _⟩
              obtain ⟨b, o, rfl, hbl, hc⟩ := HT.out.2.1.r (by rintro rfl; simp at hx)
              obtain ⟨b', o', rfl, hbl', hc'⟩ := HT.out.2.2.2.r (by rintro rfl; simp at hy)
              have d0 := (bw.cell (p := ⟨b, o + m, none⟩) hbl).trans (hc m x hx)
              have d1 := (bw.cell (p := ⟨b', o' + m, none⟩) hbl').trans (hc' m y hy)
              have HK := Lib.hid (And.intro htm (And.intro hb (And.intro hx (And.intro hy bw))))
              clear htm hb hc hc' hx hy bw y0 y1
              by_cases he : x = y
              · have hq : ((x : Int) == (y : Int)) = true := by simp; omega
                have hq' : ((x : Int) != (y : Int)) = false := by simp; omega
                have HE := Lib.hid he
                clear he
                go_wp2_with fail
                go_quiet (fail)
                rename_i nq _
                have HB2 := Lib.hid (below_drewN HK.out.2.1 nq)
                go_wp2_with fail
                go_roundw
                case rel => exact ⟨m + 1, by go_num, by omega, take_eq_snocN HK.out.1 HK.out.2.2.1 HK.out.2.2.2.1 HE.out, HB2.out⟩
                case measure => simp [RowKit.intOf]; omega
              · have hq : ((x : Int) == (y : Int)) = false := by simp; omega
                have hq' : ((x : Int) != (y : Int)) = true := by simp; omega
                have : X = false := HX.out.1 (.inr (fun e => by
                  have h1 := HK.out.2.2.1
                  rw [e, HK.out.2.2.2.1] at h1
                  injection h1 with h1
                  exact he h1.symm))
                subst this
                clear he
                go_wp2_with fail
                go_quiet (fail)
                rename_i nq _
                have HB2 := Lib.hid (below_drewN HK.out.2.2.2.2 nq)
                go_wp2_with fail
                go_ret
                exact ⟨rfl, HB2.out⟩
            · obtain rfl : m = n2 := by omega
              have i6 : ¬ (m : Int) < (m : Int) := by omega
              have : X = true := HX.out.2 HRR.out (by
                have e1 : T.take m = T := by rw [← HN.out.2.1, List.take_length]
                have e2 : T'.take m = T' := by rw [← HN.out.2.2.2, List.take_length]
                rw [e1, e2] at htm
                exact htm)
              subst this
              have HB2 := Lib.hid bw
              clear htm hb bw y0 y1
              go_wp2_with fail
              go_ret
              exact ⟨rfl, HB2.out⟩
    · have i1 : ((n1 : Int) != (n3 : Int)) = false := by simp; omega
      have j1 : ((n1 : Int) == (n3 : Int)) = true := by simp; omega
      have i2 : ((n2 : Int) != (n4 : Int)) = true := by simp; omega
      have j2 : ((n2 : Int) == (n4 : Int)) = false := by simp; omega
      have : X = false := HX.out.1 (.inr (fun e => by rw [e] at hn2; omega))
      subst this
      clear hn1 hn2 hn3 hn4 h1
      go_enter Tryd.func29, Tryd.ntmps29
      go_wp2_with fail
      rw [HW.out]
      go_ret
      exact ⟨rfl, H.out.1⟩
  · have i1 : ((n1 : Int) != (n3 : Int)) = true := by simp; omega
    have j1 : ((n1 : Int) == (n3 : Int)) = false := by simp; omega
    have : X = false := HX.out.1 (.inl (fun e => by rw [e] at hn1; omega))
    subst this
    clear hn1 hn2 hn3 hn4
    go_enter Tryd.func29, Tryd.ntmps29
    go_wp2_with fail
    rw [HW.out]
    go_ret
    exact ⟨rfl, H.out.1⟩
end Go.Proofs.YtmldgfplnacecaaDoor
