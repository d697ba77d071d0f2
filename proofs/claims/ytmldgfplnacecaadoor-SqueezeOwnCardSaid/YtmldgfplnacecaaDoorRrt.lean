/-
  Contract: the document's Right.
-/
import Derived.Test.YtmldgfplnacecaaDoorTgr
import Derived.Test.YtmldgfplnacecaaDoorRun
namespace Go.Proofs.YtmldgfplnacecaaDoor
open Go.RowKit Go.Shelf Go.Lib Go.Maps Go.Sort


theorem okIx_iff (n : Nat) (y : Int) : okIx n y = (decide (0 ≤ y) && decide (y < (n : Int))) := rfl
set_option maxHeartbeats 8000000 in
set_option maxRecDepth 100000 in
theorem refRightD_any {R : List (List Int)} {T : List Nat} {v : Value} {w : World} (h : TbV w R T v) : Calls Tryd.prog 38 #[v] w fun r w' => r = .returned (.bool (rightT R T)) ∧ Below w.heap.size w w' := by
  obtain ⟨A, c, A2, c2, rfl, hR, hT⟩ := h
  obtain ⟨W0, hW0⟩ : ∃ W, w.alloc (.cells #[.slice A R.length c, .slice A2 T.length c2] 57) = W := ⟨_, rfl⟩
  have b0 : Below w.heap.size w W0 := by rw [← hW0]; exact below_new _ _
  have x0 : Cells W0 w.heap.size 57 #[.slice A R.length c, .slice A2 T.length c2] := by rw [← hW0]; exact cells_new _ _ _
  have n1 : R.length ≤ 9223372036854775807 := by have := hR.l; have := hR.m; unfold maxLen at this; omega
  have n2' : T.length ≤ 9223372036854775807 := by have := hT.l; have := hT.m; unfold maxLen at this; omega
  obtain ⟨X, hX⟩ : ∃ X, rightT R T = X := ⟨_, rfl⟩
  rw [hX]
  have hX1 : (R.length < 1 ∨ 1000 < R.length ∨ T.length ≠ R.length) → X = false := fun e => by
    rw [← hX]
    cases hq : rightT R T with
    | false => rfl
    | true => have := right_parts hq; omega
  have hX2 : 1 ≤ R.length → R.length ≤ 1000 → T.length = R.length → X = R.all (rowOk R.length) := fun e1 e2 e3 => by
    rw [← hX]; unfold rightT
    simp [e1, e2, e3]
  obtain ⟨n, hn⟩ : ∃ n, R.length = n := ⟨_, rfl⟩
  obtain ⟨n2, hn2⟩ : ∃ n, T.length = n := ⟨_, rfl⟩
  rw [hn, hn2] at x0 hW0 hX1 hX2 ⊢
  rw [hn] at n1
  rw [hn2] at n2'
  have e0 := x0.cell 0
  have e1 := x0.cell 1
  simp at e0 e1
  have H := Lib.hid (And.intro b0 (And.intro hR (And.intro hn (And.intro hX1 hX2))))
  have HW := Lib.hid hW0
  clear b0 x0 hW0 hR hT hn hn2 hX hX1 hX2
  by_cases h1 : 1 ≤ n
  · have i1 : (1 : Int) ≤ n := by omega
    have j1 : decide ((1 : Int) ≤ n) = true := by simpa using i1
    by_cases h2 : n ≤ 1000
    · have i2 : (n : Int) ≤ 1000 := by omega
      have j2 : decide ((n : Int) ≤ 1000) = true := by simpa using i2
      by_cases h3 : n2 = n
      · have hXX := Lib.hid (H.out.2.2.2.2 h1 h2 h3)
        subst h3
        have i3 : ((n2 : Int) == (n2 : Int)) = true := by simp
        go_enter Tryd.func38, Tryd.ntmps38
        go_wp2_with fail
        rw [HW.out]
        go_loopw [4, 5] (fun u4 u5 wr => ∃ (k : Nat) (b : Bool), u4 = .bool b ∧ u5 = .int .i64 (k : Int) ∧ k ≤ n2 ∧ (R.take k).all (rowOk n2) = b ∧ wr = W0) (fun _ u5 _ => n2 - (RowKit.intOf u5).toNat)
        case atStart => exact ⟨0, true, rfl, rfl, by omega, rfl, rfl⟩
        case round =>
          obtain ⟨k, b, rfl, rfl, hk, hall, hw⟩ := hrel
          obtain rfl := hw.symm
          clear hw
          by_cases hlt : k < n2
          · have i5 : (k : Int) < (n2 : Int) := by omega
            cases b with
            | false =>
              have hXf : X = false := by
                rw [hXX.out, List.all_eq_false]
                obtain ⟨r, hr1, hr2⟩ := List.all_eq_false.1 hall
                exact ⟨r, List.mem_of_mem_take hr1, hr2⟩
              have HF := Lib.hid hXf
              clear hall hXf
              go_wp2_with fail
              go_ret
              exact ⟨ret_bool HF.out.symm, H.out.1⟩
            | true =>
              obtain ⟨x, hx⟩ : ∃ x, R[k]? = some x := ⟨R[k]'(by rw [H.out.2.2.1]; exact hlt), List.getElem?_eq_getElem _⟩
              obtain ⟨bb, o, rfl, hbl, hc⟩ := H.out.2.1.r (by rintro rfl; simp at hx)
              obtain ⟨A', c', d0, his, _⟩ := hc k x hx
              have d1 := (H.out.1.cell (p := ⟨bb, o + k, none⟩) hbl).trans d0
              have his' := (his.below H.out.1).mono H.out.1.size
              have ht := allT_take (rowOk n2) hx
              rw [hall] at ht
              have hxl : x.length ≤ 9223372036854775807 := by have := his.l; have := his.m; unfold maxLen at this; omega
              obtain ⟨l, hl⟩ : ∃ l, x.length = l := ⟨_, rfl⟩
              rw [hl] at d1 hxl
              obtain ⟨b37, hb37⟩ : ∃ b, ((l : Int) == 37) = b := ⟨_, rfl⟩
              have hrow : rowOk n2 x = (b37 && x.all (okIx n2)) := by
                unfold rowOk
                rw [hl, ← hb37]
                congr 1
                rw [Bool.eq_iff_iff]
                simp
                omega
              have HK := Lib.hid (And.intro ht (And.intro hx (And.intro his' (And.intro hl hrow))))
              clear ht hx hc d0 his his' hl hall hrow
              go_wp2_with fail
              go_loopw [4, 6] (fun u4 u6 wi => ∃ (m : Nat) (b : Bool), u4 = .bool b ∧ u6 = .int .i64 (m : Int) ∧ m ≤ l ∧ (b37 && (x.take m).all (okIx n2)) = b ∧ wi = W0) (fun _ u6 _ => l - (RowKit.intOf u6).toNat)
              case atStart => exact ⟨0, b37, rfl, rfl, by omega, by simp, rfl⟩
              case round =>
                obtain ⟨m, b, rfl, rfl, hm, hb, hw⟩ := hrel
                obtain rfl := hw.symm
                clear hw
                by_cases hml : m < l
                · have i6 : (m : Int) < (l : Int) := by omega
                  obtain ⟨y, hy⟩ : ∃ y, x[m]? = some y := ⟨x[m]'(by have := HK.out.2.2.2.1; omega), List.getElem?_eq_getElem _⟩
                  have hty := allT_take (okIx n2) hy
                  cases b with
                  | false =>
                    have hend : (b37 && (x.take (m + 1)).all (okIx n2)) = false := by
                      rw [hty, ← Bool.and_assoc, hb]; rfl
                    have HEND := Lib.hid hend
                    clear hend hty hy hb
                    go_wp2_with fail
                    go_roundw
                    case rel => exact ⟨m + 1, false, rfl, by go_num, by omega, HEND.out, trivial⟩
                    case measure => simp [RowKit.intOf]; omega
                  | true =>
                    obtain ⟨b2, o2, rfl, hbl2, hc2⟩ := HK.out.2.2.1.r (by rintro rfl; simp at hy)
                    have d2 := hc2 m y hy
                    have hty2 : (b37 && (x.take (m + 1)).all (okIx n2)) = okIx n2 y := by
                      rw [hty, ← Bool.and_assoc, hb]; rfl
                    rw [okIx_iff] at hty2
                    have HEND := Lib.hid hty2
                    clear hty hty2 hy hb hc2
                    by_cases y0 : 0 ≤ y
                    · have k0 : decide (0 ≤ y) = true := by simpa using y0
                      by_cases y1 : y < (n2 : Int)
                      · have k1 : decide (y < (n2 : Int)) = true := by simpa using y1
                        go_wp2_with fail
                        go_roundw
                        case rel => exact ⟨m + 1, true, rfl, by go_num, by omega, by rw [HEND.out, k0, k1]; rfl, trivial⟩
                        case measure => simp [RowKit.intOf]; omega
                      · have k1 : decide (y < (n2 : Int)) = false := by simpa using y1
                        go_wp2_with fail
                        go_roundw
                        case rel => exact ⟨m + 1, false, rfl, by go_num, by omega, by rw [HEND.out, k0, k1]; rfl, trivial⟩
                        case measure => simp [RowKit.intOf]; omega
                    · have k0 : decide (0 ≤ y) = false := by simpa using y0
                      go_wp2_with fail
                      go_roundw
                      case rel => exact ⟨m + 1, false, rfl, by go_num, by omega, by rw [HEND.out, k0]; rfl, trivial⟩
                      case measure => simp [RowKit.intOf]; omega
                · obtain rfl : m = l := by omega
                  have i6 : ¬ (m : Int) < (m : Int) := by omega
                  have e1 : x.take m = x := by rw [← HK.out.2.2.2.1, List.take_length]
                  rw [e1] at hb
                  have hend : (R.take (k + 1)).all (rowOk n2) = b := by
                    rw [HK.out.1, HK.out.2.2.2.2, hb]; simp
                  have HEND := Lib.hid hend
                  clear hend hb e1
                  go_wp2_with fail
                  go_roundw
                  case rel => exact ⟨k + 1, b, rfl, by go_num, by omega, HEND.out, trivial⟩
                  case measure => simp [RowKit.intOf]; omega
          · obtain rfl : k = n2 := by omega
            have i5 : ¬ (k : Int) < (k : Int) := by omega
            have e1 : R.take k = R := by rw [← H.out.2.2.1, List.take_length]
            rw [e1] at hall
            have HF := Lib.hid hall
            clear e1 hall
            go_wp2_with fail
            go_ret
            exact ⟨ret_bool (by rw [hXX.out]; exact HF.out.symm), H.out.1⟩
      · have i3 : ((n2 : Int) == (n : Int)) = false := by simp; omega
        have hXf := Lib.hid (H.out.2.2.2.1 (.inr (.inr h3)))
        clear h3
        go_enter Tryd.func38, Tryd.ntmps38
        go_wp2_with fail
        rw [HW.out]
        go_loopw [4, 5] (fun u4 u5 wr => u4 = .bool false ∧ u5 = .int .i64 0 ∧ wr = W0) (fun _ _ _ => 0)
        case atStart => exact ⟨rfl, rfl, rfl⟩
        case round =>
          obtain ⟨rfl, rfl, hw⟩ := hrel
          obtain rfl := hw.symm
          clear hw
          have i5 : (0 : Int) < (n : Int) := by omega
          go_wp2_with fail
          go_ret
          exact ⟨ret_bool hXf.out.symm, H.out.1⟩
    · have i2 : ¬ (n : Int) ≤ 1000 := by omega
      have j2 : decide ((n : Int) ≤ 1000) = false := by simpa using i2
      have hXf := Lib.hid (H.out.2.2.2.1 (.inr (.inl (by omega))))
      go_enter Tryd.func38, Tryd.ntmps38
      go_wp2_with fail
      rw [HW.out]
      go_loopw [4, 5] (fun u4 u5 wr => u4 = .bool false ∧ u5 = .int .i64 0 ∧ wr = W0) (fun _ _ _ => 0)
      case atStart => exact ⟨rfl, rfl, rfl⟩
      case round =>
        obtain ⟨rfl, rfl, hw⟩ := hrel
        obtain rfl := hw.symm
        clear hw
        have i5 : (0 : Int) < (n : Int) := by omega
        go_wp2_with fail
        go_ret
        exact ⟨ret_bool hXf.out.symm, H.out.1⟩
  · have i1 : ¬ (1 : Int) ≤ n := by omega
    have j1 : decide ((1 : Int) ≤ n) = false := by simpa using i1
    have hXf := Lib.hid (H.out.2.2.2.1 (.inl (by omega)))
    go_enter Tryd.func38, Tryd.ntmps38
    go_wp2_with fail
    rw [HW.out]
    go_loopw [4, 5] (fun u4 u5 wr => u4 = .bool false ∧ u5 = .int .i64 0 ∧ wr = W0) (fun _ _ _ => 0)
    case atStart => exact ⟨rfl, rfl, rfl⟩
    case round =>
      obtain ⟨rfl, rfl, hw⟩ := hrel
      obtain rfl := hw.symm
      clear hw
      have i5 : ¬ (0 : Int) < (n : Int) := by omega
      go_wp2_with fail
      go_ret
      exact ⟨ret_bool hXf.out.symm, H.out.1⟩
end Go.Proofs.YtmldgfplnacecaaDoor
