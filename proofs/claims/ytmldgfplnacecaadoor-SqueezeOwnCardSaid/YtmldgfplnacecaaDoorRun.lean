/-
  Contract: dfa.Run.
-/
import Derived.Test.YtmldgfplnacecaaDoorRgh
namespace Go.Proofs.YtmldgfplnacecaaDoor
open Go.RowKit Go.Shelf Go.Lib Go.Maps Go.Sort

def stR (R : List (List Int)) (a m : Int) : Int := (R.getD a.toNat []).getD m.toNat 0
def okM (m : Int) : Bool := decide (0 ≤ m) && decide (m < 37)
def runR (R : List (List Int)) (from' : Int) (ms : List Int) : Int := if ms.all okM then ms.foldl (stR R) from' else -1
theorem right_parts {R : List (List Int)} {T : List Nat} (h : rightT R T = true) : 1 ≤ R.length ∧ R.length ≤ 1000 ∧ T.length = R.length ∧ ∀ (i : Nat) r, R[i]? = some r → r.length = 37 ∧ ∀ (m : Nat) x, r[m]? = some x → 0 ≤ x ∧ x < R.length := by
  unfold rightT at h
  simp only [Bool.and_eq_true, decide_eq_true_eq] at h
  obtain ⟨⟨⟨h1, h2⟩, h3⟩, h4⟩ := h
  refine ⟨h1, h2, h3, fun i r hr => ?_⟩
  have := List.all_eq_true.1 h4 r (List.mem_of_getElem? hr)
  unfold rowOk at this
  simp only [Bool.and_eq_true, decide_eq_true_eq] at this
  refine ⟨this.1, fun m x hx => ?_⟩
  have h5 := List.all_eq_true.1 this.2 x (List.mem_of_getElem? hx)
  unfold okIx at h5
  simp only [Bool.and_eq_true, decide_eq_true_eq] at h5
  exact h5
/-- One mark. -/
theorem stR_ok {R : List (List Int)} {T : List Nat} (h : rightT R T = true) {a m : Int} (ha : okIx R.length a = true) (hm : okM m = true) :
    ∃ r x, R[a.toNat]? = some r ∧ r[m.toNat]? = some x ∧ stR R a m = x ∧ okIx R.length x = true := by
  obtain ⟨h1, h2, h3, h4⟩ := right_parts h
  unfold okIx at ha
  unfold okM at hm
  simp only [Bool.and_eq_true, decide_eq_true_eq] at ha hm
  have hr : R[a.toNat]? = some (R[a.toNat]'(by omega)) := List.getElem?_eq_getElem _
  obtain ⟨hl, hx⟩ := h4 _ _ hr
  have hx' : (R[a.toNat]'(by omega))[m.toNat]? = some ((R[a.toNat]'(by omega))[m.toNat]'(by omega)) := List.getElem?_eq_getElem _
  refine ⟨_, _, hr, hx', ?_, ?_⟩
  · unfold stR
    simp [List.getD_eq_getElem?_getD, hr, hx']
  · unfold okIx
    have := hx _ _ hx'
    simp only [Bool.and_eq_true, decide_eq_true_eq]
    exact this
set_option maxHeartbeats 4000000 in
set_option maxRecDepth 100000 in
theorem run_wrong {R : List (List Int)} {T : List Nat} {v : Value} {w : World} (h : TbV w R T v) (a : Int) (ha : i64 a) (ms : Value) (hno : rightT R T = false ∨ okIx R.length a = false) :
    Calls Tryd.prog 47 #[v, .int .i64 a, ms] w fun r w' => r = .returned (.int .i64 (-1)) ∧ Below w.heap.size w w' := by
  obtain ⟨A, c, A2, c2, rfl, hR, hT⟩ := h
  obtain ⟨W0, hW0⟩ : ∃ W, w.alloc (.cells #[.slice A R.length c, .slice A2 T.length c2] 54) = W := ⟨_, rfl⟩
  have b0 : Below w.heap.size w W0 := by rw [← hW0]; exact below_new _ _
  have z0 : W0.heap.size = w.heap.size + 1 := by rw [← hW0]; simp
  have x0 : Cells W0 w.heap.size 54 #[.slice A R.length c, .slice A2 T.length c2] := by rw [← hW0]; exact cells_new _ _ _
  have n1 : R.length ≤ 9223372036854775807 := by have := hR.l; have := hR.m; unfold maxLen at this; omega
  have C := rightD_any (R := R) (T := T) (v := .agg #[.slice A R.length c, .slice A2 T.length c2]) (w := W0) ⟨A, c, A2, c2, rfl, (hR.below b0).mono (by omega), (hT.below b0).mono (by omega)⟩
  have D := fun w' => has_any A A2 R.length c T.length c2 a ha n1 w'
  obtain ⟨n, hn⟩ : ∃ n, R.length = n := ⟨_, rfl⟩
  obtain ⟨n2, hn2⟩ : ∃ n, T.length = n := ⟨_, rfl⟩
  rw [hn, hn2] at C x0 hW0 ⊢
  rw [hn, hn2] at D
  rw [hn] at hno
  have e0 := x0.cell 0
  have e1 := x0.cell 1
  simp at e0 e1
  have H := Lib.hid (And.intro b0 (And.intro z0 x0))
  have HW := Lib.hid hW0
  have HC := Lib.hid C
  have HD := Lib.hid D
  clear b0 z0 x0 hW0 C D hR hT hn hn2 n1
  cases hq : rightT R T with
  | false =>
    rw [hq] at HC
    clear hq hno
    go_enter Tryd.func47, Tryd.ntmps47
    go_wp2_with fail
    rw [HW.out]
    refine HC.out.mono ?_
    rintro r w2 ⟨rfl, hb⟩
    have HB := Lib.hid (H.out.1.trans (hb.mono H.out.1.size))
    clear hb
    go_wp2_with fail
    go_ret
    exact ⟨rfl, HB.out⟩
  | true =>
    rw [hq] at HC hno
    have hno : okIx n a = false := by simpa using hno
    rw [hno] at HD
    clear hq hno
    go_enter Tryd.func47, Tryd.ntmps47
    go_wp2_with fail
    rw [HW.out]
    refine HC.out.mono ?_
    rintro r w2 ⟨rfl, hb⟩
    have bw : Below w.heap.size w w2 := H.out.1.trans (hb.mono H.out.1.size)
    have x2 : Cells w2 w.heap.size 54 #[.slice A n c, .slice A2 n2 c2] := (hb.block _ (by have := H.out.2.1; omega)).trans H.out.2.2
    have e2 := x2.cell 0
    have e3 := x2.cell 1
    simp at e2 e3
    have HB := Lib.hid bw
    clear bw x2 hb
    go_wp2_with fail
    refine (HD.out w2).mono ?_
    rintro r w3 ⟨rfl, hb3⟩
    have HB3 := Lib.hid (HB.out.trans (hb3.mono HB.out.size))
    clear hb3
    go_wp2_with fail
    go_ret
    exact ⟨rfl, HB3.out⟩
theorem foldl_take {R : List (List Int)} {ms : List Int} {k : Nat} {m a : Int} (h : ms[k]? = some m) : (ms.take (k + 1)).foldl (stR R) a = stR R ((ms.take k).foldl (stR R) a) m := by
  rw [List.take_add_one, h, Option.toList_some, List.foldl_append]
  rfl
set_option maxHeartbeats 4000000 in
set_option maxRecDepth 100000 in
theorem run_right {R : List (List Int)} {T : List Nat} {v : Value} {w : World} (h : TbV w R T v) (a : Int) (ha : i64 a) (ms : List Int) (Am : Option Addr) (cm : Nat) (hms : IS w w.heap.size ms Am cm) (hr : rightT R T = true) (hi : okIx R.length a = true) :
    Calls Tryd.prog 47 #[v, .int .i64 a, .slice Am ms.length cm] w fun r w' => r = .returned (.int .i64 (runR R a ms)) ∧ Below w.heap.size w w' := by
  obtain ⟨A, c, A2, c2, rfl, hR, hT⟩ := h
  obtain ⟨W0, hW0⟩ : ∃ W, w.alloc (.cells #[.slice A R.length c, .slice A2 T.length c2] 54) = W := ⟨_, rfl⟩
  have b0 : Below w.heap.size w W0 := by rw [← hW0]; exact below_new _ _
  have z0 : W0.heap.size = w.heap.size + 1 := by rw [← hW0]; simp
  have x0 : Cells W0 w.heap.size 54 #[.slice A R.length c, .slice A2 T.length c2] := by rw [← hW0]; exact cells_new _ _ _
  have n1 : R.length ≤ 9223372036854775807 := by have := hR.l; have := hR.m; unfold maxLen at this; omega
  have lm : ms.length ≤ 9223372036854775807 := by have := hms.l; have := hms.m; unfold maxLen at this; omega
  have C := rightD_any (R := R) (T := T) (v := .agg #[.slice A R.length c, .slice A2 T.length c2]) (w := W0) ⟨A, c, A2, c2, rfl, (hR.below b0).mono (by omega), (hT.below b0).mono (by omega)⟩
  have D := fun w' => has_any A A2 R.length c T.length c2 a ha n1 w'
  rw [hr] at C
  obtain ⟨n, hn⟩ : ∃ n, R.length = n := ⟨_, rfl⟩
  obtain ⟨n2, hn2⟩ : ∃ n, T.length = n := ⟨_, rfl⟩
  obtain ⟨l, hl⟩ : ∃ n, ms.length = n := ⟨_, rfl⟩
  obtain ⟨X, hX⟩ : ∃ X, runR R a ms = X := ⟨_, rfl⟩
  rw [hX]
  rw [hn, hn2] at C x0 hW0 ⊢
  rw [hn, hn2] at D
  rw [hn] at hi
  rw [hi] at D
  rw [hl] at lm ⊢
  have e0 := x0.cell 0
  have e1 := x0.cell 1
  simp at e0 e1
  have hn1000 : n ≤ 1000 := by have := (right_parts hr).2.1; omega
  have H := Lib.hid (And.intro b0 (And.intro z0 (And.intro x0 (And.intro hR (And.intro hr (And.intro hms (And.intro hn (And.intro hl (And.intro hX hi)))))))))
  have HW := Lib.hid hW0
  have HC := Lib.hid C
  have HD := Lib.hid D
  clear b0 z0 x0 hW0 C D hR hT hn hn2 n1 hr hms hl hX hi
  go_enter Tryd.func47, Tryd.ntmps47
  go_wp2_with fail
  rw [HW.out]
  refine HC.out.mono ?_
  rintro r w2 ⟨rfl, hb⟩
  have bw : Below W0.heap.size W0 w2 := hb
  have x2 : Cells w2 w.heap.size 54 #[.slice A n c, .slice A2 n2 c2] := (hb.block _ (by have := H.out.2.1; omega)).trans H.out.2.2.1
  have e2 := x2.cell 0
  have e3 := x2.cell 1
  simp at e2 e3
  have HB := Lib.hid bw
  clear bw x2 hb
  go_wp2_with fail
  refine (HD.out w2).mono ?_
  rintro r w3 ⟨rfl, hb3⟩
  have HB3 := Lib.hid (HB.out.trans (hb3.mono HB.out.size))
  clear hb3 e2 e3 e0 e1
  go_wp2_with fail
  unfold i64 at ha
  go_loopw [1, 20] (fun v i wr => ∃ (k : Nat) (x : Int), v = .int .i64 x ∧ i = .int .i64 (k : Int) ∧ k ≤ l ∧ (ms.take k).all okM = true ∧ (ms.take k).foldl (stR R) a = x ∧ okIx n x = true ∧ wr = w3) (fun _ i _ => l - (RowKit.intOf i).toNat)
  case atStart => exact ⟨0, a, rfl, rfl, by omega, rfl, rfl, H.out.2.2.2.2.2.2.2.2.2, rfl⟩
  case round =>
    obtain ⟨k, x, rfl, rfl, hk, hall, hf, hx, rfl⟩ := hrel
    by_cases hlt : k < l
    · have i5 : (k : Int) < (l : Int) := by omega
      obtain ⟨m, hm⟩ : ∃ m, ms[k]? = some m := ⟨ms[k]'(by rw [H.out.2.2.2.2.2.2.2.1]; exact hlt), List.getElem?_eq_getElem _⟩
      have his := H.out.2.2.2.2.2.1
      obtain ⟨b, o, rfl, hbl, hc⟩ := his.r (by rintro rfl; simp at hm)
      have bw3 : Below w.heap.size w wr := H.out.1.trans (HB3.out.mono H.out.1.size)
      have d0 := (bw3.cell (p := ⟨b, o + k, none⟩) hbl).trans (hc k m hm)
      have h64 := his.i m (List.mem_of_getElem? hm)
      have x3 : Cells wr w.heap.size 54 #[.slice A n c, .slice A2 n2 c2] := (HB3.out.block _ (by have := H.out.2.1; omega)).trans H.out.2.2.1
      have y0 := x3.cell 0
      simp at y0
      have ht := allT_take okM hm
      have hmiss := fun hp => allT_miss (p := okM) hm hp
      have hft := foldl_take (R := R) (a := a) hm
      rw [hall] at ht
      rw [hf] at hft
      unfold i64 at h64
      cases hok : okM m with
      | false =>
        have hX1 : X = -1 := by rw [← H.out.2.2.2.2.2.2.2.2.1]; unfold runR; rw [hmiss hok]; rfl
        have HE := Lib.hid (And.intro hX1 bw3)
        have hok' : ¬ (0 ≤ m ∧ m < 37) := by unfold okM at hok; simp at hok; omega
        clear hX1 bw3 hmiss hft ht hok hall hf hx hm hc his x3
        by_cases h0 : m < 0
        · have j0 : decide (m < 0) = true := by simpa using h0
          go_wp2_with fail
          go_ret
          exact ⟨by rw [HE.out.1]; rfl, HE.out.2⟩
        · have j0 : decide (m < 0) = false := by simpa using h0
          have j1 : (37 : Int) ≤ m := by omega
          have j2 : decide ((37 : Int) ≤ m) = true := by simpa using j1
          go_wp2_with fail
          go_ret
          exact ⟨by rw [HE.out.1]; rfl, HE.out.2⟩
      | true =>
        obtain ⟨r, z, hr1, hr2, hr3, hr4⟩ := stR_ok H.out.2.2.2.2.1 (a := x) (m := m) (by rw [H.out.2.2.2.2.2.2.1]; exact hx) hok
        rw [H.out.2.2.2.2.2.2.1] at hr4
        have hR := H.out.2.2.2.1
        obtain ⟨b', o', rfl, hbl', hc'⟩ := hR.r (by rintro rfl; simp at hr1)
        obtain ⟨A', c', d1, his', _⟩ := hc' x.toNat r hr1
        obtain ⟨b2, o2, rfl, hbl2, hc2⟩ := his'.r (by rintro rfl; simp at hr2)
        have d2 := (bw3.cell (p := ⟨b', o' + x.toNat, none⟩) hbl').trans d1
        have d3 := (bw3.cell (p := ⟨b2, o2 + m.toNat, none⟩) hbl2).trans (hc2 m.toNat z hr2)
        have hrl : r.length = 37 := ((right_parts H.out.2.2.2.2.1).2.2.2 _ _ hr1).1
        rw [hrl] at d2
        have hx' := hx
        unfold okIx at hx'
        simp only [Bool.and_eq_true, decide_eq_true_eq] at hx'
        obtain ⟨x1, x2⟩ := hx'
        unfold okM at hok
        simp only [Bool.and_eq_true, decide_eq_true_eq] at hok
        obtain ⟨m1, m2⟩ := hok
        have j0 : decide (m < 0) = false := by simp; omega
        have j1 : decide ((37 : Int) ≤ m) = false := by simp; omega
        have hend : ∃ (k' : Nat) (x' : Int), Value.int .i64 z = .int .i64 x' ∧ Value.int .i64 ((k : Int) + 1) = .int .i64 (k' : Int) ∧ k' ≤ l ∧ (ms.take k').all okM = true ∧ (ms.take k').foldl (stR R) a = x' ∧ okIx n x' = true ∧ True :=
          ⟨k + 1, z, rfl, by simp, by omega, by rw [ht]; simp [okM, m1, m2], by rw [hft, hr3], hr4, trivial⟩
        have HEND := Lib.hid hend
        clear hend hft ht hmiss hr1 hr2 hr3 hr4 hall hf hx hm hc his x3 hR hc' hc2 his' hrl d1 bw3
        go_wp2_with fail
        go_roundw
        case rel => exact HEND.out
        case measure => simp [RowKit.intOf]; omega
    · obtain rfl : k = l := by omega
      have i5 : ¬ (k : Int) < (k : Int) := by omega
      have e1 : ms.take k = ms := by rw [← H.out.2.2.2.2.2.2.2.1, List.take_length]
      rw [e1] at hall hf
      have hX2 : X = x := by rw [← H.out.2.2.2.2.2.2.2.2.1]; unfold runR; rw [hall]; exact hf
      have HE := Lib.hid (And.intro hX2 (H.out.1.trans (HB3.out.mono H.out.1.size)))
      clear e1 hall hf hX2
      go_wp2_with fail
      go_ret
      exact ⟨by rw [HE.out.1]; rfl, HE.out.2⟩
end Go.Proofs.YtmldgfplnacecaaDoor
