/-
  Contracts: dfa.Right, Run, Tells, New.
  Contracts: dfa.Run, Tells, New.
  Contracts: dfa.Tells, New.
  The two tables of the example: what they are.
  Contracts: nfa.leaves.
  Contracts: nfa.fault.
-/
import Derived.Test.YteamonmneoakpaaDoorXqh
import Derived.Test.YteamonmneoakpaaDoorXqc
namespace Go.Proofs.YteamonmneoakpaaDoor
open Go.RowKit Go.Shelf Go.Lib Go.Great Go.Maps

theorem all_okIx {n : Nat} (r : List Int) : (r.all (okIx n)) = !(r.any fun x => !okIx n x) := by
  induction r with
  | nil => rfl
  | cons x t ih => simp [ih]
theorem allT_take {α : Type} {xs : List α} {k : Nat} {x : α} (p : α → Bool) (h : xs[k]? = some x) : (xs.take (k + 1)).all p = ((xs.take k).all p && p x) := by
  rw [List.take_add_one, h, Option.toList_some, List.all_append]
  simp
theorem allT_miss {α : Type} {xs : List α} {k : Nat} {x : α} {p : α → Bool} (h : xs[k]? = some x) (hp : p x = false) : xs.all p = false := by
  rw [List.all_eq_false]
  exact ⟨x, List.mem_of_getElem? h, by simp [hp]⟩
set_option maxHeartbeats 4000000 in
set_option maxRecDepth 100000 in
theorem right_small (A A2 : Option Addr) (n c n2 c2 : Nat) (h63 : n ≤ 9223372036854775807) (_h64 : n2 ≤ 9223372036854775807) (w : World) (h : n < 1 ∨ 1000 < n ∨ n2 ≠ n) :
    Calls Tryd.prog 30 #[.agg #[.slice A n c, .slice A2 n2 c2]] w fun r w' => r = .returned (.bool false) ∧ Below w.heap.size w w' := by
  have bb := Lib.hid (below_new w (.cells #[.slice A n c, .slice A2 n2 c2] 54))
  by_cases h1 : n < 1
  · have i1 : (n : Int) < 1 := by omega
    clear h
    go_enter Tryd.func30, Tryd.ntmps30
    go_wp2_with fail
    go_ret
    exact ⟨rfl, bb.out⟩
  · have i1 : ¬ (n : Int) < 1 := by omega
    have j1 : decide ((n : Int) < 1) = false := by simpa using i1
    by_cases h2 : 1000 < n
    · have i2 : (1000 : Int) < n := by omega
      have j2 : decide ((1000 : Int) < n) = true := by simpa using i2
      clear h
      go_enter Tryd.func30, Tryd.ntmps30
      go_wp2_with fail
      go_ret
      exact ⟨rfl, bb.out⟩
    · have i2 : ¬ (1000 : Int) < n := by omega
      have j2 : decide ((1000 : Int) < n) = false := by simpa using i2
      have i3 : ((n2 : Int) != (n : Int)) = true := by simp; omega
      have i4 : ((n2 : Int) == (n : Int)) = false := by simp; omega
      clear h
      go_enter Tryd.func30, Tryd.ntmps30
      go_wp2_with fail
      go_ret
      exact ⟨rfl, bb.out⟩
set_option maxHeartbeats 4000000 in
set_option maxRecDepth 100000 in
theorem right_big (R : List (List Int)) (A A2 : Option Addr) (c n2 c2 : Nat) (w : World) (hR : RsAt w w.heap.size R A c) (h1 : 1 ≤ R.length) (h2 : R.length ≤ 1000) (h3 : n2 = R.length) :
    Calls Tryd.prog 30 #[.agg #[.slice A R.length c, .slice A2 n2 c2]] w fun r w' => r = .returned (.bool (R.all (rowOk R.length))) ∧ Below w.heap.size w w' := by
  obtain ⟨W0, hW0⟩ : ∃ W, w.alloc (.cells #[.slice A R.length c, .slice A2 n2 c2] 54) = W := ⟨_, rfl⟩
  have b0 : Below w.heap.size w W0 := by rw [← hW0]; exact below_new _ _
  have z0 : W0.heap.size = w.heap.size + 1 := by rw [← hW0]; simp
  have x0 : Cells W0 w.heap.size 54 #[.slice A R.length c, .slice A2 n2 c2] := by rw [← hW0]; exact cells_new _ _ _
  have e0 := x0.cell 0
  have e1 := x0.cell 1
  simp at e0 e1
  obtain ⟨X, hX⟩ : ∃ X, R.all (rowOk R.length) = X := ⟨_, rfl⟩
  obtain ⟨n, hn⟩ : ∃ n, R.length = n := ⟨_, rfl⟩
  subst h3
  rw [hn] at hX x0 hW0 e0 e1 h1 h2 ⊢
  rw [hX]
  have H := Lib.hid (And.intro hR (And.intro hn (And.intro hX (And.intro b0 (And.intro z0 x0)))))
  have HW := Lib.hid hW0
  have i1 : ¬ (n : Int) < 1 := by omega
  have j1 : decide ((n : Int) < 1) = false := by simpa using i1
  have i2 : ¬ (1000 : Int) < n := by omega
  have j2 : decide ((1000 : Int) < n) = false := by simpa using i2
  have i3 : ((n : Int) != (n : Int)) = false := by simp
  clear hR hn hX b0 z0 x0 hW0 h1
  go_enter Tryd.func30, Tryd.ntmps30
  go_wp2_with fail
  rw [HW.out]
  go_loopw [27] (fun i wr => ∃ k : Nat, i = .int .i64 (k : Int) ∧ k ≤ n ∧ (R.take k).all (rowOk n) = true ∧ Below W0.heap.size W0 wr) (fun i _ => n - (RowKit.intOf i).toNat)
  case atStart => exact ⟨0, rfl, by omega, rfl, Below.refl _ _⟩
  case round =>
    obtain ⟨k, rfl, hk, hall, hb⟩ := hrel
    by_cases hlt : k < n
    · have i5 : (k : Int) < (n : Int) := by omega
      obtain ⟨x, hx⟩ : ∃ x, R[k]? = some x := ⟨R[k]'(by rw [H.out.2.1]; exact hlt), List.getElem?_eq_getElem _⟩
      obtain ⟨b, o, rfl, hbl, hc⟩ := H.out.1.r (by rintro rfl; simp at hx)
      obtain ⟨A', c', d0, his, _⟩ := hc k x hx
      have bw : Below w.heap.size w wr := H.out.2.2.2.1.trans (hb.mono H.out.2.2.2.1.size)
      have d1 := (bw.cell (p := ⟨b, o + k, none⟩) hbl).trans d0
      have his' := (his.below bw).mono bw.size
      have C := contains_any (some ⟨b, o, none⟩) A2 n c n c2 w.heap.size (by omega) x A' c' wr ((hb.block _ (by have := H.out.2.2.2.2.1; omega)).trans H.out.2.2.2.2.2) his'
      have hrow : rowOk n x = (decide (x.length = 37) && !(x.any fun y => !okIx n y)) := by unfold rowOk; rw [all_okIx]
      have ht := allT_take (rowOk n) hx
      have hm := fun hp => allT_miss (p := rowOk n) hx hp
      rw [hall, hrow] at ht
      rw [hrow] at hm
      have hxl : x.length ≤ 9223372036854775807 := by have := his.l; have := his.m; unfold maxLen at this; omega
      obtain ⟨l, hl⟩ : ∃ l, x.length = l := ⟨_, rfl⟩
      rw [hl] at C d1 ht hm hxl
      generalize (x.any fun y => !okIx n y) = p at *
      have HC := Lib.hid C
      have HK := Lib.hid (And.intro ht (And.intro hm (And.intro hb bw)))
      clear C ht hm hb bw hall hx hc d0 his his' hrow hl
      by_cases h37 : l = 37
      · have i6 : ((l : Int) != 37) = false := by simp; omega
        have i7 : ((l : Int) == 37) = true := by simp; omega
        have HL := Lib.hid h37
        clear h37
        cases p
        · go_wp2_with fail
          refine HC.out.mono ?_
          rintro r w2 ⟨rfl, hb2⟩
          have HB2 := Lib.hid (HK.out.2.2.1.trans (hb2.mono HK.out.2.2.1.size))
          clear hb2
          go_wp2_with fail
          go_roundw
          case rel => exact ⟨k + 1, by go_num, by omega, by rw [HK.out.1, HL.out]; rfl, HB2.out⟩
          case measure => simp [RowKit.intOf]; omega
        · go_wp2_with fail
          refine HC.out.mono ?_
          rintro r w2 ⟨rfl, hb2⟩
          have HB2 := Lib.hid (HK.out.2.2.2.trans (hb2.mono HK.out.2.2.2.size))
          clear hb2
          go_wp2_with fail
          go_ret
          exact ⟨ret_bool (by rw [← H.out.2.2.1]; exact (HK.out.2.1 (by rw [HL.out]; rfl)).symm), HB2.out⟩
      · have i6 : ((l : Int) != 37) = true := by simp; omega
        have i7 : ((l : Int) == 37) = false := by simp; omega
        have HL := Lib.hid h37
        clear h37
        go_wp2_with fail
        go_ret
        exact ⟨ret_bool (by rw [← H.out.2.2.1]; exact (HK.out.2.1 (by simp [HL.out])).symm), HK.out.2.2.2⟩
    · obtain rfl : k = n := by omega
      have i5 : ¬ (k : Int) < (k : Int) := by omega
      have e1 : R.take k = R := by rw [← H.out.2.1, List.take_length]
      rw [e1] at hall
      have bw : Below w.heap.size w wr := H.out.2.2.2.1.trans (hb.mono H.out.2.2.2.1.size)
      have HB := Lib.hid (And.intro hall bw)
      clear e1 hall hb bw
      go_wp2_with fail
      go_ret
      exact ⟨ret_bool (by rw [← H.out.2.2.1]; exact HB.out.1.symm), HB.out.2⟩
theorem rightD_any {R : List (List Int)} {T : List Nat} {v : Value} {w : World} (h : TbV w R T v) : Calls Tryd.prog 30 #[v] w fun r w' => r = .returned (.bool (rightT R T)) ∧ Below w.heap.size w w' := by
  obtain ⟨A, c, A2, c2, rfl, hR, hT⟩ := h
  have n1 : R.length ≤ 9223372036854775807 := by have := hR.l; have := hR.m; unfold maxLen at this; omega
  have n2 : T.length ≤ 9223372036854775807 := by have := hT.l; have := hT.m; unfold maxLen at this; omega
  by_cases hs : R.length < 1 ∨ 1000 < R.length ∨ T.length ≠ R.length
  · have : rightT R T = false := by
      unfold rightT
      rcases hs with h | h | h
      · simp [show ¬ 1 ≤ R.length by omega]
      · simp [show ¬ R.length ≤ 1000 by omega]
      · simp [h]
    rw [this]
    exact right_small A A2 R.length c T.length c2 n1 n2 w hs
  · have : rightT R T = R.all (rowOk R.length) := by
      unfold rightT
      simp [show 1 ≤ R.length by omega, show R.length ≤ 1000 by omega, show T.length = R.length by omega]
    rw [this]
    exact right_big R A A2 c T.length c2 w hR (by omega) (by omega) (by omega)
end Go.Proofs.YteamonmneoakpaaDoor

namespace Go.Proofs.YteamonmneoakpaaDoor
open Go.RowKit Go.Shelf Go.Lib Go.Great Go.Maps

def stR (R : List (List Int)) (a m : Int) : Int := (R.getD a.toNat []).getD m.toNat 0
def okM (m : Int) : Bool := decide (0 ≤ m) && decide (m < 37)
def runR (R : List (List Int)) (from' : Int) (ms : List Int) : Int := if ms.all okM then ms.foldl (stR R) from' else -1
theorem right_parts {R : List (List Int)} {T : List Nat} (h : rightT R T = true) : 1 ≤ R.length ∧ R.length ≤ 1000 ∧ T.length = R.length ∧ ∀ (i : Nat) r, R[i]? = some r → r.length = 37 ∧ ∀ (m : Nat) x, r[m]? = some x → 0 ≤ x ∧ x < R.length := by
  unfold rightT at h
  simp only [Bool.and_eq_true, decide_eq_true_eq] at h
  obtain ⟨⟨⟨h1, h2⟩, h3⟩, h4⟩ := h
  refine ⟨h1, h2, h3, fun i r hr => ?_⟩
  have := List.all_eq_true.1 h4 r (List.mem_of_getElem? hr)
  unfold rowOk at this
  simp only [Bool.and_eq_true, decide_eq_true_eq] at this
  refine ⟨this.1, fun m x hx => ?_⟩
  have h5 := List.all_eq_true.1 this.2 x (List.mem_of_getElem? hx)
  unfold okIx at h5
  simp only [Bool.and_eq_true, decide_eq_true_eq] at h5
  exact h5
/-- One mark. -/
theorem stR_ok {R : List (List Int)} {T : List Nat} (h : rightT R T = true) {a m : Int} (ha : okIx R.length a = true) (hm : okM m = true) :
    ∃ r x, R[a.toNat]? = some r ∧ r[m.toNat]? = some x ∧ stR R a m = x ∧ okIx R.length x = true := by
  obtain ⟨h1, h2, h3, h4⟩ := right_parts h
  unfold okIx at ha
  unfold okM at hm
  simp only [Bool.and_eq_true, decide_eq_true_eq] at ha hm
  have hr : R[a.toNat]? = some (R[a.toNat]'(by omega)) := List.getElem?_eq_getElem _
  obtain ⟨hl, hx⟩ := h4 _ _ hr
  have hx' : (R[a.toNat]'(by omega))[m.toNat]? = some ((R[a.toNat]'(by omega))[m.toNat]'(by omega)) := List.getElem?_eq_getElem _
  refine ⟨_, _, hr, hx', ?_, ?_⟩
  · unfold stR
    simp [List.getD_eq_getElem?_getD, hr, hx']
  · unfold okIx
    have := hx _ _ hx'
    simp only [Bool.and_eq_true, decide_eq_true_eq]
    exact this
set_option maxHeartbeats 4000000 in
set_option maxRecDepth 100000 in
theorem run_wrong {R : List (List Int)} {T : List Nat} {v : Value} {w : World} (h : TbV w R T v) (a : Int) (ha : i64 a) (ms : Value) (hno : rightT R T = false ∨ okIx R.length a = false) :
    Calls Tryd.prog 29 #[v, .int .i64 a, ms] w fun r w' => r = .returned (.int .i64 (-1)) ∧ Below w.heap.size w w' := by
  obtain ⟨A, c, A2, c2, rfl, hR, hT⟩ := h
  obtain ⟨W0, hW0⟩ : ∃ W, w.alloc (.cells #[.slice A R.length c, .slice A2 T.length c2] 54) = W := ⟨_, rfl⟩
  have b0 : Below w.heap.size w W0 := by rw [← hW0]; exact below_new _ _
  have z0 : W0.heap.size = w.heap.size + 1 := by rw [← hW0]; simp
  have x0 : Cells W0 w.heap.size 54 #[.slice A R.length c, .slice A2 T.length c2] := by rw [← hW0]; exact cells_new _ _ _
  have n1 : R.length ≤ 9223372036854775807 := by have := hR.l; have := hR.m; unfold maxLen at this; omega
  have C := rightD_any (R := R) (T := T) (v := .agg #[.slice A R.length c, .slice A2 T.length c2]) (w := W0) ⟨A, c, A2, c2, rfl, (hR.below b0).mono (by omega), (hT.below b0).mono (by omega)⟩
  have D := fun w' => has_any A A2 R.length c T.length c2 a ha n1 w'
  obtain ⟨n, hn⟩ : ∃ n, R.length = n := ⟨_, rfl⟩
  obtain ⟨n2, hn2⟩ : ∃ n, T.length = n := ⟨_, rfl⟩
  rw [hn, hn2] at C x0 hW0 ⊢
  rw [hn, hn2] at D
  rw [hn] at hno
  have e0 := x0.cell 0
  have e1 := x0.cell 1
  simp at e0 e1
  have H := Lib.hid (And.intro b0 (And.intro z0 x0))
  have HW := Lib.hid hW0
  have HC := Lib.hid C
  have HD := Lib.hid D
  clear b0 z0 x0 hW0 C D hR hT hn hn2 n1
  cases hq : rightT R T with
  | false =>
    rw [hq] at HC
    clear hq hno
    go_enter Tryd.func29, Tryd.ntmps29
    go_wp2_with fail
    rw [HW.out]
    refine HC.out.mono ?_
    rintro r w2 ⟨rfl, hb⟩
    have HB := Lib.hid (H.out.1.trans (hb.mono H.out.1.size))
    clear hb
    go_wp2_with fail
    go_ret
    exact ⟨rfl, HB.out⟩
  | true =>
    rw [hq] at HC hno
    have hno : okIx n a = false := by simpa using hno
    rw [hno] at HD
    clear hq hno
    go_enter Tryd.func29, Tryd.ntmps29
    go_wp2_with fail
    rw [HW.out]
    refine HC.out.mono ?_
    rintro r w2 ⟨rfl, hb⟩
    have bw : Below w.heap.size w w2 := H.out.1.trans (hb.mono H.out.1.size)
    have x2 : Cells w2 w.heap.size 54 #[.slice A n c, .slice A2 n2 c2] := (hb.block _ (by have := H.out.2.1; omega)).trans H.out.2.2
    have e2 := x2.cell 0
    have e3 := x2.cell 1
    simp at e2 e3
    have HB := Lib.hid bw
    clear bw x2 hb
    go_wp2_with fail
    refine (HD.out w2).mono ?_
    rintro r w3 ⟨rfl, hb3⟩
    have HB3 := Lib.hid (HB.out.trans (hb3.mono HB.out.size))
    clear hb3
    go_wp2_with fail
    go_ret
    exact ⟨rfl, HB3.out⟩
theorem foldl_take {R : List (List Int)} {ms : List Int} {k : Nat} {m a : Int} (h : ms[k]? = some m) : (ms.take (k + 1)).foldl (stR R) a = stR R ((ms.take k).foldl (stR R) a) m := by
  rw [List.take_add_one, h, Option.toList_some, List.foldl_append]
  rfl
set_option maxHeartbeats 4000000 in
set_option maxRecDepth 100000 in
theorem run_right {R : List (List Int)} {T : List Nat} {v : Value} {w : World} (h : TbV w R T v) (a : Int) (ha : i64 a) (ms : List Int) (Am : Option Addr) (cm : Nat) (hms : IS w w.heap.size ms Am cm) (hr : rightT R T = true) (hi : okIx R.length a = true) :
    Calls Tryd.prog 29 #[v, .int .i64 a, .slice Am ms.length cm] w fun r w' => r = .returned (.int .i64 (runR R a ms)) ∧ Below w.heap.size w w' := by
  obtain ⟨A, c, A2, c2, rfl, hR, hT⟩ := h
  obtain ⟨W0, hW0⟩ : ∃ W, w.alloc (.cells #[.slice A R.length c, .slice A2 T.length c2] 54) = W := ⟨_, rfl⟩
  have b0 : Below w.heap.size w W0 := by rw [← hW0]; exact below_new _ _
  have z0 : W0.heap.size = w.heap.size + 1 := by rw [← hW0]; simp
  have x0 : Cells W0 w.heap.size 54 #[.slice A R.length c, .slice A2 T.length c2] := by rw [← hW0]; exact cells_new _ _ _
  have n1 : R.length ≤ 9223372036854775807 := by have := hR.l; have := hR.m; unfold maxLen at this; omega
  have lm : ms.length ≤ 9223372036854775807 := by have := hms.l; have := hms.m; unfold maxLen at this; omega
  have C := rightD_any (R := R) (T := T) (v := .agg #[.slice A R.length c, .slice A2 T.length c2]) (w := W0) ⟨A, c, A2, c2, rfl, (hR.below b0).mono (by omega), (hT.below b0).mono (by omega)⟩
  have D := fun w' => has_any A A2 R.length c T.length c2 a ha n1 w'
  rw [hr] at C
  obtain ⟨n, hn⟩ : ∃ n, R.length = n := ⟨_, rfl⟩
  obtain ⟨n2, hn2⟩ : ∃ n, T.length = n := ⟨_, rfl⟩
  obtain ⟨l, hl⟩ : ∃ n, ms.length = n := ⟨_, rfl⟩
  obtain ⟨X, hX⟩ : ∃ X, runR R a ms = X := ⟨_, rfl⟩
  rw [hX]
  rw [hn, hn2] at C x0 hW0 ⊢
  rw [hn, hn2] at D
  rw [hn] at hi
  rw [hi] at D
  rw [hl] at lm ⊢
  have e0 := x0.cell 0
  have e1 := x0.cell 1
  simp at e0 e1
  have hn1000 : n ≤ 1000 := by have := (right_parts hr).2.1; omega
  have H := Lib.hid (And.intro b0 (And.intro z0 (And.intro x0 (And.intro hR (And.intro hr (And.intro hms (And.intro hn (And.intro hl (And.intro hX hi)))))))))
  have HW := Lib.hid hW0
  have HC := Lib.hid C
  have HD := Lib.hid D
  clear b0 z0 x0 hW0 C D hR hT hn hn2 n1 hr hms hl hX hi
  go_enter Tryd.func29, Tryd.ntmps29
  go_wp2_with fail
  rw [HW.out]
  refine HC.out.mono ?_
  rintro r w2 ⟨rfl, hb⟩
  have bw : Below W0.heap.size W0 w2 := hb
  have x2 : Cells w2 w.heap.size 54 #[.slice A n c, .slice A2 n2 c2] := (hb.block _ (by have := H.out.2.1; omega)).trans H.out.2.2.1
  have e2 := x2.cell 0
  have e3 := x2.cell 1
  simp at e2 e3
  have HB := Lib.hid bw
  clear bw x2 hb
  go_wp2_with fail
  refine (HD.out w2).mono ?_
  rintro r w3 ⟨rfl, hb3⟩
  have HB3 := Lib.hid (HB.out.trans (hb3.mono HB.out.size))
  clear hb3 e2 e3 e0 e1
  go_wp2_with fail
  unfold i64 at ha
  go_loopw [1, 20] (fun v i wr => ∃ (k : Nat) (x : Int), v = .int .i64 x ∧ i = .int .i64 (k : Int) ∧ k ≤ l ∧ (ms.take k).all okM = true ∧ (ms.take k).foldl (stR R) a = x ∧ okIx n x = true ∧ wr = w3) (fun _ i _ => l - (RowKit.intOf i).toNat)
  case atStart => exact ⟨0, a, rfl, rfl, by omega, rfl, rfl, H.out.2.2.2.2.2.2.2.2.2, rfl⟩
  case round =>
    obtain ⟨k, x, rfl, rfl, hk, hall, hf, hx, rfl⟩ := hrel
    by_cases hlt : k < l
    · have i5 : (k : Int) < (l : Int) := by omega
      obtain ⟨m, hm⟩ : ∃ m, ms[k]? = some m := ⟨ms[k]'(by rw [H.out.2.2.2.2.2.2.2.1]; exact hlt), List.getElem?_eq_getElem _⟩
      have his := H.out.2.2.2.2.2.1
      obtain ⟨b, o, rfl, hbl, hc⟩ := his.r (by rintro rfl; simp at hm)
      have bw3 : Below w.heap.size w wr := H.out.1.trans (HB3.out.mono H.out.1.size)
      have d0 := (bw3.cell (p := ⟨b, o + k, none⟩) hbl).trans (hc k m hm)
      have h64 := his.i m (List.mem_of_getElem? hm)
      have x3 : Cells wr w.heap.size 54 #[.slice A n c, .slice A2 n2 c2] := (HB3.out.block _ (by have := H.out.2.1; omega)).trans H.out.2.2.1
      have y0 := x3.cell 0
      simp at y0
      have ht := allT_take okM hm
      have hmiss := fun hp => allT_miss (p := okM) hm hp
      have hft := foldl_take (R := R) (a := a) hm
      rw [hall] at ht
      rw [hf] at hft
      unfold i64 at h64
      cases hok : okM m with
      | false =>
        have hX1 : X = -1 := by rw [← H.out.2.2.2.2.2.2.2.2.1]; unfold runR; rw [hmiss hok]; rfl
        have HE := Lib.hid (And.intro hX1 bw3)
        have hok' : ¬ (0 ≤ m ∧ m < 37) := by unfold okM at hok; simp at hok; omega
        clear hX1 bw3 hmiss hft ht hok hall hf hx hm hc his x3
        by_cases h0 : m < 0
        · have j0 : decide (m < 0) = true := by simpa using h0
          go_wp2_with fail
          go_ret
          exact ⟨by rw [HE.out.1]; rfl, HE.out.2⟩
        · have j0 : decide (m < 0) = false := by simpa using h0
          have j1 : (37 : Int) ≤ m := by omega
          have j2 : decide ((37 : Int) ≤ m) = true := by simpa using j1
          go_wp2_with fail
          go_ret
          exact ⟨by rw [HE.out.1]; rfl, HE.out.2⟩
      | true =>
        obtain ⟨r, z, hr1, hr2, hr3, hr4⟩ := stR_ok H.out.2.2.2.2.1 (a := x) (m := m) (by rw [H.out.2.2.2.2.2.2.1]; exact hx) hok
        rw [H.out.2.2.2.2.2.2.1] at hr4
        have hR := H.out.2.2.2.1
        obtain ⟨b', o', rfl, hbl', hc'⟩ := hR.r (by rintro rfl; simp at hr1)
        obtain ⟨A', c', d1, his', _⟩ := hc' x.toNat r hr1
        obtain ⟨b2, o2, rfl, hbl2, hc2⟩ := his'.r (by rintro rfl; simp at hr2)
        have d2 := (bw3.cell (p := ⟨b', o' + x.toNat, none⟩) hbl').trans d1
        have d3 := (bw3.cell (p := ⟨b2, o2 + m.toNat, none⟩) hbl2).trans (hc2 m.toNat z hr2)
        have hrl : r.length = 37 := ((right_parts H.out.2.2.2.2.1).2.2.2 _ _ hr1).1
        rw [hrl] at d2
        have hx' := hx
        unfold okIx at hx'
        simp only [Bool.and_eq_true, decide_eq_true_eq] at hx'
        obtain ⟨x1, x2⟩ := hx'
        unfold okM at hok
        simp only [Bool.and_eq_true, decide_eq_true_eq] at hok
        obtain ⟨m1, m2⟩ := hok
        have j0 : decide (m < 0) = false := by simp; omega
        have j1 : decide ((37 : Int) ≤ m) = false := by simp; omega
        have hend : ∃ (k' : Nat) (x' : Int), Value.int .i64 z = .int .i64 x' ∧ Value.int .i64 ((k : Int) + 1) = .int .i64 (k' : Int) ∧ k' ≤ l ∧ (ms.take k').all okM = true ∧ (ms.take k').foldl (stR R) a = x' ∧ okIx n x' = true ∧ True :=
          ⟨k + 1, z, rfl, by simp, by omega, by rw [ht]; simp [okM, m1, m2], by rw [hft, hr3], hr4, trivial⟩
        have HEND := Lib.hid hend
        clear hend hft ht hmiss hr1 hr2 hr3 hr4 hall hf hx hm hc his x3 hR hc' hc2 his' hrl d1 bw3
        go_wp2_with fail
        go_roundw
        case rel => exact HEND.out
        case measure => simp [RowKit.intOf]; omega
    · obtain rfl : k = l := by omega
      have i5 : ¬ (k : Int) < (k : Int) := by omega
      have e1 : ms.take k = ms := by rw [← H.out.2.2.2.2.2.2.2.1, List.take_length]
      rw [e1] at hall hf
      have hX2 : X = x := by rw [← H.out.2.2.2.2.2.2.2.2.1]; unfold runR; rw [hall]; exact hf
      have HE := Lib.hid (And.intro hX2 (H.out.1.trans (HB3.out.mono H.out.1.size)))
      clear e1 hall hf hX2
      go_wp2_with fail
      go_ret
      exact ⟨by rw [HE.out.1]; rfl, HE.out.2⟩
end Go.Proofs.YteamonmneoakpaaDoor

namespace Go.Proofs.YteamonmneoakpaaDoor
open Go.RowKit Go.Shelf Go.Lib Go.Great Go.Maps

def tellR (R : List (List Int)) (T : List Nat) (a : Int) : Nat := if rightT R T && okIx R.length a then T.getD a.toNat 0 else 0
set_option maxHeartbeats 4000000 in
set_option maxRecDepth 100000 in
theorem tellsD_any {R : List (List Int)} {T : List Nat} {v : Value} {w : World} (h : TbV w R T v) (a : Int) (ha : i64 a) :
    Calls Tryd.prog 31 #[v, .int .i64 a] w fun r w' => r = .returned (.int .u64 (tellR R T a : Nat)) ∧ Below w.heap.size w w' := by
  obtain ⟨A, c, A2, c2, rfl, hR, hT⟩ := h
  obtain ⟨W0, hW0⟩ : ∃ W, w.alloc (.cells #[.slice A R.length c, .slice A2 T.length c2] 54) = W := ⟨_, rfl⟩
  have b0 : Below w.heap.size w W0 := by rw [← hW0]; exact below_new _ _
  have z0 : W0.heap.size = w.heap.size + 1 := by rw [← hW0]; simp
  have x0 : Cells W0 w.heap.size 54 #[.slice A R.length c, .slice A2 T.length c2] := by rw [← hW0]; exact cells_new _ _ _
  have n1 : R.length ≤ 9223372036854775807 := by have := hR.l; have := hR.m; unfold maxLen at this; omega
  have n2' : T.length ≤ 9223372036854775807 := by have := hT.l; have := hT.m; unfold maxLen at this; omega
  have C := rightD_any (R := R) (T := T) (v := .agg #[.slice A R.length c, .slice A2 T.length c2]) (w := W0) ⟨A, c, A2, c2, rfl, (hR.below b0).mono (by omega), (hT.below b0).mono (by omega)⟩
  have D := fun w' => has_any A A2 R.length c T.length c2 a ha n1 w'
  obtain ⟨X, hX⟩ : ∃ X, tellR R T a = X := ⟨_, rfl⟩
  rw [hX]
  have hX1 : rightT R T = false → X = 0 := fun e => by rw [← hX]; unfold tellR; rw [e]; rfl
  have hX2 : okIx R.length a = false → X = 0 := fun e => by rw [← hX]; unfold tellR; rw [e]; simp
  have hX3 : rightT R T = true → okIx R.length a = true → T[a.toNat]? = some X := fun e1 e2 => by
    have h3 := (right_parts e1).2.2.1
    have h2 := e2
    unfold okIx at h2
    simp only [Bool.and_eq_true, decide_eq_true_eq] at h2
    rw [← hX]; unfold tellR; rw [e1, e2]
    have : a.toNat < T.length := by omega
    simp [List.getD_eq_getElem?_getD, this]
  obtain ⟨n, hn⟩ : ∃ n, R.length = n := ⟨_, rfl⟩
  obtain ⟨n2, hn2⟩ : ∃ n, T.length = n := ⟨_, rfl⟩
  have hq3 : rightT R T = true → n2 = n ∧ n ≤ 1000 := fun e => by have := right_parts e; omega
  rw [hn, hn2] at C x0 hW0 ⊢
  rw [hn, hn2] at D
  rw [hn] at hX2 hX3
  have e0 := x0.cell 0
  have e1 := x0.cell 1
  simp at e0 e1
  have H := Lib.hid (And.intro b0 (And.intro z0 (And.intro x0 (And.intro hT hn2))))
  have HX := Lib.hid (And.intro hX1 (And.intro hX2 (And.intro hX3 hq3)))
  have HW := Lib.hid hW0
  have HC := Lib.hid C
  have HD := Lib.hid D
  clear b0 z0 x0 hW0 C D hR hT hn hn2 n1 hX hX1 hX2 hX3 hq3 n2'
  cases hq : rightT R T with
  | false =>
    rw [hq] at HC
    have hx := HX.out.1 hq
    subst hx
    clear hq
    go_enter Tryd.func31, Tryd.ntmps31
    go_wp2_with fail
    rw [HW.out]
    refine HC.out.mono ?_
    rintro r w2 ⟨rfl, hb⟩
    have HB := Lib.hid (H.out.1.trans (hb.mono H.out.1.size))
    clear hb
    go_wp2_with fail
    go_ret
    exact ⟨rfl, HB.out⟩
  | true =>
    rw [hq] at HC
    cases hi : okIx n a with
    | false =>
      rw [hi] at HD
      have hx := HX.out.2.1 hi
      subst hx
      clear hq hi
      go_enter Tryd.func31, Tryd.ntmps31
      go_wp2_with fail
      rw [HW.out]
      refine HC.out.mono ?_
      rintro r w2 ⟨rfl, hb⟩
      have x2 : Cells w2 w.heap.size 54 #[.slice A n c, .slice A2 n2 c2] := (hb.block _ (by have := H.out.2.1; omega)).trans H.out.2.2.1
      have e2 := x2.cell 0
      have e3 := x2.cell 1
      simp at e2 e3
      have HB := Lib.hid (H.out.1.trans (hb.mono H.out.1.size))
      clear hb x2
      go_wp2_with fail
      refine (HD.out w2).mono ?_
      rintro r w3 ⟨rfl, hb3⟩
      have HB3 := Lib.hid (HB.out.trans (hb3.mono HB.out.size))
      clear hb3
      go_wp2_with fail
      go_ret
      exact ⟨rfl, HB3.out⟩
    | true =>
      rw [hi] at HD
      have hx := HX.out.2.2.1 hq hi
      obtain ⟨hn2, hn⟩ := HX.out.2.2.2 hq
      have hi' := hi
      unfold okIx at hi'
      simp only [Bool.and_eq_true, decide_eq_true_eq] at hi'
      obtain ⟨x1, x2⟩ := hi'
      have HE := Lib.hid hx
      subst hn2
      clear hq hi hx
      go_enter Tryd.func31, Tryd.ntmps31
      go_wp2_with fail
      rw [HW.out]
      refine HC.out.mono ?_
      rintro r w2 ⟨rfl, hb⟩
      have x2 : Cells w2 w.heap.size 54 #[.slice A n2 c, .slice A2 n2 c2] := (hb.block _ (by have := H.out.2.1; omega)).trans H.out.2.2.1
      have e2 := x2.cell 0
      have e3 := x2.cell 1
      simp at e2 e3
      have HB := Lib.hid (And.intro x2 (H.out.1.trans (hb.mono H.out.1.size)))
      clear hb x2
      go_wp2_with fail
      refine (HD.out w2).mono ?_
      rintro r w3 ⟨rfl, hb3⟩
      have x3 : Cells w3 w.heap.size 54 #[.slice A n2 c, .slice A2 n2 c2] := (hb3.block _ HB.out.1.lt).trans HB.out.1
      have e4 := x3.cell 0
      have e5 := x3.cell 1
      simp at e4 e5
      have bw := HB.out.2.trans (hb3.mono HB.out.2.size)
      obtain ⟨b, o, rfl, hbl, hc⟩ := H.out.2.2.2.1.r (by have := HE.out; rintro rfl; simp at this)
      have d0 := (bw.cell (p := ⟨b, o + a.toNat, none⟩) hbl).trans (hc a.toNat X HE.out)
      have HB3 := Lib.hid bw
      clear hb3 bw x3 hc
      go_wp2_with fail
      go_ret
      exact ⟨rfl, HB3.out⟩
def NewOkD (w : World) (se : Bool) (s : St) (r : Ending) (w' : World) : Prop :=
  ∃ R T v e, r = .returned (.tuple #[v, .int .i64 e]) ∧ TbV w' R T v ∧ Below w.heap.size w w' ∧
    ((e = 7 ∧ R = [] ∧ T = [] ∧ ∃ S, Sv se s S ∧ 1000 < S.length) ∨ (e = 0 ∧ ∃ S, Bf se s S R T ∧ R.length = S.length ∧ S.length ≤ 1000))
theorem tbv_nil (w : World) : TbV w [] [] (.agg #[.slice none 0 0, .slice none 0 0]) :=
  ⟨none, 0, none, 0, rfl, ⟨Nat.le_refl _, by unfold maxLen; omega, fun _ => rfl, fun h => absurd rfl h⟩, ⟨Nat.le_refl _, by unfold maxLen; omega, fun _ => rfl, fun x hx => by simp at hx, fun h => absurd rfl h⟩⟩
set_option maxHeartbeats 4000000 in
set_option maxRecDepth 100000 in
theorem newD_nil (w : World) : Calls Tryd.prog 26 #[.pointer none] w fun r w' => r = .returned (.tuple #[.agg #[.slice none 0 0, .slice none 0 0], .int .i64 1]) ∧ Below w.heap.size w w' := by
  have bb := Lib.hid (below_new w (.cells #[.slice none 0 0, .slice none 0 0] 54))
  go_enter Tryd.func26, Tryd.ntmps26
  go_wp2_with fail
  refine bodyPost_ret (v := .tuple #[.agg #[.slice none 0 0, .slice none 0 0], .int .i64 1]) (by simp [results, Tryd.results26, go_sem]) rfl ⟨rfl, ?_⟩
  exact bb.out
set_option maxHeartbeats 4000000 in
set_option maxRecDepth 100000 in
theorem newD_any {q : Np} {n : Nat} {se : Bool} {s : St} {w : World} (h : NfaAt w q n se s) (hT : TZ w) (hP : PW w) : Calls Tryd.prog 26 #[.pointer (some ⟨q.b, 0, none⟩)] w (NewOkD w se s) := by
  obtain ⟨W0, hW0⟩ : ∃ W, w.alloc (.cells #[.slice none 0 0, .slice none 0 0] 54) = W := ⟨_, rfl⟩
  have b0 : Below w.heap.size w W0 := by rw [← hW0]; exact below_new _ _
  have z0 : W0.heap.size = w.heap.size + 1 := by rw [← hW0]; simp
  have x0 : Cells W0 w.heap.size 54 #[.slice none 0 0, .slice none 0 0] := by rw [← hW0]; exact cells_new _ _ _
  have C := build_any (h.below b0) (hT.below b0 hT.lt) (hP.below b0 hP.lt)
  have htl : ∀ x, tellsU s x < 18446744073709551616 := fun x => tellsU_lt h.t x
  have H := Lib.hid (And.intro b0 (And.intro z0 (And.intro x0 htl)))
  have HW := Lib.hid hW0
  have HC := Lib.hid C
  clear b0 z0 x0 hW0 C h hT hP htl
  go_enter Tryd.func26, Tryd.ntmps26
  go_wp2_with fail
  rw [HW.out]
  refine HC.out.mono ?_
  intro r w2 hr
  rcases hr with ⟨S, hS, h1000, rfl, hb⟩ | ⟨S, R, T, vN, vT, hB, hl, hs, rfl, ht⟩
  · have x2 : Cells w2 w.heap.size 54 #[.slice none 0 0, .slice none 0 0] := (hb.block _ (by have := H.out.2.1; omega)).trans H.out.2.2.1
    have e0 := x2.cell 0
    have e1 := x2.cell 1
    have f0 := x2.froz 0
    have f1 := x2.froz 1
    simp at e0 e1
    have HB := Lib.hid (And.intro (H.out.1.trans (hb.mono H.out.1.size)) (And.intro hS (And.intro h1000 x2)))
    clear hb hS h1000 x2
    go_wp2_with fail
    have xx := (HB.out.2.2.2.set 0 (.slice none 0 0)).set 1 (.slice none 0 0)
    have g0 := xx.cell 0
    have g1 := xx.cell 1
    simp at g0 g1
    refine bodyPost_ret (v := .tuple #[.agg #[.slice none 0 0, .slice none 0 0], .int .i64 7]) (by simp [results, Tryd.results26, go_sem, g0, g1]) rfl ?_
    exact ⟨[], [], _, 7, rfl, tbv_nil _, (HB.out.1.trans (set_below _ _ _ _ (Nat.le_refl _))).trans (set_below _ _ _ _ (Nat.le_refl _)), .inl ⟨rfl, rfl, rfl, S, HB.out.2.1, HB.out.2.2.1⟩⟩
  · have hv := tbv_of ht.rn ht.rt (fun x hx => by
      obtain ⟨i, hi⟩ := List.getElem?_of_mem hx
      obtain ⟨y, _, rfl⟩ := hB.t i x hi
      exact H.out.2.2.2 y)
    have hb := ht.low
    obtain ⟨A, c, A2, c2, e, hR, hT⟩ := hv
    injection e with e
    simp only [Array.mk.injEq, List.cons.injEq, and_true] at e
    obtain ⟨rfl, rfl⟩ := e
    have x2 : Cells w2 w.heap.size 54 #[.slice none 0 0, .slice none 0 0] := (hb.block _ (by have := H.out.2.1; omega)).trans H.out.2.2.1
    have e0 := x2.cell 0
    have e1 := x2.cell 1
    have f0 := x2.froz 0
    have f1 := x2.froz 1
    simp at e0 e1
    have HB := Lib.hid (And.intro (H.out.1.trans (hb.mono H.out.1.size)) (And.intro hB (And.intro hl (And.intro hs (And.intro x2 ht)))))
    obtain ⟨n1, hn1⟩ : ∃ n, R.length = n := ⟨_, rfl⟩
    obtain ⟨n2, hn2⟩ : ∃ n, T.length = n := ⟨_, rfl⟩
    have HN := Lib.hid (And.intro hn1 hn2)
    rw [hn1, hn2]
    clear hb hB hl hs x2 hR hT ht hn1 hn2
    go_wp2_with fail
    have xx := (HB.out.2.2.2.2.1.set 0 (.slice A n1 c)).set 1 (.slice A2 n2 c2)
    have g0 := xx.cell 0
    have g1 := xx.cell 1
    simp at g0 g1
    refine bodyPost_ret (v := .tuple #[.agg #[.slice A n1 c, .slice A2 n2 c2], .int .i64 0]) (by simp [results, Tryd.results26, go_sem, g0, g1]) rfl ?_
    refine ⟨R, T, .agg #[.slice A n1 c, .slice A2 n2 c2], 0, rfl, ?_, (HB.out.1.trans (set_below _ _ _ _ (Nat.le_refl _))).trans (set_below _ _ _ _ (Nat.le_refl _)), .inr ⟨rfl, S, HB.out.2.1, HB.out.2.2.1, HB.out.2.2.2.1⟩⟩
    rw [← HN.out.1, ← HN.out.2]
    have ho := HB.out.2.2.2.2.2
    have hz := H.out.2.1
    have m1 := grown_setc w2 w.heap.size 0 (.slice A R.length c)
    have m2 := grown_setc (w2.setCell ⟨w.heap.size, 0, none⟩ (.slice A R.length c)) w.heap.size 1 (.slice A2 T.length c2)
    have k1 : (Value.slice A R.length c).ownBlock ≠ some w.heap.size := fun e => by have := (ho.rn.lt _ e).1; omega
    have k2 : (Value.slice A2 T.length c2).ownBlock ≠ some w.heap.size := fun e => by have := (own_block_lt ho.rt _ e).1; omega
    refine tbv_of ((ho.rn.move (X' := fun b => W0.heap.size + 5 ≤ b) m1 (.inr k1) (fun b hb _ => ⟨hb, fun e => by injection e with e; omega⟩)).move (X' := fun b => W0.heap.size + 5 ≤ b) m2 (.inr k1) (fun b hb _ => ⟨hb, fun e => by injection e with e; omega⟩)) ((ho.rt.kept m1 (.inr k2)).kept m2 (.inr k2)) (fun x hx => ?_)
    obtain ⟨i, hi⟩ := List.getElem?_of_mem hx
    obtain ⟨y, _, rfl⟩ := HB.out.2.1.t i x hi
    exact H.out.2.2.2 y
end Go.Proofs.YteamonmneoakpaaDoor

namespace Go.Proofs.YteamonmneoakpaaDoor
open Go.RowKit Go.Shelf Go.Lib Go.Great Go.Maps

theorem mk_nil : mkN [] = st0 := rfl
theorem nextU_st0 (l : List Int) : nextU st0 l = 0 := by
  induction l with
  | nil => rfl
  | cons x r ih => unfold nextU; rw [ih]; simp [st0]
theorem nxt_st0 (se : Bool) (x : List Int) (m : Nat) : nxt se st0 x m = if se then [0] else [] := by
  rw [← nxt_eq]
  unfold stepM
  rw [nextU_st0]
  have z : (0 : Nat) &&& takersI st0 (m : Int) = 0 := Nat.zero_and _
  simp only [z]
  cases se
  · simp only [Bool.false_eq_true, if_false]
    decide +kernel
  · simp only [if_true]
    decide +kernel
theorem sv_all {se : Bool} {S : List (List Int)} (h : Sv se st0 S) {i : Nat} {y : List Int} (hy : S[i]? = some y) : y = [0] ∨ y = if se then [0] else [] := by
  rcases Nat.eq_zero_or_pos i with rfl | h0
  · rw [h.z] at hy
    injection hy with hy
    exact .inl hy.symm
  · obtain ⟨_, _, x, _, m, _, he⟩ := h.j i y h0 hy
    rw [nxt_st0] at he
    exact .inr he
theorem nodup_get {S : List (List Int)} (h : S.Nodup) {i j : Nat} {y : List Int} (hi : S[i]? = some y) (hj : S[j]? = some y) : i = j := by
  obtain ⟨h1, e1⟩ := List.getElem?_eq_some_iff.1 hi
  obtain ⟨h2, e2⟩ := List.getElem?_eq_some_iff.1 hj
  have hp := List.pairwise_iff_getElem.1 h
  rcases Nat.lt_trichotomy i j with hlt | rfl | hlt
  · exact absurd (e1.trans e2.symm) (hp i j h1 h2 hlt)
  · rfl
  · exact absurd (e2.trans e1.symm) (hp j i h2 h1 hlt)
theorem sv_true {S : List (List Int)} (h : Sv true st0 S) : S.length = 1 := by
  have hp := h.pos
  rcases Nat.lt_or_ge 1 S.length with h1 | h1
  · have e := sv_all h (List.getElem?_eq_getElem h1)
    have e2 : S[1] = [0] := by rcases e with e | e; exact e; simpa using e
    have := nodup_get h.nd h.z (show S[1]? = some [0] by rw [List.getElem?_eq_getElem h1, e2])
    omega
  · omega
theorem sv_false {S : List (List Int)} (h : Sv false st0 S) : S.length ≤ 2 := by
  rcases Nat.lt_or_ge 2 S.length with h2 | h2
  · have h1 : 1 < S.length := by omega
    have k1 : S[1] = [] := by
      rcases sv_all h (List.getElem?_eq_getElem h1) with e | e
      · have := nodup_get h.nd h.z (show S[1]? = some [0] by rw [List.getElem?_eq_getElem h1, e]); omega
      · simpa using e
    have k2 : S[2] = [] := by
      rcases sv_all h (List.getElem?_eq_getElem h2) with e | e
      · have := nodup_get h.nd h.z (show S[2]? = some [0] by rw [List.getElem?_eq_getElem h2, e]); omega
      · simpa using e
    have := nodup_get h.nd (show S[1]? = some [] by rw [List.getElem?_eq_getElem h1, k1]) (show S[2]? = some [] by rw [List.getElem?_eq_getElem h2, k2])
    omega
  · exact h2
/-- An entry of a table. -/
theorem bf_get {se : Bool} {s : St} {S R : List (List Int)} {T : List Nat} (h : Bf se s S R T) {i m : Nat} {x : List Int} (hx : S[i]? = some x) (hi : i < R.length) (hm : m < 37) : ∃ j : Nat, stR R (i : Int) (m : Int) = (j : Int) ∧ S[j]? = some (nxt se s x m) := by
  have hr : R[i]? = some R[i] := List.getElem?_eq_getElem hi
  obtain ⟨hl, y, hy, ho⟩ := h.r i _ hr
  rw [hx] at hy
  injection hy with hy
  subst hy
  have hv : R[i][m]? = some (R[i][m]'(by omega)) := List.getElem?_eq_getElem _
  obtain ⟨j, e, hj⟩ := ho m _ hv
  refine ⟨j, ?_, hj⟩
  unfold stR
  simp only [Int.toNat_natCast, List.getD_eq_getElem?_getD, hr, Option.getD_some, hv]
  exact e
theorem bf_right {se : Bool} {s : St} {S R : List (List Int)} {T : List Nat} (h : Bf se s S R T) (hl : R.length = S.length) (hs : S.length ≤ 1000) : rightT R T = true := by
  unfold rightT
  have hp := h.sv.pos
  simp only [Bool.and_eq_true, decide_eq_true_eq]
  refine ⟨⟨⟨by omega, by omega⟩, h.tl⟩, List.all_eq_true.2 fun r hr => ?_⟩
  obtain ⟨i, hi⟩ := List.getElem?_of_mem hr
  obtain ⟨hrl, x, hx, ho⟩ := h.r i r hi
  unfold rowOk
  simp only [Bool.and_eq_true, decide_eq_true_eq]
  refine ⟨hrl, List.all_eq_true.2 fun v hv => ?_⟩
  obtain ⟨m, hm⟩ := List.getElem?_of_mem hv
  obtain ⟨j, rfl, hj⟩ := ho m v hm
  have := (List.getElem?_eq_some_iff.1 hj).1
  unfold okIx
  simp only [Bool.and_eq_true, decide_eq_true_eq]
  omega
theorem ex_false {S R : List (List Int)} {T : List Nat} (h : Bf false st0 S R T) (hl : R.length = S.length) (hs : S.length ≤ 1000) : R.length = 2 ∧ rightT R T = true ∧ runR R 0 [36, 5] = 1 := by
  have hr := bf_right h hl hs
  have hp := h.sv.pos
  obtain ⟨j, hj, hj2⟩ := bf_get h h.sv.z (m := 36) (by omega) (by omega)
  rw [nxt_st0] at hj2
  simp only [Bool.false_eq_true, if_false] at hj2
  have hjl := (List.getElem?_eq_some_iff.1 hj2).1
  have h2 := sv_false h.sv
  have hj1 : j = 1 := by
    rcases Nat.eq_zero_or_pos j with rfl | hj0
    · rw [h.sv.z] at hj2; simp at hj2
    · omega
  subst hj1
  obtain ⟨k, hk, hk2⟩ := bf_get h hj2 (m := 5) (by omega) (by omega)
  rw [nxt_st0] at hk2
  simp only [Bool.false_eq_true, if_false] at hk2
  have hk1 := nodup_get h.sv.nd hj2 hk2
  subst hk1
  refine ⟨by omega, hr, ?_⟩
  unfold runR
  rw [show ([36, 5] : List Int).all okM = true by decide]
  simp only [if_true, List.foldl_cons, List.foldl_nil]
  have e1 : stR R 0 36 = 1 := hj
  rw [e1]
  exact hk
theorem ex_true {S R : List (List Int)} {T : List Nat} (h : Bf true st0 S R T) (hl : R.length = S.length) : R.length = 1 := by rw [hl]; exact sv_true h.sv
end Go.Proofs.YteamonmneoakpaaDoor

namespace Go.Proofs.YteamonmneoakpaaDoor
open Go.RowKit Go.Shelf Go.Lib Go.Great Go.Maps

set_option maxHeartbeats 4000000 in
set_option maxRecDepth 100000 in
theorem leaves_any : ∀ N e, szE e ≤ N → szE e ≤ 100000 → ∀ v w, Nd w w.heap.size e v →
    Calls Tryd.prog 64 #[v] w fun r w' => r = .returned (.int .i64 ((leavesE e : Nat) : Int)) ∧ Below w.heap.size w w' := by
  intro N
  induction N with
  | zero => intro e h; have := szE_pos e; omega
  | succ N ih =>
    intro e he hmx v w h
    obtain ⟨_, _, A, cap, rfl, hk⟩ := Nd_iff.1 h
    obtain ⟨W0, hW0⟩ : ∃ W0, w.alloc (.cells #[.int .i64 e.k, .int .i64 e.c, .slice A e.ks.length cap] 71) = W0 := ⟨_, rfl⟩
    have hb0 : Below w.heap.size w W0 := by rw [← hW0]; exact below_new _ _
    have hz0 : w.heap.size < W0.heap.size := by rw [← hW0]; simp
    have x0 : Cells W0 w.heap.size 71 #[.int .i64 e.k, .int .i64 e.c, .slice A e.ks.length cap] := by rw [← hW0]; exact cells_new _ _ _
    have c0 := x0.cell 0
    have c2 := x0.cell 2
    simp at c0 c2
    have hk0 := hk.on hb0
    have hS := szE_eq e
    have hkid := fun i f (hf : e.ks[i]? = some f) => szE_kid (List.mem_of_getElem? hf)
    have hln : e.ks.length ≤ 9223372036854775807 := by have := hk.l; have := hk.m; unfold maxLen at this; omega
    have hL : leavesE e = if e.ks = [] then (if e.k = 9 then 0 else 1) else lvL e.ks := by cases e; rfl
    have hLe := leaves_le _ e (Nat.le_refl _)
    have hkle : ∀ (i : Nat) (f : E), e.ks[i]? = some f → leavesE f ≤ szE f := fun _ f _ => leaves_le _ f (Nat.le_refl _)
    generalize e.k = kk at *
    generalize e.c = cc at *
    generalize e.ks = ks at *
    generalize szE e = S at *
    generalize leavesE e = L at *
    obtain ⟨n, hn⟩ : ∃ n, ks.length = n := ⟨_, rfl⟩
    have HS := Lib.hid (And.intro hS (And.intro hmx (And.intro he hLe)))
    have HW := Lib.hid hW0
    have HK := Lib.hid (And.intro hk0 hb0)
    have HI := Lib.hid ih
    have HKD := Lib.hid hkid
    have HKL := Lib.hid hkle
    have HN := Lib.hid hn
    have HL := Lib.hid hL
    rw [hn] at c2 hln
    rw [hn] at HW ⊢
    clear hW0 hk hk0 hb0 ih hkid hn h hS hL hLe hkle hmx he x0
    by_cases hn0 : n = 0
    · subst hn0
      have hks : ks = [] := List.eq_nil_of_length_eq_zero HN.out
      by_cases h9 : kk = 9
      · subst h9
        have : L = 0 := by rw [HL.out, if_pos hks, if_pos rfl]
        subst this
        go_enter Tryd.func64, Tryd.ntmps64
        go_wp2_with fail
        rw [HW.out]
        go_wp2_with fail
        go_loopw [3, 18] (fun s i wr => i = .int .i64 0 ∧ s = .int .i64 0 ∧ wr = W0) (fun _ _ _ => 0)
        case atStart => exact ⟨rfl, rfl, rfl⟩
        case round =>
          obtain ⟨rfl, rfl, rfl⟩ := hrel
          go_wp2_with fail
          go_ret
          exact ⟨rfl, HK.out.2⟩
      · have : L = 1 := by rw [HL.out, if_pos hks, if_neg h9]
        subst this
        have h9' : (kk == 9) = false := by simpa using h9
        go_enter Tryd.func64, Tryd.ntmps64
        go_wp2_with fail
        rw [HW.out]
        go_wp2_with fail
        go_ret
        exact ⟨rfl, HK.out.2⟩
    · have hn1 : ((n : Int) == 0) = false := by simp; omega
      have hne : ks ≠ [] := by rintro rfl; have := HN.out; simp at this; omega
      have HLL := Lib.hid (show L = lvL ks by rw [HL.out, if_neg hne])
      clear hne
      go_enter Tryd.func64, Tryd.ntmps64
      go_wp2_with fail
      rw [HW.out]
      go_wp2_with fail
      go_loopw [3, 18] (fun s i wr => ∃ k : Nat, i = .int .i64 k ∧ k ≤ n ∧ s = .int .i64 ((lvL (ks.take k) : Nat) : Int) ∧ Below W0.heap.size W0 wr) (fun _ i _ => n - (RowKit.intOf i).toNat)
      case atStart => exact ⟨0, rfl, Nat.zero_le _, rfl, Below.refl _ _⟩
      case round =>
        obtain ⟨k, rfl, hkn, rfl, hb⟩ := hrel
        by_cases hlt : k < n
        · obtain ⟨f, hf⟩ : ∃ f, ks[k]? = some f := ⟨ks[k]'(by rw [HN.out]; exact hlt), List.getElem?_eq_getElem _⟩
          have i1 : (k : Int) < (n : Int) := by omega
          obtain ⟨b, o, rfl, hbl, hr⟩ := HK.out.1.r (by rintro rfl; simp at hf)
          obtain ⟨A', cap', d0, d1, d2, hN⟩ := row_get' hr hf
          have d0' := (hb.cell (p := ⟨b, o + k * 3, none⟩) hbl).trans d0
          have d1' := (hb.cell (p := ⟨b, o + k * 3 + 1, none⟩) hbl).trans d1
          have d2' := (hb.cell (p := ⟨b, o + k * 3 + 2, none⟩) hbl).trans d2
          have hs := lvL_take hf
          have hl := HKD.out k f hf
          have hle := lvL_take_le ks (k + 1)
          have hkl := HKL.out k f hf
          obtain ⟨wr', hwr'⟩ : ∃ W, wr.alloc (.cells #[.int .i64 f.k, .int .i64 f.c, .slice A' f.ks.length cap'] 71) = W := ⟨_, rfl⟩
          have bb : Below wr.heap.size wr wr' := by rw [← hwr']; exact below_new _ _
          have hbr := hb.trans (bb.mono hb.size)
          have hC := Lib.hid (HI.out f (by have := HS.out; omega) (by have := HS.out; omega) (.agg #[.int .i64 f.k, .int .i64 f.c, .slice A' f.ks.length cap']) wr' ((hN.below hbr).mono hbr.size))
          have hLL := HLL.out
          have hSS := HS.out
          generalize lvL (ks.take k) = s at *
          generalize leavesE f = t at *
          have hw : wrap64 ((s : Int) + (t : Int)) = (s : Int) + (t : Int) := by unfold wrap64; omega
          have HH := Lib.hid (And.intro hs (And.intro hbr hwr'))
          clear hs hl hle hkl bb hbr hwr' hN hr hbl d0 d1 d2 hb hLL hSS
          go_wp2_with fail
          rw [HH.out.2.2]
          refine hC.out.mono ?_
          rintro r w2 ⟨rfl, hb2⟩
          have HB := Lib.hid (HH.out.2.1.trans (hb2.mono HH.out.2.1.size))
          clear hb2
          go_wp2_with fail
          go_roundw
          case rel => exact ⟨k + 1, by go_num, by omega, by rw [HH.out.1, hw]; simp, HB.out⟩
          case measure => simp [RowKit.intOf]; omega
        · have hkn : k = n := by omega
          subst hkn
          have i1 : ¬ (k : Int) < (k : Int) := by omega
          have ht : ks.take k = ks := by rw [← HN.out, List.take_length]
          rw [ht, ← HLL.out]
          have HB := Lib.hid hb
          clear hb ht
          go_wp2_with fail
          go_ret
          exact ⟨rfl, HK.out.2.trans (HB.out.mono HK.out.2.size)⟩
end Go.Proofs.YteamonmneoakpaaDoor

namespace Go.Proofs.YteamonmneoakpaaDoor
open Go.RowKit Go.Shelf Go.Lib Go.Great Go.Maps

def faultL (ks : List E) : Int := if 40 < ks.length then 3 else if ks.all rightE = false then 1 else if 1000 < 1 + lvL ks then 7 else 0
theorem all_take {ks : List E} {i : Nat} {e : E} (h : ks[i]? = some e) : (ks.take (i + 1)).all rightE = ((ks.take i).all rightE && rightE e) := by
  rw [List.take_add_one, h, List.all_append]; simp
theorem all_stop {ks : List E} {i : Nat} (h : (ks.take i).all rightE = false) : ks.all rightE = false := by
  have := List.all_append (xs := ks.take i) (ys := ks.drop i) (f := rightE)
  rw [List.take_append_drop, h] at this
  simpa using this
theorem lvL_le2000 {ks : List E} (h : ks.all rightE = true) (i : Nat) : lvL (ks.take i) ≤ 2000 * (ks.take i).length := by
  induction ks generalizing i with
  | nil => simp [lvL, leavesE.lvL]
  | cons e r ih =>
    simp only [List.all_cons, Bool.and_eq_true] at h
    cases i with
    | zero => simp [lvL, leavesE.lvL]
    | succ i =>
      rw [List.take_succ_cons]
      have h1 := ih h.2 i
      have h2 := right_size h.1
      have h3 := leaves_le _ e (Nat.le_refl _)
      simp only [lvL, leavesE.lvL, List.length_cons] at *
      omega
set_option maxHeartbeats 4000000 in
set_option maxRecDepth 100000 in
theorem fault_any (ks : List E) (A : Option Addr) (cap : Nat) (w : World) (hk : KsAt w w.heap.size ks A cap) :
    Calls Tryd.prog 38 #[.slice A ks.length cap] w fun r w' => r = .returned (.int .i64 (faultL ks)) ∧ Below w.heap.size w w' := by
  have hln : ks.length ≤ 9223372036854775807 := by have := hk.l; have := hk.m; unfold maxLen at this; omega
  obtain ⟨R, hR⟩ : ∃ R, faultL ks = R := ⟨_, rfl⟩
  rw [hR]
  have HR := Lib.hid hR
  obtain ⟨n, hn⟩ : ∃ n, ks.length = n := ⟨_, rfl⟩
  have HN := Lib.hid hn
  have HK := Lib.hid hk
  rw [hn] at hln ⊢
  clear hn hk hR
  by_cases h40 : 40 < n
  · have h40' : (40 : Int) < (n : Int) := by omega
    have : R = 3 := by rw [← HR.out]; unfold faultL; rw [if_pos (by rw [HN.out]; exact h40)]
    subst this
    go_enter Tryd.func38, Tryd.ntmps38
    go_wp2_with fail
    go_ret
    exact ⟨rfl, Below.refl _ _⟩
  · have h40' : ¬ (40 : Int) < (n : Int) := by omega
    go_enter Tryd.func38, Tryd.ntmps38
    go_wp2_with fail
    go_loopw [13] (fun i wr => ∃ k : Nat, i = .int .i64 k ∧ k ≤ n ∧ (ks.take k).all rightE = true ∧ Below w.heap.size w wr) (fun i _ => n - (RowKit.intOf i).toNat)
    case atStart => exact ⟨0, rfl, Nat.zero_le _, rfl, Below.refl _ _⟩
    case round =>
      obtain ⟨k, rfl, hkn, hall, hb⟩ := hrel
      by_cases hlt : k < n
      · obtain ⟨f, hf⟩ : ∃ f, ks[k]? = some f := ⟨ks[k]'(by rw [HN.out]; exact hlt), List.getElem?_eq_getElem _⟩
        have i1 : (k : Int) < (n : Int) := by omega
        obtain ⟨b, o, rfl, hbl, hr⟩ := HK.out.r (by rintro rfl; simp at hf)
        obtain ⟨A', cap', d0, d1, d2, hN⟩ := row_get' hr hf
        have d0' := (hb.cell (p := ⟨b, o + k * 3, none⟩) hbl).trans d0
        have d1' := (hb.cell (p := ⟨b, o + k * 3 + 1, none⟩) hbl).trans d1
        have d2' := (hb.cell (p := ⟨b, o + k * 3 + 2, none⟩) hbl).trans d2
        obtain ⟨wr', hwr'⟩ : ∃ W, wr.alloc (.cells #[.int .i64 f.k, .int .i64 f.c, .slice A' f.ks.length cap'] 71) = W := ⟨_, rfl⟩
        have bb : Below wr.heap.size wr wr' := by rw [← hwr']; exact below_new _ _
        have hbr := hb.trans (bb.mono hb.size)
        have hC := Lib.hid (right_any f (.agg #[.int .i64 f.k, .int .i64 f.c, .slice A' f.ks.length cap']) wr' ((hN.below hbr).mono hbr.size))
        have HH := Lib.hid (And.intro hf (And.intro hbr (And.intro hwr' hall)))
        clear bb hbr hwr' hN hr hbl d0 d1 d2 hb hall hf
        go_wp2_with fail
        rw [HH.out.2.2.1]
        refine hC.out.mono ?_
        rintro r w2 ⟨rfl, hb2⟩
        have HB := Lib.hid (HH.out.2.1.trans (hb2.mono HH.out.2.1.size))
        clear hb2
        by_cases hr : rightE f = true
        · rw [hr]
          have ht : (ks.take (k + 1)).all rightE = true := by rw [all_take HH.out.1, HH.out.2.2.2, hr]; rfl
          have HT := Lib.hid ht
          clear ht hr
          go_wp2_with fail
          go_roundw
          case rel => exact ⟨k + 1, by go_num, by omega, HT.out, HB.out⟩
          case measure => simp [RowKit.intOf]; omega
        · have hr : rightE f = false := by simpa using hr
          rw [hr]
          have : R = 1 := by
            have ht : (ks.take (k + 1)).all rightE = false := by rw [all_take HH.out.1, hr]; simp
            rw [← HR.out]; unfold faultL; rw [if_neg (by rw [HN.out]; exact h40), if_pos (all_stop ht)]
          subst this
          clear hr
          go_wp2_with fail
          go_ret
          exact ⟨rfl, HB.out⟩
      · obtain rfl : k = n := by omega
        have i1 : ¬ (k : Int) < (k : Int) := by omega
        have ht : ks.take k = ks := by rw [← HN.out, List.take_length]
        rw [ht] at hall
        have HA := Lib.hid hall
        have HB := Lib.hid hb
        clear hall hb ht
        go_wp2_with fail
        clear i1
        go_loopw [5, 23] (fun s i wr => ∃ j : Nat, i = .int .i64 j ∧ j ≤ k ∧ s = .int .i64 ((1 + lvL (ks.take j) : Nat) : Int) ∧ Below w.heap.size w wr) (fun _ i _ => k - (RowKit.intOf i).toNat)
        case atStart => exact ⟨0, rfl, Nat.zero_le _, rfl, HB.out⟩
        case round =>
          obtain ⟨j, rfl, hjn, rfl, hb⟩ := hrel
          by_cases hlt : j < k
          · obtain ⟨f, hf⟩ : ∃ f, ks[j]? = some f := ⟨ks[j]'(by rw [HN.out]; exact hlt), List.getElem?_eq_getElem _⟩
            have i1 : (j : Int) < (k : Int) := by omega
            obtain ⟨b, o, rfl, hbl, hr⟩ := HK.out.r (by rintro rfl; simp at hf)
            obtain ⟨A', cap', d0, d1, d2, hN⟩ := row_get' hr hf
            have d0' := (hb.cell (p := ⟨b, o + j * 3, none⟩) hbl).trans d0
            have d1' := (hb.cell (p := ⟨b, o + j * 3 + 1, none⟩) hbl).trans d1
            have d2' := (hb.cell (p := ⟨b, o + j * 3 + 2, none⟩) hbl).trans d2
            obtain ⟨wr', hwr'⟩ : ∃ W, wr.alloc (.cells #[.int .i64 f.k, .int .i64 f.c, .slice A' f.ks.length cap'] 71) = W := ⟨_, rfl⟩
            have bb : Below wr.heap.size wr wr' := by rw [← hwr']; exact below_new _ _
            have hbr := hb.trans (bb.mono hb.size)
            have hrf : rightE f = true := List.all_eq_true.1 HA.out f (List.mem_of_getElem? hf)
            have hsz := right_size hrf
            have hC := Lib.hid (leaves_any _ f (Nat.le_refl _) (by omega) (.agg #[.int .i64 f.k, .int .i64 f.c, .slice A' f.ks.length cap']) wr' ((hN.below hbr).mono hbr.size))
            have hs := lvL_take hf
            have hle := lvL_le2000 HA.out (j + 1)
            have hlj : (ks.take (j + 1)).length ≤ j + 1 := List.length_take_le _ _
            generalize lvL (ks.take j) = s at *
            generalize leavesE f = t at *
            have hw : wrap64 (((1 + s : Nat) : Int) + (t : Int)) = ((1 + (s + t) : Nat) : Int) := by unfold wrap64; omega
            have HH := Lib.hid (And.intro hs (And.intro hbr (And.intro hwr' hw)))
            clear hs hle hlj bb hbr hwr' hN hr hbl d0 d1 d2 hb hf hw hrf hsz
            go_wp2_with fail
            rw [HH.out.2.2.1]
            refine hC.out.mono ?_
            rintro r w2 ⟨rfl, hb2⟩
            have HB2 := Lib.hid (HH.out.2.1.trans (hb2.mono HH.out.2.1.size))
            clear hb2
            go_wp2_with fail
            go_roundw
            case rel =>
              refine ⟨j + 1, by go_num, by omega, ?_, HB2.out⟩
              rw [HH.out.1]
              have := HH.out.2.2.2
              first
                | (rw [← this]; simp)
                | (simp at this ⊢; omega)
            case measure => simp [RowKit.intOf]; omega
          · obtain rfl : j = k := by omega
            have i1 : ¬ (j : Int) < (j : Int) := by omega
            have ht : ks.take j = ks := by rw [← HN.out, List.take_length]
            rw [ht]
            have HB2 := Lib.hid hb
            clear hb ht
            obtain ⟨s, hs⟩ : ∃ s, lvL ks = s := ⟨_, rfl⟩
            rw [hs]
            have HS := Lib.hid hs
            clear hs
            by_cases h1000 : 1000 < 1 + s
            · have h1 : (1000 : Int) < ((1 + s : Nat) : Int) := by omega
              have : R = 7 := by rw [← HR.out]; unfold faultL; rw [if_neg (by rw [HN.out]; exact h40), if_neg (by rw [HA.out]; simp), if_pos (by rw [HS.out]; exact h1000)]
              subst this
              go_wp2_with fail
              go_ret
              exact ⟨rfl, HB2.out⟩
            · have h1 : ¬ (1000 : Int) < ((1 + s : Nat) : Int) := by omega
              have : R = 0 := by rw [← HR.out]; unfold faultL; rw [if_neg (by rw [HN.out]; exact h40), if_neg (by rw [HA.out]; simp), if_neg (by rw [HS.out]; exact h1000)]
              subst this
              go_wp2_with fail
              go_ret
              exact ⟨rfl, HB2.out⟩
end Go.Proofs.YteamonmneoakpaaDoor

