/-
  SqueezeMakes with what the row gives.
-/
import Derived.Test.YtmldgfplnacecaaDoorRmk
import Derived.Test.YtmldgfplnacecaaDoorRws
import Derived.Test.YtmldgfplnacecaaDoorRrt
import Derived.Test.YtmldgfplnacecaaDoorAwk
namespace Go.Proofs.YtmldgfplnacecaaDoor
open Go.RowKit Go.Shelf Go.Lib Go.Maps Go.Sort

theorem narR_len (R : List (List Int)) (g : List Int) : (narR R g).length = R.length := by unfold narR; rw [List.length_map]
/-- What Make answers, said of its parts. -/
def MkRes (w' : World) (g : List Int) (R : List (List Int)) (T : List Nat) (A0 : Option Addr) (n0 c0 : Nat) (A1 : Option Addr) (n1 c1 : Nat) (A2 : Option Addr) (n2 c2 : Nat) (ev : Int) : Prop :=
  ((manyL g = 0 ∨ rightT R T = false) ∧ n0 = 0 ∧ n1 = 0 ∧ ev = 1) ∨ (manyL g ≠ 0 ∧ rightT R T = true ∧ R.all (fitB g) = false ∧ n0 = 0 ∧ n1 = 0 ∧ ev = 4) ∨
    (manyL g ≠ 0 ∧ rightT R T = true ∧ R.all (fitB g) = true ∧ n0 = g.length ∧ n1 = R.length ∧ n2 = T.length ∧ ev = 0 ∧ IS w' w'.heap.size g A0 c0 ∧ RsAt w' w'.heap.size (narR R g) A1 c1 ∧ UsAt w' w'.heap.size T A2 c2)
theorem make_res {w w' : World} {g : List Int} {R : List (List Int)} {T : List Nat} {r : Ending} (h : MakeOk w g R T r w') (hg : ∀ x ∈ g, i64 x) (ht : ∀ x ∈ T, x < 18446744073709551616) :
    Below w.heap.size w w' ∧ ∃ A0 n0 c0 A1 n1 c1 A2 n2 c2 ev, r = .returned (.tuple #[.agg #[.slice A0 n0 c0, .slice A1 n1 c1, .slice A2 n2 c2], .int .i64 ev]) ∧ MkRes w' g R T A0 n0 c0 A1 n1 c1 A2 n2 c2 ev := by
  obtain ⟨hb, ((⟨h1, rfl⟩ | ⟨h1, h2, h3, rfl⟩) | ⟨h1, h2, h3, v, rfl, hn⟩)⟩ := h
  · exact ⟨hb, _, _, _, _, _, _, _, _, _, _, rfl, .inl ⟨h1, rfl, rfl, rfl⟩⟩
  · exact ⟨hb, _, _, _, _, _, _, _, _, _, _, rfl, .inr (.inl ⟨h1, h2, h3, rfl, rfl, rfl⟩)⟩
  · have hp := many_parts h1
    obtain ⟨A, c, A1, c1, A2, c2, rfl, k0, k1, k2⟩ := hn.nw hg (narR_mem (by omega) (right_ints h2)) ht
    exact ⟨hb, _, _, _, _, _, _, _, _, _, _, rfl, .inr (.inr ⟨h1, h2, h3, rfl, narR_len R g, rfl, rfl, k0, k1, k2⟩)⟩
theorem rs_nil (w : World) : RsAt w w.heap.size [] none 0 := ⟨Nat.le_refl _, by unfold maxLen; omega, fun _ => rfl, fun hn => absurd rfl hn⟩
set_option maxHeartbeats 16000000 in
set_option maxRecDepth 100000 in
theorem smakes_any (g : List Int) (A : Option Addr) (cap : Nat) {R : List (List Int)} {T : List Nat} {v : Value} (w : World) (his : IS w w.heap.size g A cap) (h : TbV w R T v) (hP : PW w) :
    Calls Tryd.prog 7 #[.slice A g.length cap, v] w fun r w' => r = .returned (.bool true) ∧ Below w.heap.size w w' := by
  obtain ⟨A1, c1, A2, c2, rfl, hR, hT⟩ := h
  obtain ⟨n, hn⟩ : ∃ n, R.length = n := ⟨_, rfl⟩
  obtain ⟨n2, hn2⟩ : ∃ n, T.length = n := ⟨_, rfl⟩
  obtain ⟨N, hN⟩ : ∃ n, g.length = n := ⟨_, rfl⟩
  obtain ⟨W0, hW0⟩ : ∃ W, w.alloc (.cells #[.slice A1 n c1, .slice A2 n2 c2] 57) = W := ⟨_, rfl⟩
  have b0 : Below w.heap.size w W0 := by rw [← hW0]; exact below_new _ _
  have x0 : Cells W0 w.heap.size 57 #[.slice A1 n c1, .slice A2 n2 c2] := by rw [← hW0]; exact cells_new _ _ _
  have l0 : W0.heap.size = w.heap.size + 1 := by rw [← hW0]; simp
  have KW : ∀ W, Below w.heap.size w W → Calls Tryd.prog 30 #[] W fun r w' => r = .returned (.bool true) ∧ Below W.heap.size W w' := fun W hW => awake_any W (hP.below hW hP.lt)
  have KT : ∀ W, Below w.heap.size w W → TbV W R T (.agg #[.slice A1 n c1, .slice A2 n2 c2]) := fun W hW => ⟨A1, c1, A2, c2, by rw [hn, hn2], (hR.below hW).mono hW.size, (hT.below hW).mono hW.size⟩
  have KG : ∀ W, Below w.heap.size w W → IS W W.heap.size g A cap := fun W hW => (his.below hW).mono hW.size
  have KR : ∀ W, Below w.heap.size w W → RsAt W W.heap.size R A1 c1 := fun W hW => (hR.below hW).mono hW.size
  have KU : ∀ W, Below w.heap.size w W → UsAt W W.heap.size T A2 c2 := fun W hW => (hT.below hW).mono hW.size
  have hNm : N ≤ 9223372036854775807 := by have := his.l; have := his.m; unfold maxLen at this; omega
  have e0 := x0.cell 0
  have e1 := x0.cell 1
  simp at e0 e1
  have HKW := Lib.hid KW
  have HK := Lib.hid (And.intro KT (And.intro KG (And.intro KR KU)))
  have HN := Lib.hid (And.intro hn (And.intro hn2 hN))
  have H := Lib.hid (And.intro b0 x0)
  have HI := Lib.hid (And.intro his.i hT.i)
  have HW := Lib.hid hW0
  have D := great_tab (KT W0 b0)
  have HD := Lib.hid D
  rw [hn, hn2, hN]
  clear KW KT KG KR KU hn hn2 hN b0 x0 hW0 his hR hT hP D l0
  go_enter Tryd.func7, Tryd.ntmps7
  go_wp2_with fail
  rw [HW.out]
  refine HD.out.mono ?_
  rintro r w2 ⟨rfl, hb2⟩
  have b2 : Below w.heap.size w w2 := H.out.1.trans (hb2.mono H.out.1.size)
  have x2 := H.out.2.on hb2
  cases hg : greatT R T with
  | true =>
    have HC := Lib.hid (And.intro (HKW.out w2 b2) b2)
    clear hg hb2 b2 x2 e0 e1
    go_wp2_with fail
    refine HC.out.1.mono ?_
    rintro r w3 ⟨rfl, hb3⟩
    have HB := Lib.hid (HC.out.2.trans (hb3.mono HC.out.2.size))
    clear hb3
    go_wp2_with fail
    go_ret
    exact ⟨rfl, HB.out⟩
  | false =>
    by_cases h60 : 60 < N
    · have i60 : (60 : Int) < (N : Int) := by omega
      have HC := Lib.hid (And.intro (HKW.out w2 b2) b2)
      clear hg hb2 b2 x2 e0 e1
      go_wp2_with fail
      refine HC.out.1.mono ?_
      rintro r w3 ⟨rfl, hb3⟩
      have HB := Lib.hid (HC.out.2.trans (hb3.mono HC.out.2.size))
      clear hb3
      go_wp2_with fail
      go_ret
      exact ⟨rfl, HB.out⟩
    · have i60 : ¬ (60 : Int) < (N : Int) := by omega
      have HC := Lib.hid (And.intro (HKW.out w2 b2) (And.intro b2 x2))
      clear hg hb2 b2 x2 e0 e1
      go_wp2_with fail
      refine HC.out.1.mono ?_
      rintro r w3 ⟨rfl, hb3⟩
      have b3 := HC.out.2.1.trans (hb3.mono HC.out.2.1.size)
      have x3 := HC.out.2.2.on hb3
      have e0 := x3.cell 0
      have e1 := x3.cell 1
      simp at e0 e1
      have D := to_tab A1 A2 n c1 n2 c2 w3
      have HD := Lib.hid (And.intro D (And.intro b3 x3))
      clear b3 x3 hb3 D
      go_wp2_with fail
      refine HD.out.1.mono ?_
      rintro r w4 ⟨rfl, hb4⟩
      have b4 := HD.out.2.1.trans (hb4.mono HD.out.2.1.size)
      have x4 := HD.out.2.2.on hb4
      have D := make_any g A cap (HK.out.2.1 w4 b4) (by have := HN.out.2.2; omega) (HK.out.1 w4 b4)
      rw [HN.out.2.2] at D
      have HD4 := Lib.hid (And.intro D (And.intro b4 x4))
      clear b4 x4 hb4 D e0 e1
      go_wp2_with fail
      refine HD4.out.1.mono ?_
      intro r w5 hmk
      obtain ⟨hb5, P0, p0, q0, P1, p1, q1, P2, p2, q2, ev, rfl, hres⟩ := make_res hmk HI.out.1 HI.out.2
      have b5 := HD4.out.2.1.trans (hb5.mono HD4.out.2.1.size)
      have x5 := HD4.out.2.2.on hb5
      obtain ⟨W6, hW6⟩ : ∃ W, w5.alloc (.cells #[.slice P0 p0 q0, .slice P1 p1 q1, .slice P2 p2 q2] 70) = W := ⟨_, rfl⟩
      have bal : Below w5.heap.size w5 W6 := by rw [← hW6]; exact below_new _ _
      have y6 : Cells W6 w5.heap.size 70 #[.slice P0 p0 q0, .slice P1 p1 q1, .slice P2 p2 q2] := by rw [← hW6]; exact cells_new _ _ _
      have b6 := b5.trans (bal.mono b5.size)
      have x6 := x5.on bal
      have D := many_any g A cap W6 (HK.out.2.1 W6 b6) (by have := HN.out.2.2; omega)
      rw [HN.out.2.2] at D
      have HW6 := Lib.hid hW6
      have HD6 := Lib.hid (And.intro D (And.intro b6 (And.intro x6 (And.intro y6 (And.intro hres bal)))))
      clear hmk hb5 b5 x5 bal y6 b6 x6 D hW6 hres
      go_wp2_with fail
      rw [HW6.out]
      refine HD6.out.1.mono ?_
      rintro r w7 ⟨rfl, hb7⟩
      have b7 := HD6.out.2.1.trans (hb7.mono HD6.out.2.1.size)
      have x7 := HD6.out.2.2.1.on hb7
      have y7 := HD6.out.2.2.2.1.on hb7
      have D := rmany_any g A cap w7 (HK.out.2.1 w7 b7) (by have := HN.out.2.2; omega)
      have b57 := HD6.out.2.2.2.2.2.trans (hb7.mono HD6.out.2.2.2.2.2.size)
      rw [HN.out.2.2] at D
      obtain ⟨M, hM⟩ : ∃ M, manyL g = M := ⟨_, rfl⟩
      rw [hM] at D ⊢
      have HM := Lib.hid hM
      have HD7 := Lib.hid (And.intro D (And.intro b7 (And.intro x7 (And.intro y7 b57))))
      clear hb7 b7 x7 y7 b57 D hM
      go_wp2_with fail
      refine HD7.out.1.mono ?_
      rintro r w8 ⟨rfl, e8⟩
      obtain rfl := e8.symm
      clear e8
      have jM : (M == M) = true := by simp
      have jM2 : (M != M) = false := by simp
      go_wp2_with fail
      refine HD7.out.1.mono ?_
      rintro r w8 ⟨rfl, e8⟩
      obtain rfl := e8.symm
      clear e8 jM jM2
      have e0 := HD7.out.2.2.1.cell 0
      have e1 := HD7.out.2.2.1.cell 1
      have t0 := HD7.out.2.2.2.1.cell 0
      have t1 := HD7.out.2.2.2.1.cell 1
      have t2 := HD7.out.2.2.2.1.cell 2
      simp at e0 e1 t0 t1 t2
      have D := refRightD_any (HK.out.1 w7 HD7.out.2.1)
      rcases HD6.out.2.2.2.2.1 with ⟨h1, rfl, rfl, rfl⟩ | ⟨h1, h2, h3, rfl, rfl, rfl⟩ | ⟨h1, h2, h3, k0, k1, k2, rfl, kI, kR, kU⟩
      · by_cases hM0 : M = 0
        · subst hM0
          have HB := Lib.hid HD7.out.2.1
          clear D h1
          go_wp2_with fail
          go_ret
          exact ⟨rfl, HB.out⟩
        · have j0 : (M == 0) = false := by simpa using hM0
          have hr : rightT R T = false := by
            rcases h1 with h1 | h1
            · exact absurd (HM.out.symm.trans h1) hM0
            · exact h1
          rw [hr] at D
          have HD8 := Lib.hid D
          clear D h1 hr
          go_wp2_with fail
          refine HD8.out.mono ?_
          rintro r w8 ⟨rfl, hb8⟩
          have y8 := HD7.out.2.2.2.1.on hb8
          clear t0 t1 t2 e0 e1
          have t0 := y8.cell 0
          have t1 := y8.cell 1
          simp at t0 t1
          have HB := Lib.hid (HD7.out.2.1.trans (hb8.mono HD7.out.2.1.size))
          clear hb8 y8
          go_wp2_with fail
          go_ret
          exact ⟨rfl, HB.out⟩
      · have hM0 : M ≠ 0 := by rw [← HM.out]; exact h1
        have j0 : (M == 0) = false := by simpa using hM0
        rw [h2] at D
        have HQ := Lib.hid (And.intro h1 (And.intro h2 h3))
        have HD8 := Lib.hid D
        clear D h1 h2 h3
        go_wp2_with fail
        refine HD8.out.mono ?_
        rintro r w8 ⟨rfl, hb8⟩
        have b8 := HD7.out.2.1.trans (hb8.mono HD7.out.2.1.size)
        have x8 := HD7.out.2.2.1.on hb8
        have y8 := HD7.out.2.2.2.1.on hb8
        clear t0 t1 t2 e0 e1
        have e0 := x8.cell 0
        have e1 := x8.cell 1
        simp at e0 e1
        have D := rmake_any g A cap R T A1 A2 c1 c2 w8 (HK.out.2.1 w8 b8) (HK.out.2.2.1 w8 b8) HQ.out.1 HQ.out.2.1
        rw [HN.out.1, HN.out.2.1, HN.out.2.2] at D
        have HD9 := Lib.hid (And.intro D (And.intro b8 y8))
        clear D b8 x8 y8 hb8
        go_wp2_with fail
        refine HD9.out.1.mono ?_
        rintro r w9 ⟨hb9, (⟨_, rfl⟩ | ⟨hbad, _⟩)⟩
        · unfold nil3
          have hb9' : Below w8.heap.size w8 (w9.alloc (.cells #[.slice none 0 0, .slice none 0 0, .slice none 0 0] 74)) := hb9.alloc hb9.size _
          have y9 := HD9.out.2.2.on hb9
          have t0 := y9.cell 0
          have t1 := y9.cell 1
          simp at t0 t1
          have l9 := y9.lt
          have HB := Lib.hid (HD9.out.2.1.trans (hb9'.mono HD9.out.2.1.size))
          clear hb9 hb9' y9 e0 e1
          go_wp2_with fail
          go_ret
          exact ⟨rfl, HB.out⟩
        · rw [HQ.out.2.2] at hbad
          cases hbad
      · subst k0 k1 k2
        have hM0 : M ≠ 0 := by rw [← HM.out]; exact h1
        have j0 : (M == 0) = false := by simpa using hM0
        rw [h2] at D
        have HQ := Lib.hid (And.intro h1 (And.intro h2 (And.intro h3 (And.intro kI (And.intro kR kU)))))
        have HD8 := Lib.hid D
        clear D h1 h2 h3 kI kR kU t0 t1 t2
        go_wp2_with fail
        refine HD8.out.mono ?_
        rintro r w8 ⟨rfl, hb8⟩
        have b8 := HD7.out.2.1.trans (hb8.mono HD7.out.2.1.size)
        have x8 := HD7.out.2.2.1.on hb8
        have y8 := HD7.out.2.2.2.1.on hb8
        have b58 := HD7.out.2.2.2.2.trans (hb8.mono HD7.out.2.2.2.2.size)
        clear e0 e1
        have e0 := x8.cell 0
        have e1 := x8.cell 1
        simp at e0 e1
        have D := rmake_any g A cap R T A1 A2 c1 c2 w8 (HK.out.2.1 w8 b8) (HK.out.2.2.1 w8 b8) HQ.out.1 HQ.out.2.1
        rw [HN.out.1, HN.out.2.1, HN.out.2.2] at D
        have HD9 := Lib.hid (And.intro D (And.intro b8 (And.intro y8 b58)))
        clear D b8 x8 y8 hb8 b58
        go_wp2_with fail
        refine HD9.out.1.mono ?_
        rintro r w9 ⟨hb9, (⟨hbad, _⟩ | ⟨_, vN, xs, rfl, oN, hrow⟩)⟩
        · rw [HQ.out.2.2.1] at hbad
          cases hbad
        · have hp := many_parts HQ.out.1
          obtain ⟨B1, d1, rfl, hRN⟩ := rs_of_own oN hrow (narR_mem (by omega) (right_ints HQ.out.2.1))
          have hbl := below_new w9 (.cells #[.slice A N cap, .slice B1 (narR R g).length d1, .slice A2 n2 c2] 74)
          obtain ⟨W9, hW9⟩ : ∃ W, w9.alloc (.cells #[.slice A N cap, .slice B1 (narR R g).length d1, .slice A2 n2 c2] 74) = W := ⟨_, rfl⟩
          rw [hW9] at hbl
          have z9 : Cells W9 w9.heap.size 74 #[.slice A N cap, .slice B1 (narR R g).length d1, .slice A2 n2 c2] := by rw [← hW9]; exact cells_new _ _ _
          have hb9' : Below w8.heap.size w8 W9 := hb9.trans (hbl.mono hb9.size)
          have b9 := HD9.out.2.1.trans (hb9'.mono HD9.out.2.1.size)
          have b59 := HD9.out.2.2.2.trans (hb9'.mono HD9.out.2.2.2.size)
          have y9 := HD9.out.2.2.1.on hb9'
          have hRN9 := hRN.on hbl
          have yy := HD9.out.2.2.1.on hb9
          have t0 := yy.cell 0
          have l9 := yy.lt
          simp at t0
          have D := is_any g g P0 A q0 cap W9 (HQ.out.2.2.2.1.on b59) (HK.out.2.1 W9 b9)
          have e2 : decide (g = g) = true := by simp
          rw [e2, HN.out.2.2] at D
          rw [HN.out.2.2] at t0
          have HW9 := Lib.hid hW9
          have HD10 := Lib.hid (And.intro D (And.intro b9 (And.intro b59 (And.intro y9 (And.intro z9 hRN9)))))
          clear D e2 hb9 hb9' b9 b59 y9 z9 hRN9 hRN oN hrow hbl hW9 e0 e1 hp yy
          go_wp2_with fail
          rw [HW9.out]
          refine HD10.out.1.mono ?_
          rintro r w10 ⟨rfl, hb10⟩
          have b10 := HD10.out.2.1.trans (hb10.mono HD10.out.2.1.size)
          have b510 := HD10.out.2.2.1.trans (hb10.mono HD10.out.2.2.1.size)
          have y10 := HD10.out.2.2.2.1.on hb10
          have z10 := HD10.out.2.2.2.2.1.on hb10
          have hRN10 := HD10.out.2.2.2.2.2.on hb10
          clear t0 l9
          have t0 := y10.cell 1
          have u0 := z10.cell 1
          simp at t0 u0
          have D := rows_any (narR R g) (narR R g) P1 B1 q1 d1 w10 (HQ.out.2.2.2.2.1.on b510) hRN10
          have e2 : decide (narR R g = narR R g) = true := by simp
          rw [e2, narR_len] at D
          rw [narR_len] at u0
          have HD11 := Lib.hid (And.intro D (And.intro b10 (And.intro b510 (And.intro y10 z10))))
          clear D e2 hb10 b10 b510 y10 z10 hRN10
          go_wp2_with fail
          refine HD11.out.1.mono ?_
          rintro r w11 ⟨rfl, hb11⟩
          have b11 := HD11.out.2.1.trans (hb11.mono HD11.out.2.1.size)
          have b511 := HD11.out.2.2.1.trans (hb11.mono HD11.out.2.2.1.size)
          have y11 := HD11.out.2.2.2.1.on hb11
          have z11 := HD11.out.2.2.2.2.on hb11
          clear t0 u0
          have t0 := y11.cell 2
          have u0 := z11.cell 2
          simp at t0 u0
          have D := refSame_any (R := []) (R' := []) (T := T) (T' := T) (v := .agg #[.slice none 0 0, .slice P2 T.length q2]) (v' := .agg #[.slice none 0 0, .slice A2 T.length c2]) (w := w11)
            ⟨none, 0, P2, q2, rfl, rs_nil _, HQ.out.2.2.2.2.2.on b511⟩ ⟨none, 0, A2, c2, rfl, rs_nil _, HK.out.2.2.2 w11 b11⟩
          have e2 : (decide (([] : List (List Int)) = []) && decide (T = T)) = true := by simp
          rw [e2, HN.out.2.1] at D
          rw [HN.out.2.1] at t0
          have HD12 := Lib.hid (And.intro D b11)
          clear D e2 hb11 b11 b511 y11 z11
          go_wp2_with fail
          refine HD12.out.1.mono ?_
          rintro r w12 ⟨rfl, hb12⟩
          have HB := Lib.hid (HD12.out.2.trans (hb12.mono HD12.out.2.size))
          clear hb12 t0 u0
          go_wp2_with fail
          go_ret
          exact ⟨rfl, HB.out⟩
end Go.Proofs.YtmldgfplnacecaaDoor
