/-
  SqueezeBack, up to the two copies.
-/
import Derived.BigRegion
import Derived.Deep.RegionHeld3
import Derived.Deep.CutRange
import Derived.Test.YtmldgfplnacecaaDoorRun
import Derived.Test.YtmldgfplnacecaaDoorSqn
import Derived.BigQuiet
import Derived.Test.YtmldgfplnacecaaDoorSbh
namespace Go.Proofs.YtmldgfplnacecaaDoor
open Go.RowKit Go.Shelf Go.Lib Go.Maps Go.Sort

theorem mod37 (a : Int) : ∃ X : Nat, X < 37 ∧ wrap64 ((IntKind.u64.wrap a).tmod 37) = (X : Int) := by
  have h0 : 0 ≤ IntKind.u64.wrap a := by simp [IntKind.wrap, IntKind.bits, IntKind.signed]; omega
  generalize IntKind.u64.wrap a = Z at *
  rw [Int.tmod_eq_emod_of_nonneg h0]
  have h1 : 0 ≤ Z % 37 := by omega
  have h2 : Z % 37 < 37 := by omega
  generalize Z % 37 = M at *
  refine ⟨M.toNat, by omega, ?_⟩
  rw [IntWalk.wrap64_in M ⟨by omega, by omega⟩]
  omega
/-- Two marks lead to the same from the first states. -/
def sameT (R : List (List Int)) (I J k : Nat) : Bool := (R.take k).all fun r => decide (r.getD I 0 = r.getD J 0)
theorem sameT_zero (R : List (List Int)) (I J : Nat) : sameT R I J 0 = true := rfl
theorem sameT_step {R : List (List Int)} {k : Nat} {r : List Int} (I J : Nat) (h : R[k]? = some r) : sameT R I J (k + 1) = (sameT R I J k && decide (r.getD I 0 = r.getD J 0)) := allT_take _ h
theorem run_one {R : List (List Int)} {k I : Nat} {r : List Int} (h : R[k]? = some r) (hI : I < 37) : runR R (k : Int) [(I : Int)] = r.getD I 0 := by
  have ok : okM (I : Int) = true := by unfold okM; simp; omega
  unfold runR
  simp only [List.all_cons, List.all_nil, ok, Bool.and_true, if_true, List.foldl_cons, List.foldl_nil]
  unfold stR
  simp [List.getD_eq_getElem?_getD, h]
theorem sameT_col {R : List (List Int)} {I J : Nat} : sameT R I J R.length = true ↔ colL R I = colL R J := by
  unfold sameT
  rw [List.take_length, List.all_eq_true, col_same]
  constructor
  · intro h r hr; exact of_decide_eq_true (h r hr)
  · intro h r hr; exact decide_eq_true (h r hr)
set_option maxHeartbeats 16000000 in
set_option maxRecDepth 100000 in
theorem sback_any {R : List (List Int)} {T : List Nat} {R' : List (List Int)} {T' : List Nat} {va vb : Value} (im ik : Int) (w : World) (h : TbV w R T va) (h' : TbV w R' T' vb) (hm : i64 im) (hk : i64 ik) (hP : PW w) :
    Calls Tryd.prog 9 #[va, vb, .int .i64 im, .int .i64 ik] w fun r w' => r = .returned (.bool true) ∧ Below w.heap.size w w' := by
  obtain ⟨A1, c1, A2, c2, rfl, hR, hT⟩ := h
  obtain ⟨B1, d1, B2, d2, rfl, hR', hT'⟩ := h'
  obtain ⟨n1, hn1⟩ : ∃ n, R.length = n := ⟨_, rfl⟩
  obtain ⟨n2, hn2⟩ : ∃ n, T.length = n := ⟨_, rfl⟩
  obtain ⟨m1, hm1⟩ : ∃ n, R'.length = n := ⟨_, rfl⟩
  obtain ⟨m2, hm2⟩ : ∃ n, T'.length = n := ⟨_, rfl⟩
  obtain ⟨W0, hW0⟩ : ∃ W, (w.alloc (.cells #[.slice A1 n1 c1, .slice A2 n2 c2] 57)).alloc (.cells #[.slice B1 m1 d1, .slice B2 m2 d2] 57) = W := ⟨_, rfl⟩
  have b0 : Below w.heap.size w W0 := by rw [← hW0]; exact (below_new _ _).alloc (by simp) _
  have x0 : Cells W0 w.heap.size 57 #[.slice A1 n1 c1, .slice A2 n2 c2] := by rw [← hW0]; exact (cells_new _ _ _).on (below_new _ _)
  have y0 : Cells W0 (w.heap.size + 1) 57 #[.slice B1 m1 d1, .slice B2 m2 d2] := by
    rw [← hW0]
    have := cells_new (w.alloc (.cells #[.slice A1 n1 c1, .slice A2 n2 c2] 57)) #[.slice B1 m1 d1, .slice B2 m2 d2] 57
    rw [World.size_alloc] at this
    exact this
  have KW : ∀ W, Below w.heap.size w W → Calls Tryd.prog 30 #[] W fun r w' => r = .returned (.bool true) ∧ Below W.heap.size W w' := fun W hW => awake_any W (hP.below hW hP.lt)
  have KT : ∀ W, Below w.heap.size w W → TbV W R T (.agg #[.slice A1 n1 c1, .slice A2 n2 c2]) := fun W hW => ⟨A1, c1, A2, c2, by rw [hn1, hn2], (hR.below hW).mono hW.size, (hT.below hW).mono hW.size⟩
  have KT' : ∀ W, Below w.heap.size w W → TbV W R' T' (.agg #[.slice B1 m1 d1, .slice B2 m2 d2]) := fun W hW => ⟨B1, d1, B2, d2, by rw [hm1, hm2], (hR'.below hW).mono hW.size, (hT'.below hW).mono hW.size⟩
  have KP : ∀ W, Below w.heap.size w W → PW W := fun W hW => hP.below hW hP.lt
  have e0 := x0.cell 0
  have e1 := x0.cell 1
  simp at e0 e1
  have HKW := Lib.hid KW
  have HK := Lib.hid (And.intro KT (And.intro KT' KP))
  have HN := Lib.hid (And.intro hn1 (And.intro hn2 (And.intro hm1 hm2)))
  have H := Lib.hid (And.intro b0 (And.intro x0 y0))
  have HIK := Lib.hid (And.intro hm hk)
  have HW := Lib.hid hW0
  have D := great_tab (KT W0 b0)
  have HD := Lib.hid D
  rw [hn1, hn2, hm1, hm2]
  clear KW KT KT' KP hn1 hn2 hm1 hm2 b0 x0 y0 hW0 hR hT hR' hT' hP D hm hk
  go_enter Tryd.func9, Tryd.ntmps9
  go_wp2_with fail
  rw [HW.out]
  refine HD.out.mono ?_
  rintro r w2 ⟨rfl, hb2⟩
  have b2 : Below w.heap.size w w2 := H.out.1.trans (hb2.mono H.out.1.size)
  have x2 := H.out.2.1.on hb2
  have y2 := H.out.2.2.on hb2
  clear e0 e1
  have e2 := y2.cell 0
  have e3 := y2.cell 1
  simp at e2 e3
  cases hg : greatT R T with
  | true =>
    have HC := Lib.hid (And.intro (HKW.out w2 b2) b2)
    clear hg hb2 b2 x2 y2 e2 e3
    go_wp2_with fail
    refine HC.out.1.mono ?_
    rintro r w3 ⟨rfl, hb3⟩
    have HB := Lib.hid (HC.out.2.trans (hb3.mono HC.out.2.size))
    clear hb3
    go_wp2_with fail
    go_ret
    exact ⟨rfl, HB.out⟩
  | false =>
    have D := great_tab (HK.out.2.1 w2 b2)
    have HD2 := Lib.hid (And.intro D (And.intro b2 (And.intro x2 y2)))
    have HG1 := Lib.hid (great_small hg)
    clear D hg hb2 b2 x2 y2
    go_wp2_with fail
    refine HD2.out.1.mono ?_
    rintro r w3 ⟨rfl, hb3⟩
    have b3 := HD2.out.2.1.trans (hb3.mono HD2.out.2.1.size)
    have x3 := HD2.out.2.2.1.on hb3
    have y3 := HD2.out.2.2.2.on hb3
    clear e2 e3
    cases hg : greatT R' T' with
    | true =>
      have HC := Lib.hid (And.intro (HKW.out w3 b3) b3)
      clear hg hb3 b3 x3 y3
      go_wp2_with fail
      refine HC.out.1.mono ?_
      rintro r w4 ⟨rfl, hb4⟩
      have HB := Lib.hid (HC.out.2.trans (hb4.mono HC.out.2.size))
      clear hb4
      go_wp2_with fail
      go_ret
      exact ⟨rfl, HB.out⟩
    | false =>
    have HC := Lib.hid (And.intro (HKW.out w3 b3) (And.intro b3 (And.intro x3 y3)))
    have HG2 := Lib.hid (great_small hg)
    clear hg hb3 b3 x3 y3
    go_wp2_with fail
    refine HC.out.1.mono ?_
    rintro r w4 ⟨rfl, hb4⟩
    have b4 := HC.out.2.1.trans (hb4.mono HC.out.2.1.size)
    have x4 := HC.out.2.2.1.on hb4
    have y4 := HC.out.2.2.2.on hb4
    have e0 := x4.cell 0
    have e1 := x4.cell 1
    have e2 := y4.cell 0
    have e3 := y4.cell 1
    simp at e0 e1 e2 e3
    have HP := Lib.hid (And.intro x4.lt (And.intro y4.lt (And.intro e0 (And.intro e1 (And.intro e2 e3)))))
    have HB4 := Lib.hid b4
    have HS0 := Lib.hid (show Below w4.heap.size w4 w4.drew from (Below.refl _ _).drew)
    obtain ⟨wd, hwd⟩ : ∃ W, w4.drew = W := ⟨_, rfl⟩
    have HWD := Lib.hid hwd
    have HSd := Lib.hid (show Below w4.heap.size w4 wd by rw [← hwd]; exact HS0.out)
    clear x4 y4 b4 hb4 hwd
    go_upto_region 3 with fail
    go_cut [9, 10] from 36 to 39 (fun p q wx => ∃ bp bq, p = .pointer (some ⟨bp, 0, none⟩) ∧ q = .pointer (some ⟨bq, 0, none⟩) ∧ Cells wx bp 54 #[.slice A1 n1 c1, .slice A2 n2 c2] ∧ Cells wx bq 54 #[.slice B1 m1 d1, .slice B2 m2 d2] ∧ Below w4.heap.size w4 wx)
    case first =>
      clear e0 e1 e2 e3
      refine wp_region_noPanic ?_
      refine wp_region_held_drew (S := fun W => Below w4.heap.size w4 W) (by kernel_rfl) HS0.out (fun hH => ?_)
      rw [HWD.out]
      have hH := HSd.out
      refine wpAnyH_take (i := 0) (oi := { dst := some 36, op := Op.load 57 (Operand.tmp 4), type := 57, pos := "law.go:89", after := #[], guard := none }) (v := ?_) rfl (by kernel_rfl) (by kernel_rfl) (by kernel_rfl) (fun _ _ _ h => h) (Or.inl ⟨by rfl, ?_⟩) (by exact hH) ?_
      rotate_left
      · intro W hSw
        have p0 : W.cell? ⟨w.heap.size, 0, none⟩ = some (.slice A1 n1 c1) := (hSw.cell (p := ⟨w.heap.size, 0, none⟩) HP.out.1).trans HP.out.2.2.1
        have p1 : W.cell? ⟨w.heap.size, 1, none⟩ = some (.slice A2 n2 c2) := (hSw.cell (p := ⟨w.heap.size, 1, none⟩) HP.out.1).trans HP.out.2.2.2.1
        go_simp
        try with_reducible rfl
      try simp only [Act.put, List.setIfInBounds_toArray, List.set_cons_zero, List.set_cons_succ]
      refine wpAnyH_take (i := 2) (oi := { dst := some 38, op := Op.load 57 (Operand.tmp 5), type := 57, pos := "law.go:89", after := #[], guard := none }) (v := ?_) rfl (by kernel_rfl) (by kernel_rfl) (by kernel_rfl) (fun _ _ _ h => h) (Or.inl ⟨by rfl, ?_⟩) (by exact hH) ?_
      rotate_left
      · intro W hSw
        have p0 : W.cell? ⟨w.heap.size + 1, 0, none⟩ = some (.slice B1 m1 d1) := (hSw.cell (p := ⟨w.heap.size + 1, 0, none⟩) HP.out.2.1).trans HP.out.2.2.2.2.1
        have p1 : W.cell? ⟨w.heap.size + 1, 1, none⟩ = some (.slice B2 m2 d2) := (hSw.cell (p := ⟨w.heap.size + 1, 1, none⟩) HP.out.2.1).trans HP.out.2.2.2.2.2
        go_simp
        try with_reducible rfl
      try simp only [Act.put, List.setIfInBounds_toArray, List.set_cons_zero, List.set_cons_succ]
      refine wpAnyH_ready (rs := [1, 4, 5]) (by kernel_rfl) (by simp) ?_
      refine (AllReadyH.cons (o := { dst := some 37, op := Op.call { callee := Callee.value (Operand.func 32), args := #[Operand.tmp 36], argTypes := #[57] }, type := 54, pos := "law.go:89", after := #[{ on := 0, ground := Ground.data }], guard := none }) rfl (fun K hK => ?_) (AllReadyH.cons (o := { dst := some 9, op := Op.alloc 54, type := 0, pos := "law.go:89", after := #[], guard := none }) rfl (fun K hK => ?_) (AllReadyH.cons (o := { dst := some 10, op := Op.alloc 54, type := 0, pos := "law.go:89", after := #[], guard := none }) rfl (fun K hK => ?_) AllReadyH.nil)))
      ·
        go_simp
        go_at_call 32
        refine (to_tab A1 A2 n1 c1 n2 c2 _).mono ?_
        rintro e V1 ⟨rfl, hbk⟩
        have HS1 := Lib.hid (HSd.out.trans (hbk.mono HSd.out.size))
        clear hbk
        try go_wp2_with fail
        refine hK.out _ _ HS1.out (fun hH => ?_)
        clear hK K
        try simp only [Act.put, List.setIfInBounds_toArray, List.set_cons_zero, List.set_cons_succ]
        refine wpAnyH_ready (rs := [3, 4, 5]) (by kernel_rfl) (by simp) ?_
        refine (AllReadyH.cons (o := { dst := some 39, op := Op.call { callee := Callee.value (Operand.func 32), args := #[Operand.tmp 38], argTypes := #[57] }, type := 54, pos := "law.go:89", after := #[{ on := 2, ground := Ground.data }, { on := 1, ground := Ground.chain }], guard := none }) rfl (fun K hK => ?_) (AllReadyH.cons (o := { dst := some 9, op := Op.alloc 54, type := 0, pos := "law.go:89", after := #[], guard := none }) rfl (fun K hK => ?_) (AllReadyH.cons (o := { dst := some 10, op := Op.alloc 54, type := 0, pos := "law.go:89", after := #[], guard := none }) rfl (fun K hK => ?_) AllReadyH.nil)))
        ·
          go_simp
          go_at_call 32
          refine (to_tab B1 B2 m1 d1 m2 d2 _).mono ?_
          rintro e V2 ⟨rfl, hbk⟩
          have HS2 := Lib.hid (HS1.out.trans (hbk.mono HS1.out.size))
          clear hbk
          try go_wp2_with fail
          refine hK.out _ _ HS2.out (fun hH => ?_)
          clear hK K
          try simp only [Act.put, List.setIfInBounds_toArray, List.set_cons_zero, List.set_cons_succ]
          refine wpAnyH_ready (rs := [4, 5]) (by kernel_rfl) (by simp) ?_
          refine (AllReadyH.cons (o := { dst := some 9, op := Op.alloc 54, type := 0, pos := "law.go:89", after := #[], guard := none }) rfl (fun K hK => ?_) (AllReadyH.cons (o := { dst := some 10, op := Op.alloc 54, type := 0, pos := "law.go:89", after := #[], guard := none }) rfl (fun K hK => ?_) AllReadyH.nil))
          ·
            go_simp
            have HS3 := Lib.hid (HS2.out.alloc HS2.out.size (.cells #[.slice none 0 0, .slice none 0 0] 54))
            have hp3 := cells_new V2 #[.slice none 0 0, .slice none 0 0] 54
            have lp := HS2.out.size
            refine hK.out _ _ HS3.out (fun hH => ?_)
            clear hK K
            try simp only [Act.put, List.setIfInBounds_toArray, List.set_cons_zero, List.set_cons_succ]
            obtain ⟨bp, hbp⟩ : ∃ b, V2.heap.size = b := ⟨_, rfl⟩
            obtain ⟨V3, hV3⟩ : ∃ W, V2.alloc (.cells #[.slice none 0 0, .slice none 0 0] 54) = W := ⟨_, rfl⟩
            rw [hV3] at HS3 hp3 hH ⊢
            rw [hbp] at hp3 lp ⊢
            clear hV3 hbp
            refine wpAnyH_ready (rs := [5]) (by kernel_rfl) (by simp) ?_
            refine (AllReadyH.cons (o := { dst := some 10, op := Op.alloc 54, type := 0, pos := "law.go:89", after := #[], guard := none }) rfl (fun K hK => ?_) AllReadyH.nil)
            go_simp
            have HS4 := Lib.hid (HS3.out.alloc HS3.out.size (.cells #[.slice none 0 0, .slice none 0 0] 54))
            have hq4 := cells_new V3 #[.slice none 0 0, .slice none 0 0] 54
            have lq := HS3.out.size
            have neq := hp3.lt
            have hp4 := hp3.on (below_new _ (.cells #[.slice none 0 0, .slice none 0 0] 54))
            refine hK.out _ _ HS4.out (fun hH => ?_)
            clear hK K
            try simp only [Act.put, List.setIfInBounds_toArray, List.set_cons_zero, List.set_cons_succ]
            obtain ⟨bq, hbq⟩ : ∃ b, V3.heap.size = b := ⟨_, rfl⟩
            obtain ⟨V4, hV4⟩ : ∃ W, V3.alloc (.cells #[.slice none 0 0, .slice none 0 0] 54) = W := ⟨_, rfl⟩
            rw [hV4] at HS4 hq4 hp4 hH ⊢
            rw [hbq] at hq4 lq neq ⊢
            clear hV4 hbq
            refine wpAnyH_ready (rs := [6]) (by kernel_rfl) (by simp) ?_
            refine (AllReadyH.cons (o := { dst := none, op := Op.store 54 (Operand.tmp 9) (Operand.tmp 37), type := 0, pos := "law.go:89", after := #[{ on := 4, ground := Ground.data }, { on := 1, ground := Ground.data }, { on := 3, ground := Ground.chain }, { on := 0, ground := Ground.phase }, { on := 1, ground := Ground.phase }, { on := 2, ground := Ground.textOnly Departure.lateStores }, { on := 3, ground := Ground.textOnly Departure.lateStoresUnsure }, { on := 4, ground := Ground.phase }, { on := 5, ground := Ground.phase }], guard := none }) rfl (fun K hK => ?_) AllReadyH.nil)
            have q0 := hp4.cell 0
            have q1 := hp4.cell 1
            simp at q0 q1
            have g0 := hp4.froz 0
            have g1 := hp4.froz 1
            have z0 := hp4.lt
            have HS5 := Lib.hid (below_set2 HS4.out lp (.slice A1 n1 c1) (.slice A2 n2 c2))
            have hp5 : Cells ((V4.setCell ⟨bp, 0, none⟩ (.slice A1 n1 c1)).setCell ⟨bp, 1, none⟩ (.slice A2 n2 c2)) bp 54 #[.slice A1 n1 c1, .slice A2 n2 c2] := nil_set3 hp4 _ _
            have hq5 := ((fz2 V4 bp (.slice A1 n1 c1) (.slice A2 n2 c2)).block bq hq4.lt (by omega)).trans hq4
            go_simp
            refine hK.out _ _ HS5.out (fun hH => ?_)
            clear hK K q0 q1 g0 g1 z0
            try simp only [Act.put, List.setIfInBounds_toArray, List.set_cons_zero, List.set_cons_succ]
            obtain ⟨V5, hV5⟩ : ∃ W, ((V4.setCell ⟨bp, 0, none⟩ (.slice A1 n1 c1)).setCell ⟨bp, 1, none⟩ (.slice A2 n2 c2)) = W := ⟨_, rfl⟩
            rw [hV5] at HS5 hp5 hq5 hH ⊢
            clear hV5
            have hq5 : Cells V5 bq 54 _ := hq5
            refine wpAnyH_ready (rs := [7]) (by kernel_rfl) (by simp) ?_
            refine (AllReadyH.cons (o := { dst := none, op := Op.store 54 (Operand.tmp 10) (Operand.tmp 39), type := 0, pos := "law.go:89", after := #[{ on := 5, ground := Ground.data }, { on := 3, ground := Ground.data }, { on := 6, ground := Ground.chain }, { on := 0, ground := Ground.phase }, { on := 1, ground := Ground.phase }, { on := 2, ground := Ground.phase }, { on := 3, ground := Ground.phase }, { on := 4, ground := Ground.phase }, { on := 5, ground := Ground.phase }, { on := 6, ground := Ground.phase }], guard := none }) rfl (fun K hK => ?_) AllReadyH.nil)
            have q0 := hq5.cell 0
            have q1 := hq5.cell 1
            simp at q0 q1
            have g0 := hq5.froz 0
            have g1 := hq5.froz 1
            have z0 := hq5.lt
            have HS6 := Lib.hid (below_set2 HS5.out lq (.slice B1 m1 d1) (.slice B2 m2 d2))
            have hq6 : Cells ((V5.setCell ⟨bq, 0, none⟩ (.slice B1 m1 d1)).setCell ⟨bq, 1, none⟩ (.slice B2 m2 d2)) bq 54 #[.slice B1 m1 d1, .slice B2 m2 d2] := nil_set3 hq5 _ _
            have hp6 := ((fz2 V5 bq (.slice B1 m1 d1) (.slice B2 m2 d2)).block bp hp5.lt (by omega)).trans hp5
            go_simp
            refine hK.out _ _ HS6.out (fun hH => ?_)
            clear hK K q0 q1 g0 g1 z0
            try simp only [Act.put, List.setIfInBounds_toArray, List.set_cons_zero, List.set_cons_succ]
            obtain ⟨V6, hV6⟩ : ∃ W, ((V5.setCell ⟨bq, 0, none⟩ (.slice B1 m1 d1)).setCell ⟨bq, 1, none⟩ (.slice B2 m2 d2)) = W := ⟨_, rfl⟩
            rw [hV6] at HS6 hq6 hp6 hH ⊢
            clear hV6
            have hp6 : Cells V6 bp 54 _ := hp6
            refine wpAnyH_done (by kernel_rfl) ?_ _
            refine NoPanic.normal ?_
            go_wp2_with fail
            go_meet
            exact ⟨_, _, rfl, rfl, hp6, hq6, HS6.out⟩
          ·
            go_simp
            have HS7 := Lib.hid (HS2.out.alloc HS2.out.size (.cells #[.slice none 0 0, .slice none 0 0] 54))
            have hq7 := cells_new V2 #[.slice none 0 0, .slice none 0 0] 54
            have lq := HS2.out.size
            refine hK.out _ _ HS7.out (fun hH => ?_)
            clear hK K
            try simp only [Act.put, List.setIfInBounds_toArray, List.set_cons_zero, List.set_cons_succ]
            obtain ⟨bq, hbq⟩ : ∃ b, V2.heap.size = b := ⟨_, rfl⟩
            obtain ⟨V7, hV7⟩ : ∃ W, V2.alloc (.cells #[.slice none 0 0, .slice none 0 0] 54) = W := ⟨_, rfl⟩
            rw [hV7] at HS7 hq7 hH ⊢
            rw [hbq] at hq7 lq ⊢
            clear hV7 hbq
            refine wpAnyH_ready (rs := [4]) (by kernel_rfl) (by simp) ?_
            refine (AllReadyH.cons (o := { dst := some 9, op := Op.alloc 54, type := 0, pos := "law.go:89", after := #[], guard := none }) rfl (fun K hK => ?_) AllReadyH.nil)
            go_simp
            have HS8 := Lib.hid (HS7.out.alloc HS7.out.size (.cells #[.slice none 0 0, .slice none 0 0] 54))
            have hp8 := cells_new V7 #[.slice none 0 0, .slice none 0 0] 54
            have lp := HS7.out.size
            have neq := hq7.lt
            have hq8 := hq7.on (below_new _ (.cells #[.slice none 0 0, .slice none 0 0] 54))
            refine hK.out _ _ HS8.out (fun hH => ?_)
            clear hK K
            try simp only [Act.put, List.setIfInBounds_toArray, List.set_cons_zero, List.set_cons_succ]
            obtain ⟨bp, hbp⟩ : ∃ b, V7.heap.size = b := ⟨_, rfl⟩
            obtain ⟨V8, hV8⟩ : ∃ W, V7.alloc (.cells #[.slice none 0 0, .slice none 0 0] 54) = W := ⟨_, rfl⟩
            rw [hV8] at HS8 hp8 hq8 hH ⊢
            rw [hbp] at hp8 lp neq ⊢
            clear hV8 hbp
            refine wpAnyH_ready (rs := [6]) (by kernel_rfl) (by simp) ?_
            refine (AllReadyH.cons (o := { dst := none, op := Op.store 54 (Operand.tmp 9) (Operand.tmp 37), type := 0, pos := "law.go:89", after := #[{ on := 4, ground := Ground.data }, { on := 1, ground := Ground.data }, { on := 3, ground := Ground.chain }, { on := 0, ground := Ground.phase }, { on := 1, ground := Ground.phase }, { on := 2, ground := Ground.textOnly Departure.lateStores }, { on := 3, ground := Ground.textOnly Departure.lateStoresUnsure }, { on := 4, ground := Ground.phase }, { on := 5, ground := Ground.phase }], guard := none }) rfl (fun K hK => ?_) AllReadyH.nil)
            have q0 := hp8.cell 0
            have q1 := hp8.cell 1
            simp at q0 q1
            have g0 := hp8.froz 0
            have g1 := hp8.froz 1
            have z0 := hp8.lt
            have HS9 := Lib.hid (below_set2 HS8.out lp (.slice A1 n1 c1) (.slice A2 n2 c2))
            have hp9 : Cells ((V8.setCell ⟨bp, 0, none⟩ (.slice A1 n1 c1)).setCell ⟨bp, 1, none⟩ (.slice A2 n2 c2)) bp 54 #[.slice A1 n1 c1, .slice A2 n2 c2] := nil_set3 hp8 _ _
            have hq9 := ((fz2 V8 bp (.slice A1 n1 c1) (.slice A2 n2 c2)).block bq hq8.lt (by omega)).trans hq8
            go_simp
            refine hK.out _ _ HS9.out (fun hH => ?_)
            clear hK K q0 q1 g0 g1 z0
            try simp only [Act.put, List.setIfInBounds_toArray, List.set_cons_zero, List.set_cons_succ]
            obtain ⟨V9, hV9⟩ : ∃ W, ((V8.setCell ⟨bp, 0, none⟩ (.slice A1 n1 c1)).setCell ⟨bp, 1, none⟩ (.slice A2 n2 c2)) = W := ⟨_, rfl⟩
            rw [hV9] at HS9 hp9 hq9 hH ⊢
            clear hV9
            have hq9 : Cells V9 bq 54 _ := hq9
            refine wpAnyH_ready (rs := [7]) (by kernel_rfl) (by simp) ?_
            refine (AllReadyH.cons (o := { dst := none, op := Op.store 54 (Operand.tmp 10) (Operand.tmp 39), type := 0, pos := "law.go:89", after := #[{ on := 5, ground := Ground.data }, { on := 3, ground := Ground.data }, { on := 6, ground := Ground.chain }, { on := 0, ground := Ground.phase }, { on := 1, ground := Ground.phase }, { on := 2, ground := Ground.phase }, { on := 3, ground := Ground.phase }, { on := 4, ground := Ground.phase }, { on := 5, ground := Ground.phase }, { on := 6, ground := Ground.phase }], guard := none }) rfl (fun K hK => ?_) AllReadyH.nil)
            have q0 := hq9.cell 0
            have q1 := hq9.cell 1
            simp at q0 q1
            have g0 := hq9.froz 0
            have g1 := hq9.froz 1
            have z0 := hq9.lt
            have HS10 := Lib.hid (below_set2 HS9.out lq (.slice B1 m1 d1) (.slice B2 m2 d2))
            have hq10 : Cells ((V9.setCell ⟨bq, 0, none⟩ (.slice B1 m1 d1)).setCell ⟨bq, 1, none⟩ (.slice B2 m2 d2)) bq 54 #[.slice B1 m1 d1, .slice B2 m2 d2] := nil_set3 hq9 _ _
            have hp10 := ((fz2 V9 bq (.slice B1 m1 d1) (.slice B2 m2 d2)).block bp hp9.lt (by omega)).trans hp9
            go_simp
            refine hK.out _ _ HS10.out (fun hH => ?_)
            clear hK K q0 q1 g0 g1 z0
            try simp only [Act.put, List.setIfInBounds_toArray, List.set_cons_zero, List.set_cons_succ]
            obtain ⟨V10, hV10⟩ : ∃ W, ((V9.setCell ⟨bq, 0, none⟩ (.slice B1 m1 d1)).setCell ⟨bq, 1, none⟩ (.slice B2 m2 d2)) = W := ⟨_, rfl⟩
            rw [hV10] at HS10 hq10 hp10 hH ⊢
            clear hV10
            have hp10 : Cells V10 bp 54 _ := hp10
            refine wpAnyH_done (by kernel_rfl) ?_ _
            refine NoPanic.normal ?_
            go_wp2_with fail
            go_meet
            exact ⟨_, _, rfl, rfl, hp10, hq10, HS10.out⟩
        ·
          go_simp
          have HS11 := Lib.hid (HS1.out.alloc HS1.out.size (.cells #[.slice none 0 0, .slice none 0 0] 54))
          have hp11 := cells_new V1 #[.slice none 0 0, .slice none 0 0] 54
          have lp := HS1.out.size
          refine hK.out _ _ HS11.out (fun hH => ?_)
          clear hK K
          try simp only [Act.put, List.setIfInBounds_toArray, List.set_cons_zero, List.set_cons_succ]
          obtain ⟨bp, hbp⟩ : ∃ b, V1.heap.size = b := ⟨_, rfl⟩
          obtain ⟨V11, hV11⟩ : ∃ W, V1.alloc (.cells #[.slice none 0 0, .slice none 0 0] 54) = W := ⟨_, rfl⟩
          rw [hV11] at HS11 hp11 hH ⊢
          rw [hbp] at hp11 lp ⊢
          clear hV11 hbp
          refine wpAnyH_ready (rs := [3, 5]) (by kernel_rfl) (by simp) ?_
          refine (AllReadyH.cons (o := { dst := some 39, op := Op.call { callee := Callee.value (Operand.func 32), args := #[Operand.tmp 38], argTypes := #[57] }, type := 54, pos := "law.go:89", after := #[{ on := 2, ground := Ground.data }, { on := 1, ground := Ground.chain }], guard := none }) rfl (fun K hK => ?_) (AllReadyH.cons (o := { dst := some 10, op := Op.alloc 54, type := 0, pos := "law.go:89", after := #[], guard := none }) rfl (fun K hK => ?_) AllReadyH.nil))
          ·
            go_simp
            go_at_call 32
            refine (to_tab B1 B2 m1 d1 m2 d2 _).mono ?_
            rintro e V12 ⟨rfl, hbk⟩
            have HS12 := Lib.hid (HS11.out.trans (hbk.mono HS11.out.size))
            have hp12 := hp11.on hbk
            clear hbk
            try go_wp2_with fail
            refine hK.out _ _ HS12.out (fun hH => ?_)
            clear hK K
            try simp only [Act.put, List.setIfInBounds_toArray, List.set_cons_zero, List.set_cons_succ]
            refine wpAnyH_ready (rs := [5]) (by kernel_rfl) (by simp) ?_
            refine (AllReadyH.cons (o := { dst := some 10, op := Op.alloc 54, type := 0, pos := "law.go:89", after := #[], guard := none }) rfl (fun K hK => ?_) AllReadyH.nil)
            go_simp
            have HS13 := Lib.hid (HS12.out.alloc HS12.out.size (.cells #[.slice none 0 0, .slice none 0 0] 54))
            have hq13 := cells_new V12 #[.slice none 0 0, .slice none 0 0] 54
            have lq := HS12.out.size
            have neq := hp12.lt
            have hp13 := hp12.on (below_new _ (.cells #[.slice none 0 0, .slice none 0 0] 54))
            refine hK.out _ _ HS13.out (fun hH => ?_)
            clear hK K
            try simp only [Act.put, List.setIfInBounds_toArray, List.set_cons_zero, List.set_cons_succ]
            obtain ⟨bq, hbq⟩ : ∃ b, V12.heap.size = b := ⟨_, rfl⟩
            obtain ⟨V13, hV13⟩ : ∃ W, V12.alloc (.cells #[.slice none 0 0, .slice none 0 0] 54) = W := ⟨_, rfl⟩
            rw [hV13] at HS13 hq13 hp13 hH ⊢
            rw [hbq] at hq13 lq neq ⊢
            clear hV13 hbq
            refine wpAnyH_ready (rs := [6]) (by kernel_rfl) (by simp) ?_
            refine (AllReadyH.cons (o := { dst := none, op := Op.store 54 (Operand.tmp 9) (Operand.tmp 37), type := 0, pos := "law.go:89", after := #[{ on := 4, ground := Ground.data }, { on := 1, ground := Ground.data }, { on := 3, ground := Ground.chain }, { on := 0, ground := Ground.phase }, { on := 1, ground := Ground.phase }, { on := 2, ground := Ground.textOnly Departure.lateStores }, { on := 3, ground := Ground.textOnly Departure.lateStoresUnsure }, { on := 4, ground := Ground.phase }, { on := 5, ground := Ground.phase }], guard := none }) rfl (fun K hK => ?_) AllReadyH.nil)
            have q0 := hp13.cell 0
            have q1 := hp13.cell 1
            simp at q0 q1
            have g0 := hp13.froz 0
            have g1 := hp13.froz 1
            have z0 := hp13.lt
            have HS14 := Lib.hid (below_set2 HS13.out lp (.slice A1 n1 c1) (.slice A2 n2 c2))
            have hp14 : Cells ((V13.setCell ⟨bp, 0, none⟩ (.slice A1 n1 c1)).setCell ⟨bp, 1, none⟩ (.slice A2 n2 c2)) bp 54 #[.slice A1 n1 c1, .slice A2 n2 c2] := nil_set3 hp13 _ _
            have hq14 := ((fz2 V13 bp (.slice A1 n1 c1) (.slice A2 n2 c2)).block bq hq13.lt (by omega)).trans hq13
            go_simp
            refine hK.out _ _ HS14.out (fun hH => ?_)
            clear hK K q0 q1 g0 g1 z0
            try simp only [Act.put, List.setIfInBounds_toArray, List.set_cons_zero, List.set_cons_succ]
            obtain ⟨V14, hV14⟩ : ∃ W, ((V13.setCell ⟨bp, 0, none⟩ (.slice A1 n1 c1)).setCell ⟨bp, 1, none⟩ (.slice A2 n2 c2)) = W := ⟨_, rfl⟩
            rw [hV14] at HS14 hp14 hq14 hH ⊢
            clear hV14
            have hq14 : Cells V14 bq 54 _ := hq14
            refine wpAnyH_ready (rs := [7]) (by kernel_rfl) (by simp) ?_
            refine (AllReadyH.cons (o := { dst := none, op := Op.store 54 (Operand.tmp 10) (Operand.tmp 39), type := 0, pos := "law.go:89", after := #[{ on := 5, ground := Ground.data }, { on := 3, ground := Ground.data }, { on := 6, ground := Ground.chain }, { on := 0, ground := Ground.phase }, { on := 1, ground := Ground.phase }, { on := 2, ground := Ground.phase }, { on := 3, ground := Ground.phase }, { on := 4, ground := Ground.phase }, { on := 5, ground := Ground.phase }, { on := 6, ground := Ground.phase }], guard := none }) rfl (fun K hK => ?_) AllReadyH.nil)
            have q0 := hq14.cell 0
            have q1 := hq14.cell 1
            simp at q0 q1
            have g0 := hq14.froz 0
            have g1 := hq14.froz 1
            have z0 := hq14.lt
            have HS15 := Lib.hid (below_set2 HS14.out lq (.slice B1 m1 d1) (.slice B2 m2 d2))
            have hq15 : Cells ((V14.setCell ⟨bq, 0, none⟩ (.slice B1 m1 d1)).setCell ⟨bq, 1, none⟩ (.slice B2 m2 d2)) bq 54 #[.slice B1 m1 d1, .slice B2 m2 d2] := nil_set3 hq14 _ _
            have hp15 := ((fz2 V14 bq (.slice B1 m1 d1) (.slice B2 m2 d2)).block bp hp14.lt (by omega)).trans hp14
            go_simp
            refine hK.out _ _ HS15.out (fun hH => ?_)
            clear hK K q0 q1 g0 g1 z0
            try simp only [Act.put, List.setIfInBounds_toArray, List.set_cons_zero, List.set_cons_succ]
            obtain ⟨V15, hV15⟩ : ∃ W, ((V14.setCell ⟨bq, 0, none⟩ (.slice B1 m1 d1)).setCell ⟨bq, 1, none⟩ (.slice B2 m2 d2)) = W := ⟨_, rfl⟩
            rw [hV15] at HS15 hq15 hp15 hH ⊢
            clear hV15
            have hp15 : Cells V15 bp 54 _ := hp15
            refine wpAnyH_done (by kernel_rfl) ?_ _
            refine NoPanic.normal ?_
            go_wp2_with fail
            go_meet
            exact ⟨_, _, rfl, rfl, hp15, hq15, HS15.out⟩
          ·
            go_simp
            have HS16 := Lib.hid (HS11.out.alloc HS11.out.size (.cells #[.slice none 0 0, .slice none 0 0] 54))
            have hq16 := cells_new V11 #[.slice none 0 0, .slice none 0 0] 54
            have lq := HS11.out.size
            have neq := hp11.lt
            have hp16 := hp11.on (below_new _ (.cells #[.slice none 0 0, .slice none 0 0] 54))
            refine hK.out _ _ HS16.out (fun hH => ?_)
            clear hK K
            try simp only [Act.put, List.setIfInBounds_toArray, List.set_cons_zero, List.set_cons_succ]
            obtain ⟨bq, hbq⟩ : ∃ b, V11.heap.size = b := ⟨_, rfl⟩
            obtain ⟨V16, hV16⟩ : ∃ W, V11.alloc (.cells #[.slice none 0 0, .slice none 0 0] 54) = W := ⟨_, rfl⟩
            rw [hV16] at HS16 hq16 hp16 hH ⊢
            rw [hbq] at hq16 lq neq ⊢
            clear hV16 hbq
            refine wpAnyH_ready (rs := [3]) (by kernel_rfl) (by simp) ?_
            refine (AllReadyH.cons (o := { dst := some 39, op := Op.call { callee := Callee.value (Operand.func 32), args := #[Operand.tmp 38], argTypes := #[57] }, type := 54, pos := "law.go:89", after := #[{ on := 2, ground := Ground.data }, { on := 1, ground := Ground.chain }], guard := none }) rfl (fun K hK => ?_) AllReadyH.nil)
            go_simp
            go_at_call 32
            refine (to_tab B1 B2 m1 d1 m2 d2 _).mono ?_
            rintro e V17 ⟨rfl, hbk⟩
            have HS17 := Lib.hid (HS16.out.trans (hbk.mono HS16.out.size))
            have hp17 := hp16.on hbk
            have hq17 := hq16.on hbk
            clear hbk
            try go_wp2_with fail
            refine hK.out _ _ HS17.out (fun hH => ?_)
            clear hK K
            try simp only [Act.put, List.setIfInBounds_toArray, List.set_cons_zero, List.set_cons_succ]
            refine wpAnyH_ready (rs := [6]) (by kernel_rfl) (by simp) ?_
            refine (AllReadyH.cons (o := { dst := none, op := Op.store 54 (Operand.tmp 9) (Operand.tmp 37), type := 0, pos := "law.go:89", after := #[{ on := 4, ground := Ground.data }, { on := 1, ground := Ground.data }, { on := 3, ground := Ground.chain }, { on := 0, ground := Ground.phase }, { on := 1, ground := Ground.phase }, { on := 2, ground := Ground.textOnly Departure.lateStores }, { on := 3, ground := Ground.textOnly Departure.lateStoresUnsure }, { on := 4, ground := Ground.phase }, { on := 5, ground := Ground.phase }], guard := none }) rfl (fun K hK => ?_) AllReadyH.nil)
            have q0 := hp17.cell 0
            have q1 := hp17.cell 1
            simp at q0 q1
            have g0 := hp17.froz 0
            have g1 := hp17.froz 1
            have z0 := hp17.lt
            have HS18 := Lib.hid (below_set2 HS17.out lp (.slice A1 n1 c1) (.slice A2 n2 c2))
            have hp18 : Cells ((V17.setCell ⟨bp, 0, none⟩ (.slice A1 n1 c1)).setCell ⟨bp, 1, none⟩ (.slice A2 n2 c2)) bp 54 #[.slice A1 n1 c1, .slice A2 n2 c2] := nil_set3 hp17 _ _
            have hq18 := ((fz2 V17 bp (.slice A1 n1 c1) (.slice A2 n2 c2)).block bq hq17.lt (by omega)).trans hq17
            go_simp
            refine hK.out _ _ HS18.out (fun hH => ?_)
            clear hK K q0 q1 g0 g1 z0
            try simp only [Act.put, List.setIfInBounds_toArray, List.set_cons_zero, List.set_cons_succ]
            obtain ⟨V18, hV18⟩ : ∃ W, ((V17.setCell ⟨bp, 0, none⟩ (.slice A1 n1 c1)).setCell ⟨bp, 1, none⟩ (.slice A2 n2 c2)) = W := ⟨_, rfl⟩
            rw [hV18] at HS18 hp18 hq18 hH ⊢
            clear hV18
            have hq18 : Cells V18 bq 54 _ := hq18
            refine wpAnyH_ready (rs := [7]) (by kernel_rfl) (by simp) ?_
            refine (AllReadyH.cons (o := { dst := none, op := Op.store 54 (Operand.tmp 10) (Operand.tmp 39), type := 0, pos := "law.go:89", after := #[{ on := 5, ground := Ground.data }, { on := 3, ground := Ground.data }, { on := 6, ground := Ground.chain }, { on := 0, ground := Ground.phase }, { on := 1, ground := Ground.phase }, { on := 2, ground := Ground.phase }, { on := 3, ground := Ground.phase }, { on := 4, ground := Ground.phase }, { on := 5, ground := Ground.phase }, { on := 6, ground := Ground.phase }], guard := none }) rfl (fun K hK => ?_) AllReadyH.nil)
            have q0 := hq18.cell 0
            have q1 := hq18.cell 1
            simp at q0 q1
            have g0 := hq18.froz 0
            have g1 := hq18.froz 1
            have z0 := hq18.lt
            have HS19 := Lib.hid (below_set2 HS18.out lq (.slice B1 m1 d1) (.slice B2 m2 d2))
            have hq19 : Cells ((V18.setCell ⟨bq, 0, none⟩ (.slice B1 m1 d1)).setCell ⟨bq, 1, none⟩ (.slice B2 m2 d2)) bq 54 #[.slice B1 m1 d1, .slice B2 m2 d2] := nil_set3 hq18 _ _
            have hp19 := ((fz2 V18 bq (.slice B1 m1 d1) (.slice B2 m2 d2)).block bp hp18.lt (by omega)).trans hp18
            go_simp
            refine hK.out _ _ HS19.out (fun hH => ?_)
            clear hK K q0 q1 g0 g1 z0
            try simp only [Act.put, List.setIfInBounds_toArray, List.set_cons_zero, List.set_cons_succ]
            obtain ⟨V19, hV19⟩ : ∃ W, ((V18.setCell ⟨bq, 0, none⟩ (.slice B1 m1 d1)).setCell ⟨bq, 1, none⟩ (.slice B2 m2 d2)) = W := ⟨_, rfl⟩
            rw [hV19] at HS19 hq19 hp19 hH ⊢
            clear hV19
            have hp19 : Cells V19 bp 54 _ := hp19
            refine wpAnyH_done (by kernel_rfl) ?_ _
            refine NoPanic.normal ?_
            go_wp2_with fail
            go_meet
            exact ⟨_, _, rfl, rfl, hp19, hq19, HS19.out⟩
        ·
          go_simp
          have HS20 := Lib.hid (HS1.out.alloc HS1.out.size (.cells #[.slice none 0 0, .slice none 0 0] 54))
          have hq20 := cells_new V1 #[.slice none 0 0, .slice none 0 0] 54
          have lq := HS1.out.size
          refine hK.out _ _ HS20.out (fun hH => ?_)
          clear hK K
          try simp only [Act.put, List.setIfInBounds_toArray, List.set_cons_zero, List.set_cons_succ]
          obtain ⟨bq, hbq⟩ : ∃ b, V1.heap.size = b := ⟨_, rfl⟩
          obtain ⟨V20, hV20⟩ : ∃ W, V1.alloc (.cells #[.slice none 0 0, .slice none 0 0] 54) = W := ⟨_, rfl⟩
          rw [hV20] at HS20 hq20 hH ⊢
          rw [hbq] at hq20 lq ⊢
          clear hV20 hbq
          refine wpAnyH_ready (rs := [3, 4]) (by kernel_rfl) (by simp) ?_
          refine (AllReadyH.cons (o := { dst := some 39, op := Op.call { callee := Callee.value (Operand.func 32), args := #[Operand.tmp 38], argTypes := #[57] }, type := 54, pos := "law.go:89", after := #[{ on := 2, ground := Ground.data }, { on := 1, ground := Ground.chain }], guard := none }) rfl (fun K hK => ?_) (AllReadyH.cons (o := { dst := some 9, op := Op.alloc 54, type := 0, pos := "law.go:89", after := #[], guard := none }) rfl (fun K hK => ?_) AllReadyH.nil))
          ·
            go_simp
            go_at_call 32
            refine (to_tab B1 B2 m1 d1 m2 d2 _).mono ?_
            rintro e V21 ⟨rfl, hbk⟩
            have HS21 := Lib.hid (HS20.out.trans (hbk.mono HS20.out.size))
            have hq21 := hq20.on hbk
            clear hbk
            try go_wp2_with fail
            refine hK.out _ _ HS21.out (fun hH => ?_)
            clear hK K
            try simp only [Act.put, List.setIfInBounds_toArray, List.set_cons_zero, List.set_cons_succ]
            refine wpAnyH_ready (rs := [4]) (by kernel_rfl) (by simp) ?_
            refine (AllReadyH.cons (o := { dst := some 9, op := Op.alloc 54, type := 0, pos := "law.go:89", after := #[], guard := none }) rfl (fun K hK => ?_) AllReadyH.nil)
            go_simp
            have HS22 := Lib.hid (HS21.out.alloc HS21.out.size (.cells #[.slice none 0 0, .slice none 0 0] 54))
            have hp22 := cells_new V21 #[.slice none 0 0, .slice none 0 0] 54
            have lp := HS21.out.size
            have neq := hq21.lt
            have hq22 := hq21.on (below_new _ (.cells #[.slice none 0 0, .slice none 0 0] 54))
            refine hK.out _ _ HS22.out (fun hH => ?_)
            clear hK K
            try simp only [Act.put, List.setIfInBounds_toArray, List.set_cons_zero, List.set_cons_succ]
            obtain ⟨bp, hbp⟩ : ∃ b, V21.heap.size = b := ⟨_, rfl⟩
            obtain ⟨V22, hV22⟩ : ∃ W, V21.alloc (.cells #[.slice none 0 0, .slice none 0 0] 54) = W := ⟨_, rfl⟩
            rw [hV22] at HS22 hp22 hq22 hH ⊢
            rw [hbp] at hp22 lp neq ⊢
            clear hV22 hbp
            refine wpAnyH_ready (rs := [6]) (by kernel_rfl) (by simp) ?_
            refine (AllReadyH.cons (o := { dst := none, op := Op.store 54 (Operand.tmp 9) (Operand.tmp 37), type := 0, pos := "law.go:89", after := #[{ on := 4, ground := Ground.data }, { on := 1, ground := Ground.data }, { on := 3, ground := Ground.chain }, { on := 0, ground := Ground.phase }, { on := 1, ground := Ground.phase }, { on := 2, ground := Ground.textOnly Departure.lateStores }, { on := 3, ground := Ground.textOnly Departure.lateStoresUnsure }, { on := 4, ground := Ground.phase }, { on := 5, ground := Ground.phase }], guard := none }) rfl (fun K hK => ?_) AllReadyH.nil)
            have q0 := hp22.cell 0
            have q1 := hp22.cell 1
            simp at q0 q1
            have g0 := hp22.froz 0
            have g1 := hp22.froz 1
            have z0 := hp22.lt
            have HS23 := Lib.hid (below_set2 HS22.out lp (.slice A1 n1 c1) (.slice A2 n2 c2))
            have hp23 : Cells ((V22.setCell ⟨bp, 0, none⟩ (.slice A1 n1 c1)).setCell ⟨bp, 1, none⟩ (.slice A2 n2 c2)) bp 54 #[.slice A1 n1 c1, .slice A2 n2 c2] := nil_set3 hp22 _ _
            have hq23 := ((fz2 V22 bp (.slice A1 n1 c1) (.slice A2 n2 c2)).block bq hq22.lt (by omega)).trans hq22
            go_simp
            refine hK.out _ _ HS23.out (fun hH => ?_)
            clear hK K q0 q1 g0 g1 z0
            try simp only [Act.put, List.setIfInBounds_toArray, List.set_cons_zero, List.set_cons_succ]
            obtain ⟨V23, hV23⟩ : ∃ W, ((V22.setCell ⟨bp, 0, none⟩ (.slice A1 n1 c1)).setCell ⟨bp, 1, none⟩ (.slice A2 n2 c2)) = W := ⟨_, rfl⟩
            rw [hV23] at HS23 hp23 hq23 hH ⊢
            clear hV23
            have hq23 : Cells V23 bq 54 _ := hq23
            refine wpAnyH_ready (rs := [7]) (by kernel_rfl) (by simp) ?_
            refine (AllReadyH.cons (o := { dst := none, op := Op.store 54 (Operand.tmp 10) (Operand.tmp 39), type := 0, pos := "law.go:89", after := #[{ on := 5, ground := Ground.data }, { on := 3, ground := Ground.data }, { on := 6, ground := Ground.chain }, { on := 0, ground := Ground.phase }, { on := 1, ground := Ground.phase }, { on := 2, ground := Ground.phase }, { on := 3, ground := Ground.phase }, { on := 4, ground := Ground.phase }, { on := 5, ground := Ground.phase }, { on := 6, ground := Ground.phase }], guard := none }) rfl (fun K hK => ?_) AllReadyH.nil)
            have q0 := hq23.cell 0
            have q1 := hq23.cell 1
            simp at q0 q1
            have g0 := hq23.froz 0
            have g1 := hq23.froz 1
            have z0 := hq23.lt
            have HS24 := Lib.hid (below_set2 HS23.out lq (.slice B1 m1 d1) (.slice B2 m2 d2))
            have hq24 : Cells ((V23.setCell ⟨bq, 0, none⟩ (.slice B1 m1 d1)).setCell ⟨bq, 1, none⟩ (.slice B2 m2 d2)) bq 54 #[.slice B1 m1 d1, .slice B2 m2 d2] := nil_set3 hq23 _ _
            have hp24 := ((fz2 V23 bq (.slice B1 m1 d1) (.slice B2 m2 d2)).block bp hp23.lt (by omega)).trans hp23
            go_simp
            refine hK.out _ _ HS24.out (fun hH => ?_)
            clear hK K q0 q1 g0 g1 z0
            try simp only [Act.put, List.setIfInBounds_toArray, List.set_cons_zero, List.set_cons_succ]
            obtain ⟨V24, hV24⟩ : ∃ W, ((V23.setCell ⟨bq, 0, none⟩ (.slice B1 m1 d1)).setCell ⟨bq, 1, none⟩ (.slice B2 m2 d2)) = W := ⟨_, rfl⟩
            rw [hV24] at HS24 hq24 hp24 hH ⊢
            clear hV24
            have hp24 : Cells V24 bp 54 _ := hp24
            refine wpAnyH_done (by kernel_rfl) ?_ _
            refine NoPanic.normal ?_
            go_wp2_with fail
            go_meet
            exact ⟨_, _, rfl, rfl, hp24, hq24, HS24.out⟩
          ·
            go_simp
            have HS25 := Lib.hid (HS20.out.alloc HS20.out.size (.cells #[.slice none 0 0, .slice none 0 0] 54))
            have hp25 := cells_new V20 #[.slice none 0 0, .slice none 0 0] 54
            have lp := HS20.out.size
            have neq := hq20.lt
            have hq25 := hq20.on (below_new _ (.cells #[.slice none 0 0, .slice none 0 0] 54))
            refine hK.out _ _ HS25.out (fun hH => ?_)
            clear hK K
            try simp only [Act.put, List.setIfInBounds_toArray, List.set_cons_zero, List.set_cons_succ]
            obtain ⟨bp, hbp⟩ : ∃ b, V20.heap.size = b := ⟨_, rfl⟩
            obtain ⟨V25, hV25⟩ : ∃ W, V20.alloc (.cells #[.slice none 0 0, .slice none 0 0] 54) = W := ⟨_, rfl⟩
            rw [hV25] at HS25 hp25 hq25 hH ⊢
            rw [hbp] at hp25 lp neq ⊢
            clear hV25 hbp
            refine wpAnyH_ready (rs := [3]) (by kernel_rfl) (by simp) ?_
            refine (AllReadyH.cons (o := { dst := some 39, op := Op.call { callee := Callee.value (Operand.func 32), args := #[Operand.tmp 38], argTypes := #[57] }, type := 54, pos := "law.go:89", after := #[{ on := 2, ground := Ground.data }, { on := 1, ground := Ground.chain }], guard := none }) rfl (fun K hK => ?_) AllReadyH.nil)
            go_simp
            go_at_call 32
            refine (to_tab B1 B2 m1 d1 m2 d2 _).mono ?_
            rintro e V26 ⟨rfl, hbk⟩
            have HS26 := Lib.hid (HS25.out.trans (hbk.mono HS25.out.size))
            have hp26 := hp25.on hbk
            have hq26 := hq25.on hbk
            clear hbk
            try go_wp2_with fail
            refine hK.out _ _ HS26.out (fun hH => ?_)
            clear hK K
            try simp only [Act.put, List.setIfInBounds_toArray, List.set_cons_zero, List.set_cons_succ]
            refine wpAnyH_ready (rs := [6]) (by kernel_rfl) (by simp) ?_
            refine (AllReadyH.cons (o := { dst := none, op := Op.store 54 (Operand.tmp 9) (Operand.tmp 37), type := 0, pos := "law.go:89", after := #[{ on := 4, ground := Ground.data }, { on := 1, ground := Ground.data }, { on := 3, ground := Ground.chain }, { on := 0, ground := Ground.phase }, { on := 1, ground := Ground.phase }, { on := 2, ground := Ground.textOnly Departure.lateStores }, { on := 3, ground := Ground.textOnly Departure.lateStoresUnsure }, { on := 4, ground := Ground.phase }, { on := 5, ground := Ground.phase }], guard := none }) rfl (fun K hK => ?_) AllReadyH.nil)
            have q0 := hp26.cell 0
            have q1 := hp26.cell 1
            simp at q0 q1
            have g0 := hp26.froz 0
            have g1 := hp26.froz 1
            have z0 := hp26.lt
            have HS27 := Lib.hid (below_set2 HS26.out lp (.slice A1 n1 c1) (.slice A2 n2 c2))
            have hp27 : Cells ((V26.setCell ⟨bp, 0, none⟩ (.slice A1 n1 c1)).setCell ⟨bp, 1, none⟩ (.slice A2 n2 c2)) bp 54 #[.slice A1 n1 c1, .slice A2 n2 c2] := nil_set3 hp26 _ _
            have hq27 := ((fz2 V26 bp (.slice A1 n1 c1) (.slice A2 n2 c2)).block bq hq26.lt (by omega)).trans hq26
            go_simp
            refine hK.out _ _ HS27.out (fun hH => ?_)
            clear hK K q0 q1 g0 g1 z0
            try simp only [Act.put, List.setIfInBounds_toArray, List.set_cons_zero, List.set_cons_succ]
            obtain ⟨V27, hV27⟩ : ∃ W, ((V26.setCell ⟨bp, 0, none⟩ (.slice A1 n1 c1)).setCell ⟨bp, 1, none⟩ (.slice A2 n2 c2)) = W := ⟨_, rfl⟩
            rw [hV27] at HS27 hp27 hq27 hH ⊢
            clear hV27
            have hq27 : Cells V27 bq 54 _ := hq27
            refine wpAnyH_ready (rs := [7]) (by kernel_rfl) (by simp) ?_
            refine (AllReadyH.cons (o := { dst := none, op := Op.store 54 (Operand.tmp 10) (Operand.tmp 39), type := 0, pos := "law.go:89", after := #[{ on := 5, ground := Ground.data }, { on := 3, ground := Ground.data }, { on := 6, ground := Ground.chain }, { on := 0, ground := Ground.phase }, { on := 1, ground := Ground.phase }, { on := 2, ground := Ground.phase }, { on := 3, ground := Ground.phase }, { on := 4, ground := Ground.phase }, { on := 5, ground := Ground.phase }, { on := 6, ground := Ground.phase }], guard := none }) rfl (fun K hK => ?_) AllReadyH.nil)
            have q0 := hq27.cell 0
            have q1 := hq27.cell 1
            simp at q0 q1
            have g0 := hq27.froz 0
            have g1 := hq27.froz 1
            have z0 := hq27.lt
            have HS28 := Lib.hid (below_set2 HS27.out lq (.slice B1 m1 d1) (.slice B2 m2 d2))
            have hq28 : Cells ((V27.setCell ⟨bq, 0, none⟩ (.slice B1 m1 d1)).setCell ⟨bq, 1, none⟩ (.slice B2 m2 d2)) bq 54 #[.slice B1 m1 d1, .slice B2 m2 d2] := nil_set3 hq27 _ _
            have hp28 := ((fz2 V27 bq (.slice B1 m1 d1) (.slice B2 m2 d2)).block bp hp27.lt (by omega)).trans hp27
            go_simp
            refine hK.out _ _ HS28.out (fun hH => ?_)
            clear hK K q0 q1 g0 g1 z0
            try simp only [Act.put, List.setIfInBounds_toArray, List.set_cons_zero, List.set_cons_succ]
            obtain ⟨V28, hV28⟩ : ∃ W, ((V27.setCell ⟨bq, 0, none⟩ (.slice B1 m1 d1)).setCell ⟨bq, 1, none⟩ (.slice B2 m2 d2)) = W := ⟨_, rfl⟩
            rw [hV28] at HS28 hq28 hp28 hH ⊢
            clear hV28
            have hp28 : Cells V28 bp 54 _ := hp28
            refine wpAnyH_done (by kernel_rfl) ?_ _
            refine NoPanic.normal ?_
            go_wp2_with fail
            go_meet
            exact ⟨_, _, rfl, rfl, hp28, hq28, HS28.out⟩
      ·
        go_simp
        have HS29 := Lib.hid (HSd.out.alloc HSd.out.size (.cells #[.slice none 0 0, .slice none 0 0] 54))
        have hp29 := cells_new wd #[.slice none 0 0, .slice none 0 0] 54
        have lp := HSd.out.size
        refine hK.out _ _ HS29.out (fun hH => ?_)
        clear hK K
        try simp only [Act.put, List.setIfInBounds_toArray, List.set_cons_zero, List.set_cons_succ]
        obtain ⟨bp, hbp⟩ : ∃ b, wd.heap.size = b := ⟨_, rfl⟩
        obtain ⟨V29, hV29⟩ : ∃ W, wd.alloc (.cells #[.slice none 0 0, .slice none 0 0] 54) = W := ⟨_, rfl⟩
        rw [hV29] at HS29 hp29 hH ⊢
        rw [hbp] at hp29 lp ⊢
        clear hV29 hbp
        refine wpAnyH_ready (rs := [1, 5]) (by kernel_rfl) (by simp) ?_
        refine (AllReadyH.cons (o := { dst := some 37, op := Op.call { callee := Callee.value (Operand.func 32), args := #[Operand.tmp 36], argTypes := #[57] }, type := 54, pos := "law.go:89", after := #[{ on := 0, ground := Ground.data }], guard := none }) rfl (fun K hK => ?_) (AllReadyH.cons (o := { dst := some 10, op := Op.alloc 54, type := 0, pos := "law.go:89", after := #[], guard := none }) rfl (fun K hK => ?_) AllReadyH.nil))
        ·
          go_simp
          go_at_call 32
          refine (to_tab A1 A2 n1 c1 n2 c2 _).mono ?_
          rintro e V30 ⟨rfl, hbk⟩
          have HS30 := Lib.hid (HS29.out.trans (hbk.mono HS29.out.size))
          have hp30 := hp29.on hbk
          clear hbk
          try go_wp2_with fail
          refine hK.out _ _ HS30.out (fun hH => ?_)
          clear hK K
          try simp only [Act.put, List.setIfInBounds_toArray, List.set_cons_zero, List.set_cons_succ]
          refine wpAnyH_ready (rs := [3, 5]) (by kernel_rfl) (by simp) ?_
          refine (AllReadyH.cons (o := { dst := some 39, op := Op.call { callee := Callee.value (Operand.func 32), args := #[Operand.tmp 38], argTypes := #[57] }, type := 54, pos := "law.go:89", after := #[{ on := 2, ground := Ground.data }, { on := 1, ground := Ground.chain }], guard := none }) rfl (fun K hK => ?_) (AllReadyH.cons (o := { dst := some 10, op := Op.alloc 54, type := 0, pos := "law.go:89", after := #[], guard := none }) rfl (fun K hK => ?_) AllReadyH.nil))
          ·
            go_simp
            go_at_call 32
            refine (to_tab B1 B2 m1 d1 m2 d2 _).mono ?_
            rintro e V31 ⟨rfl, hbk⟩
            have HS31 := Lib.hid (HS30.out.trans (hbk.mono HS30.out.size))
            have hp31 := hp30.on hbk
            clear hbk
            try go_wp2_with fail
            refine hK.out _ _ HS31.out (fun hH => ?_)
            clear hK K
            try simp only [Act.put, List.setIfInBounds_toArray, List.set_cons_zero, List.set_cons_succ]
            refine wpAnyH_ready (rs := [5]) (by kernel_rfl) (by simp) ?_
            refine (AllReadyH.cons (o := { dst := some 10, op := Op.alloc 54, type := 0, pos := "law.go:89", after := #[], guard := none }) rfl (fun K hK => ?_) AllReadyH.nil)
            go_simp
            have HS32 := Lib.hid (HS31.out.alloc HS31.out.size (.cells #[.slice none 0 0, .slice none 0 0] 54))
            have hq32 := cells_new V31 #[.slice none 0 0, .slice none 0 0] 54
            have lq := HS31.out.size
            have neq := hp31.lt
            have hp32 := hp31.on (below_new _ (.cells #[.slice none 0 0, .slice none 0 0] 54))
            refine hK.out _ _ HS32.out (fun hH => ?_)
            clear hK K
            try simp only [Act.put, List.setIfInBounds_toArray, List.set_cons_zero, List.set_cons_succ]
            obtain ⟨bq, hbq⟩ : ∃ b, V31.heap.size = b := ⟨_, rfl⟩
            obtain ⟨V32, hV32⟩ : ∃ W, V31.alloc (.cells #[.slice none 0 0, .slice none 0 0] 54) = W := ⟨_, rfl⟩
            rw [hV32] at HS32 hq32 hp32 hH ⊢
            rw [hbq] at hq32 lq neq ⊢
            clear hV32 hbq
            refine wpAnyH_ready (rs := [6]) (by kernel_rfl) (by simp) ?_
            refine (AllReadyH.cons (o := { dst := none, op := Op.store 54 (Operand.tmp 9) (Operand.tmp 37), type := 0, pos := "law.go:89", after := #[{ on := 4, ground := Ground.data }, { on := 1, ground := Ground.data }, { on := 3, ground := Ground.chain }, { on := 0, ground := Ground.phase }, { on := 1, ground := Ground.phase }, { on := 2, ground := Ground.textOnly Departure.lateStores }, { on := 3, ground := Ground.textOnly Departure.lateStoresUnsure }, { on := 4, ground := Ground.phase }, { on := 5, ground := Ground.phase }], guard := none }) rfl (fun K hK => ?_) AllReadyH.nil)
            have q0 := hp32.cell 0
            have q1 := hp32.cell 1
            simp at q0 q1
            have g0 := hp32.froz 0
            have g1 := hp32.froz 1
            have z0 := hp32.lt
            have HS33 := Lib.hid (below_set2 HS32.out lp (.slice A1 n1 c1) (.slice A2 n2 c2))
            have hp33 : Cells ((V32.setCell ⟨bp, 0, none⟩ (.slice A1 n1 c1)).setCell ⟨bp, 1, none⟩ (.slice A2 n2 c2)) bp 54 #[.slice A1 n1 c1, .slice A2 n2 c2] := nil_set3 hp32 _ _
            have hq33 := ((fz2 V32 bp (.slice A1 n1 c1) (.slice A2 n2 c2)).block bq hq32.lt (by omega)).trans hq32
            go_simp
            refine hK.out _ _ HS33.out (fun hH => ?_)
            clear hK K q0 q1 g0 g1 z0
            try simp only [Act.put, List.setIfInBounds_toArray, List.set_cons_zero, List.set_cons_succ]
            obtain ⟨V33, hV33⟩ : ∃ W, ((V32.setCell ⟨bp, 0, none⟩ (.slice A1 n1 c1)).setCell ⟨bp, 1, none⟩ (.slice A2 n2 c2)) = W := ⟨_, rfl⟩
            rw [hV33] at HS33 hp33 hq33 hH ⊢
            clear hV33
            have hq33 : Cells V33 bq 54 _ := hq33
            refine wpAnyH_ready (rs := [7]) (by kernel_rfl) (by simp) ?_
            refine (AllReadyH.cons (o := { dst := none, op := Op.store 54 (Operand.tmp 10) (Operand.tmp 39), type := 0, pos := "law.go:89", after := #[{ on := 5, ground := Ground.data }, { on := 3, ground := Ground.data }, { on := 6, ground := Ground.chain }, { on := 0, ground := Ground.phase }, { on := 1, ground := Ground.phase }, { on := 2, ground := Ground.phase }, { on := 3, ground := Ground.phase }, { on := 4, ground := Ground.phase }, { on := 5, ground := Ground.phase }, { on := 6, ground := Ground.phase }], guard := none }) rfl (fun K hK => ?_) AllReadyH.nil)
            have q0 := hq33.cell 0
            have q1 := hq33.cell 1
            simp at q0 q1
            have g0 := hq33.froz 0
            have g1 := hq33.froz 1
            have z0 := hq33.lt
            have HS34 := Lib.hid (below_set2 HS33.out lq (.slice B1 m1 d1) (.slice B2 m2 d2))
            have hq34 : Cells ((V33.setCell ⟨bq, 0, none⟩ (.slice B1 m1 d1)).setCell ⟨bq, 1, none⟩ (.slice B2 m2 d2)) bq 54 #[.slice B1 m1 d1, .slice B2 m2 d2] := nil_set3 hq33 _ _
            have hp34 := ((fz2 V33 bq (.slice B1 m1 d1) (.slice B2 m2 d2)).block bp hp33.lt (by omega)).trans hp33
            go_simp
            refine hK.out _ _ HS34.out (fun hH => ?_)
            clear hK K q0 q1 g0 g1 z0
            try simp only [Act.put, List.setIfInBounds_toArray, List.set_cons_zero, List.set_cons_succ]
            obtain ⟨V34, hV34⟩ : ∃ W, ((V33.setCell ⟨bq, 0, none⟩ (.slice B1 m1 d1)).setCell ⟨bq, 1, none⟩ (.slice B2 m2 d2)) = W := ⟨_, rfl⟩
            rw [hV34] at HS34 hq34 hp34 hH ⊢
            clear hV34
            have hp34 : Cells V34 bp 54 _ := hp34
            refine wpAnyH_done (by kernel_rfl) ?_ _
            refine NoPanic.normal ?_
            go_wp2_with fail
            go_meet
            exact ⟨_, _, rfl, rfl, hp34, hq34, HS34.out⟩
          ·
            go_simp
            have HS35 := Lib.hid (HS30.out.alloc HS30.out.size (.cells #[.slice none 0 0, .slice none 0 0] 54))
            have hq35 := cells_new V30 #[.slice none 0 0, .slice none 0 0] 54
            have lq := HS30.out.size
            have neq := hp30.lt
            have hp35 := hp30.on (below_new _ (.cells #[.slice none 0 0, .slice none 0 0] 54))
            refine hK.out _ _ HS35.out (fun hH => ?_)
            clear hK K
            try simp only [Act.put, List.setIfInBounds_toArray, List.set_cons_zero, List.set_cons_succ]
            obtain ⟨bq, hbq⟩ : ∃ b, V30.heap.size = b := ⟨_, rfl⟩
            obtain ⟨V35, hV35⟩ : ∃ W, V30.alloc (.cells #[.slice none 0 0, .slice none 0 0] 54) = W := ⟨_, rfl⟩
            rw [hV35] at HS35 hq35 hp35 hH ⊢
            rw [hbq] at hq35 lq neq ⊢
            clear hV35 hbq
            refine wpAnyH_ready (rs := [3]) (by kernel_rfl) (by simp) ?_
            refine (AllReadyH.cons (o := { dst := some 39, op := Op.call { callee := Callee.value (Operand.func 32), args := #[Operand.tmp 38], argTypes := #[57] }, type := 54, pos := "law.go:89", after := #[{ on := 2, ground := Ground.data }, { on := 1, ground := Ground.chain }], guard := none }) rfl (fun K hK => ?_) AllReadyH.nil)
            go_simp
            go_at_call 32
            refine (to_tab B1 B2 m1 d1 m2 d2 _).mono ?_
            rintro e V36 ⟨rfl, hbk⟩
            have HS36 := Lib.hid (HS35.out.trans (hbk.mono HS35.out.size))
            have hp36 := hp35.on hbk
            have hq36 := hq35.on hbk
            clear hbk
            try go_wp2_with fail
            refine hK.out _ _ HS36.out (fun hH => ?_)
            clear hK K
            try simp only [Act.put, List.setIfInBounds_toArray, List.set_cons_zero, List.set_cons_succ]
            refine wpAnyH_ready (rs := [6]) (by kernel_rfl) (by simp) ?_
            refine (AllReadyH.cons (o := { dst := none, op := Op.store 54 (Operand.tmp 9) (Operand.tmp 37), type := 0, pos := "law.go:89", after := #[{ on := 4, ground := Ground.data }, { on := 1, ground := Ground.data }, { on := 3, ground := Ground.chain }, { on := 0, ground := Ground.phase }, { on := 1, ground := Ground.phase }, { on := 2, ground := Ground.textOnly Departure.lateStores }, { on := 3, ground := Ground.textOnly Departure.lateStoresUnsure }, { on := 4, ground := Ground.phase }, { on := 5, ground := Ground.phase }], guard := none }) rfl (fun K hK => ?_) AllReadyH.nil)
            have q0 := hp36.cell 0
            have q1 := hp36.cell 1
            simp at q0 q1
            have g0 := hp36.froz 0
            have g1 := hp36.froz 1
            have z0 := hp36.lt
            have HS37 := Lib.hid (below_set2 HS36.out lp (.slice A1 n1 c1) (.slice A2 n2 c2))
            have hp37 : Cells ((V36.setCell ⟨bp, 0, none⟩ (.slice A1 n1 c1)).setCell ⟨bp, 1, none⟩ (.slice A2 n2 c2)) bp 54 #[.slice A1 n1 c1, .slice A2 n2 c2] := nil_set3 hp36 _ _
            have hq37 := ((fz2 V36 bp (.slice A1 n1 c1) (.slice A2 n2 c2)).block bq hq36.lt (by omega)).trans hq36
            go_simp
            refine hK.out _ _ HS37.out (fun hH => ?_)
            clear hK K q0 q1 g0 g1 z0
            try simp only [Act.put, List.setIfInBounds_toArray, List.set_cons_zero, List.set_cons_succ]
            obtain ⟨V37, hV37⟩ : ∃ W, ((V36.setCell ⟨bp, 0, none⟩ (.slice A1 n1 c1)).setCell ⟨bp, 1, none⟩ (.slice A2 n2 c2)) = W := ⟨_, rfl⟩
            rw [hV37] at HS37 hp37 hq37 hH ⊢
            clear hV37
            have hq37 : Cells V37 bq 54 _ := hq37
            refine wpAnyH_ready (rs := [7]) (by kernel_rfl) (by simp) ?_
            refine (AllReadyH.cons (o := { dst := none, op := Op.store 54 (Operand.tmp 10) (Operand.tmp 39), type := 0, pos := "law.go:89", after := #[{ on := 5, ground := Ground.data }, { on := 3, ground := Ground.data }, { on := 6, ground := Ground.chain }, { on := 0, ground := Ground.phase }, { on := 1, ground := Ground.phase }, { on := 2, ground := Ground.phase }, { on := 3, ground := Ground.phase }, { on := 4, ground := Ground.phase }, { on := 5, ground := Ground.phase }, { on := 6, ground := Ground.phase }], guard := none }) rfl (fun K hK => ?_) AllReadyH.nil)
            have q0 := hq37.cell 0
            have q1 := hq37.cell 1
            simp at q0 q1
            have g0 := hq37.froz 0
            have g1 := hq37.froz 1
            have z0 := hq37.lt
            have HS38 := Lib.hid (below_set2 HS37.out lq (.slice B1 m1 d1) (.slice B2 m2 d2))
            have hq38 : Cells ((V37.setCell ⟨bq, 0, none⟩ (.slice B1 m1 d1)).setCell ⟨bq, 1, none⟩ (.slice B2 m2 d2)) bq 54 #[.slice B1 m1 d1, .slice B2 m2 d2] := nil_set3 hq37 _ _
            have hp38 := ((fz2 V37 bq (.slice B1 m1 d1) (.slice B2 m2 d2)).block bp hp37.lt (by omega)).trans hp37
            go_simp
            refine hK.out _ _ HS38.out (fun hH => ?_)
            clear hK K q0 q1 g0 g1 z0
            try simp only [Act.put, List.setIfInBounds_toArray, List.set_cons_zero, List.set_cons_succ]
            obtain ⟨V38, hV38⟩ : ∃ W, ((V37.setCell ⟨bq, 0, none⟩ (.slice B1 m1 d1)).setCell ⟨bq, 1, none⟩ (.slice B2 m2 d2)) = W := ⟨_, rfl⟩
            rw [hV38] at HS38 hq38 hp38 hH ⊢
            clear hV38
            have hp38 : Cells V38 bp 54 _ := hp38
            refine wpAnyH_done (by kernel_rfl) ?_ _
            refine NoPanic.normal ?_
            go_wp2_with fail
            go_meet
            exact ⟨_, _, rfl, rfl, hp38, hq38, HS38.out⟩
        ·
          go_simp
          have HS39 := Lib.hid (HS29.out.alloc HS29.out.size (.cells #[.slice none 0 0, .slice none 0 0] 54))
          have hq39 := cells_new V29 #[.slice none 0 0, .slice none 0 0] 54
          have lq := HS29.out.size
          have neq := hp29.lt
          have hp39 := hp29.on (below_new _ (.cells #[.slice none 0 0, .slice none 0 0] 54))
          refine hK.out _ _ HS39.out (fun hH => ?_)
          clear hK K
          try simp only [Act.put, List.setIfInBounds_toArray, List.set_cons_zero, List.set_cons_succ]
          obtain ⟨bq, hbq⟩ : ∃ b, V29.heap.size = b := ⟨_, rfl⟩
          obtain ⟨V39, hV39⟩ : ∃ W, V29.alloc (.cells #[.slice none 0 0, .slice none 0 0] 54) = W := ⟨_, rfl⟩
          rw [hV39] at HS39 hq39 hp39 hH ⊢
          rw [hbq] at hq39 lq neq ⊢
          clear hV39 hbq
          refine wpAnyH_ready (rs := [1]) (by kernel_rfl) (by simp) ?_
          refine (AllReadyH.cons (o := { dst := some 37, op := Op.call { callee := Callee.value (Operand.func 32), args := #[Operand.tmp 36], argTypes := #[57] }, type := 54, pos := "law.go:89", after := #[{ on := 0, ground := Ground.data }], guard := none }) rfl (fun K hK => ?_) AllReadyH.nil)
          go_simp
          go_at_call 32
          refine (to_tab A1 A2 n1 c1 n2 c2 _).mono ?_
          rintro e V40 ⟨rfl, hbk⟩
          have HS40 := Lib.hid (HS39.out.trans (hbk.mono HS39.out.size))
          have hp40 := hp39.on hbk
          have hq40 := hq39.on hbk
          clear hbk
          try go_wp2_with fail
          refine hK.out _ _ HS40.out (fun hH => ?_)
          clear hK K
          try simp only [Act.put, List.setIfInBounds_toArray, List.set_cons_zero, List.set_cons_succ]
          refine wpAnyH_ready (rs := [3]) (by kernel_rfl) (by simp) ?_
          refine (AllReadyH.cons (o := { dst := some 39, op := Op.call { callee := Callee.value (Operand.func 32), args := #[Operand.tmp 38], argTypes := #[57] }, type := 54, pos := "law.go:89", after := #[{ on := 2, ground := Ground.data }, { on := 1, ground := Ground.chain }], guard := none }) rfl (fun K hK => ?_) AllReadyH.nil)
          go_simp
          go_at_call 32
          refine (to_tab B1 B2 m1 d1 m2 d2 _).mono ?_
          rintro e V41 ⟨rfl, hbk⟩
          have HS41 := Lib.hid (HS40.out.trans (hbk.mono HS40.out.size))
          have hp41 := hp40.on hbk
          have hq41 := hq40.on hbk
          clear hbk
          try go_wp2_with fail
          refine hK.out _ _ HS41.out (fun hH => ?_)
          clear hK K
          try simp only [Act.put, List.setIfInBounds_toArray, List.set_cons_zero, List.set_cons_succ]
          refine wpAnyH_ready (rs := [6]) (by kernel_rfl) (by simp) ?_
          refine (AllReadyH.cons (o := { dst := none, op := Op.store 54 (Operand.tmp 9) (Operand.tmp 37), type := 0, pos := "law.go:89", after := #[{ on := 4, ground := Ground.data }, { on := 1, ground := Ground.data }, { on := 3, ground := Ground.chain }, { on := 0, ground := Ground.phase }, { on := 1, ground := Ground.phase }, { on := 2, ground := Ground.textOnly Departure.lateStores }, { on := 3, ground := Ground.textOnly Departure.lateStoresUnsure }, { on := 4, ground := Ground.phase }, { on := 5, ground := Ground.phase }], guard := none }) rfl (fun K hK => ?_) AllReadyH.nil)
          have q0 := hp41.cell 0
          have q1 := hp41.cell 1
          simp at q0 q1
          have g0 := hp41.froz 0
          have g1 := hp41.froz 1
          have z0 := hp41.lt
          have HS42 := Lib.hid (below_set2 HS41.out lp (.slice A1 n1 c1) (.slice A2 n2 c2))
          have hp42 : Cells ((V41.setCell ⟨bp, 0, none⟩ (.slice A1 n1 c1)).setCell ⟨bp, 1, none⟩ (.slice A2 n2 c2)) bp 54 #[.slice A1 n1 c1, .slice A2 n2 c2] := nil_set3 hp41 _ _
          have hq42 := ((fz2 V41 bp (.slice A1 n1 c1) (.slice A2 n2 c2)).block bq hq41.lt (by omega)).trans hq41
          go_simp
          refine hK.out _ _ HS42.out (fun hH => ?_)
          clear hK K q0 q1 g0 g1 z0
          try simp only [Act.put, List.setIfInBounds_toArray, List.set_cons_zero, List.set_cons_succ]
          obtain ⟨V42, hV42⟩ : ∃ W, ((V41.setCell ⟨bp, 0, none⟩ (.slice A1 n1 c1)).setCell ⟨bp, 1, none⟩ (.slice A2 n2 c2)) = W := ⟨_, rfl⟩
          rw [hV42] at HS42 hp42 hq42 hH ⊢
          clear hV42
          have hq42 : Cells V42 bq 54 _ := hq42
          refine wpAnyH_ready (rs := [7]) (by kernel_rfl) (by simp) ?_
          refine (AllReadyH.cons (o := { dst := none, op := Op.store 54 (Operand.tmp 10) (Operand.tmp 39), type := 0, pos := "law.go:89", after := #[{ on := 5, ground := Ground.data }, { on := 3, ground := Ground.data }, { on := 6, ground := Ground.chain }, { on := 0, ground := Ground.phase }, { on := 1, ground := Ground.phase }, { on := 2, ground := Ground.phase }, { on := 3, ground := Ground.phase }, { on := 4, ground := Ground.phase }, { on := 5, ground := Ground.phase }, { on := 6, ground := Ground.phase }], guard := none }) rfl (fun K hK => ?_) AllReadyH.nil)
          have q0 := hq42.cell 0
          have q1 := hq42.cell 1
          simp at q0 q1
          have g0 := hq42.froz 0
          have g1 := hq42.froz 1
          have z0 := hq42.lt
          have HS43 := Lib.hid (below_set2 HS42.out lq (.slice B1 m1 d1) (.slice B2 m2 d2))
          have hq43 : Cells ((V42.setCell ⟨bq, 0, none⟩ (.slice B1 m1 d1)).setCell ⟨bq, 1, none⟩ (.slice B2 m2 d2)) bq 54 #[.slice B1 m1 d1, .slice B2 m2 d2] := nil_set3 hq42 _ _
          have hp43 := ((fz2 V42 bq (.slice B1 m1 d1) (.slice B2 m2 d2)).block bp hp42.lt (by omega)).trans hp42
          go_simp
          refine hK.out _ _ HS43.out (fun hH => ?_)
          clear hK K q0 q1 g0 g1 z0
          try simp only [Act.put, List.setIfInBounds_toArray, List.set_cons_zero, List.set_cons_succ]
          obtain ⟨V43, hV43⟩ : ∃ W, ((V42.setCell ⟨bq, 0, none⟩ (.slice B1 m1 d1)).setCell ⟨bq, 1, none⟩ (.slice B2 m2 d2)) = W := ⟨_, rfl⟩
          rw [hV43] at HS43 hq43 hp43 hH ⊢
          clear hV43
          have hp43 : Cells V43 bp 54 _ := hp43
          refine wpAnyH_done (by kernel_rfl) ?_ _
          refine NoPanic.normal ?_
          go_wp2_with fail
          go_meet
          exact ⟨_, _, rfl, rfl, hp43, hq43, HS43.out⟩
      ·
        go_simp
        have HS44 := Lib.hid (HSd.out.alloc HSd.out.size (.cells #[.slice none 0 0, .slice none 0 0] 54))
        have hq44 := cells_new wd #[.slice none 0 0, .slice none 0 0] 54
        have lq := HSd.out.size
        refine hK.out _ _ HS44.out (fun hH => ?_)
        clear hK K
        try simp only [Act.put, List.setIfInBounds_toArray, List.set_cons_zero, List.set_cons_succ]
        obtain ⟨bq, hbq⟩ : ∃ b, wd.heap.size = b := ⟨_, rfl⟩
        obtain ⟨V44, hV44⟩ : ∃ W, wd.alloc (.cells #[.slice none 0 0, .slice none 0 0] 54) = W := ⟨_, rfl⟩
        rw [hV44] at HS44 hq44 hH ⊢
        rw [hbq] at hq44 lq ⊢
        clear hV44 hbq
        refine wpAnyH_ready (rs := [1, 4]) (by kernel_rfl) (by simp) ?_
        refine (AllReadyH.cons (o := { dst := some 37, op := Op.call { callee := Callee.value (Operand.func 32), args := #[Operand.tmp 36], argTypes := #[57] }, type := 54, pos := "law.go:89", after := #[{ on := 0, ground := Ground.data }], guard := none }) rfl (fun K hK => ?_) (AllReadyH.cons (o := { dst := some 9, op := Op.alloc 54, type := 0, pos := "law.go:89", after := #[], guard := none }) rfl (fun K hK => ?_) AllReadyH.nil))
        ·
          go_simp
          go_at_call 32
          refine (to_tab A1 A2 n1 c1 n2 c2 _).mono ?_
          rintro e V45 ⟨rfl, hbk⟩
          have HS45 := Lib.hid (HS44.out.trans (hbk.mono HS44.out.size))
          have hq45 := hq44.on hbk
          clear hbk
          try go_wp2_with fail
          refine hK.out _ _ HS45.out (fun hH => ?_)
          clear hK K
          try simp only [Act.put, List.setIfInBounds_toArray, List.set_cons_zero, List.set_cons_succ]
          refine wpAnyH_ready (rs := [3, 4]) (by kernel_rfl) (by simp) ?_
          refine (AllReadyH.cons (o := { dst := some 39, op := Op.call { callee := Callee.value (Operand.func 32), args := #[Operand.tmp 38], argTypes := #[57] }, type := 54, pos := "law.go:89", after := #[{ on := 2, ground := Ground.data }, { on := 1, ground := Ground.chain }], guard := none }) rfl (fun K hK => ?_) (AllReadyH.cons (o := { dst := some 9, op := Op.alloc 54, type := 0, pos := "law.go:89", after := #[], guard := none }) rfl (fun K hK => ?_) AllReadyH.nil))
          ·
            go_simp
            go_at_call 32
            refine (to_tab B1 B2 m1 d1 m2 d2 _).mono ?_
            rintro e V46 ⟨rfl, hbk⟩
            have HS46 := Lib.hid (HS45.out.trans (hbk.mono HS45.out.size))
            have hq46 := hq45.on hbk
            clear hbk
            try go_wp2_with fail
            refine hK.out _ _ HS46.out (fun hH => ?_)
            clear hK K
            try simp only [Act.put, List.setIfInBounds_toArray, List.set_cons_zero, List.set_cons_succ]
            refine wpAnyH_ready (rs := [4]) (by kernel_rfl) (by simp) ?_
            refine (AllReadyH.cons (o := { dst := some 9, op := Op.alloc 54, type := 0, pos := "law.go:89", after := #[], guard := none }) rfl (fun K hK => ?_) AllReadyH.nil)
            go_simp
            have HS47 := Lib.hid (HS46.out.alloc HS46.out.size (.cells #[.slice none 0 0, .slice none 0 0] 54))
            have hp47 := cells_new V46 #[.slice none 0 0, .slice none 0 0] 54
            have lp := HS46.out.size
            have neq := hq46.lt
            have hq47 := hq46.on (below_new _ (.cells #[.slice none 0 0, .slice none 0 0] 54))
            refine hK.out _ _ HS47.out (fun hH => ?_)
            clear hK K
            try simp only [Act.put, List.setIfInBounds_toArray, List.set_cons_zero, List.set_cons_succ]
            obtain ⟨bp, hbp⟩ : ∃ b, V46.heap.size = b := ⟨_, rfl⟩
            obtain ⟨V47, hV47⟩ : ∃ W, V46.alloc (.cells #[.slice none 0 0, .slice none 0 0] 54) = W := ⟨_, rfl⟩
            rw [hV47] at HS47 hp47 hq47 hH ⊢
            rw [hbp] at hp47 lp neq ⊢
            clear hV47 hbp
            refine wpAnyH_ready (rs := [6]) (by kernel_rfl) (by simp) ?_
            refine (AllReadyH.cons (o := { dst := none, op := Op.store 54 (Operand.tmp 9) (Operand.tmp 37), type := 0, pos := "law.go:89", after := #[{ on := 4, ground := Ground.data }, { on := 1, ground := Ground.data }, { on := 3, ground := Ground.chain }, { on := 0, ground := Ground.phase }, { on := 1, ground := Ground.phase }, { on := 2, ground := Ground.textOnly Departure.lateStores }, { on := 3, ground := Ground.textOnly Departure.lateStoresUnsure }, { on := 4, ground := Ground.phase }, { on := 5, ground := Ground.phase }], guard := none }) rfl (fun K hK => ?_) AllReadyH.nil)
            have q0 := hp47.cell 0
            have q1 := hp47.cell 1
            simp at q0 q1
            have g0 := hp47.froz 0
            have g1 := hp47.froz 1
            have z0 := hp47.lt
            have HS48 := Lib.hid (below_set2 HS47.out lp (.slice A1 n1 c1) (.slice A2 n2 c2))
            have hp48 : Cells ((V47.setCell ⟨bp, 0, none⟩ (.slice A1 n1 c1)).setCell ⟨bp, 1, none⟩ (.slice A2 n2 c2)) bp 54 #[.slice A1 n1 c1, .slice A2 n2 c2] := nil_set3 hp47 _ _
            have hq48 := ((fz2 V47 bp (.slice A1 n1 c1) (.slice A2 n2 c2)).block bq hq47.lt (by omega)).trans hq47
            go_simp
            refine hK.out _ _ HS48.out (fun hH => ?_)
            clear hK K q0 q1 g0 g1 z0
            try simp only [Act.put, List.setIfInBounds_toArray, List.set_cons_zero, List.set_cons_succ]
            obtain ⟨V48, hV48⟩ : ∃ W, ((V47.setCell ⟨bp, 0, none⟩ (.slice A1 n1 c1)).setCell ⟨bp, 1, none⟩ (.slice A2 n2 c2)) = W := ⟨_, rfl⟩
            rw [hV48] at HS48 hp48 hq48 hH ⊢
            clear hV48
            have hq48 : Cells V48 bq 54 _ := hq48
            refine wpAnyH_ready (rs := [7]) (by kernel_rfl) (by simp) ?_
            refine (AllReadyH.cons (o := { dst := none, op := Op.store 54 (Operand.tmp 10) (Operand.tmp 39), type := 0, pos := "law.go:89", after := #[{ on := 5, ground := Ground.data }, { on := 3, ground := Ground.data }, { on := 6, ground := Ground.chain }, { on := 0, ground := Ground.phase }, { on := 1, ground := Ground.phase }, { on := 2, ground := Ground.phase }, { on := 3, ground := Ground.phase }, { on := 4, ground := Ground.phase }, { on := 5, ground := Ground.phase }, { on := 6, ground := Ground.phase }], guard := none }) rfl (fun K hK => ?_) AllReadyH.nil)
            have q0 := hq48.cell 0
            have q1 := hq48.cell 1
            simp at q0 q1
            have g0 := hq48.froz 0
            have g1 := hq48.froz 1
            have z0 := hq48.lt
            have HS49 := Lib.hid (below_set2 HS48.out lq (.slice B1 m1 d1) (.slice B2 m2 d2))
            have hq49 : Cells ((V48.setCell ⟨bq, 0, none⟩ (.slice B1 m1 d1)).setCell ⟨bq, 1, none⟩ (.slice B2 m2 d2)) bq 54 #[.slice B1 m1 d1, .slice B2 m2 d2] := nil_set3 hq48 _ _
            have hp49 := ((fz2 V48 bq (.slice B1 m1 d1) (.slice B2 m2 d2)).block bp hp48.lt (by omega)).trans hp48
            go_simp
            refine hK.out _ _ HS49.out (fun hH => ?_)
            clear hK K q0 q1 g0 g1 z0
            try simp only [Act.put, List.setIfInBounds_toArray, List.set_cons_zero, List.set_cons_succ]
            obtain ⟨V49, hV49⟩ : ∃ W, ((V48.setCell ⟨bq, 0, none⟩ (.slice B1 m1 d1)).setCell ⟨bq, 1, none⟩ (.slice B2 m2 d2)) = W := ⟨_, rfl⟩
            rw [hV49] at HS49 hq49 hp49 hH ⊢
            clear hV49
            have hp49 : Cells V49 bp 54 _ := hp49
            refine wpAnyH_done (by kernel_rfl) ?_ _
            refine NoPanic.normal ?_
            go_wp2_with fail
            go_meet
            exact ⟨_, _, rfl, rfl, hp49, hq49, HS49.out⟩
          ·
            go_simp
            have HS50 := Lib.hid (HS45.out.alloc HS45.out.size (.cells #[.slice none 0 0, .slice none 0 0] 54))
            have hp50 := cells_new V45 #[.slice none 0 0, .slice none 0 0] 54
            have lp := HS45.out.size
            have neq := hq45.lt
            have hq50 := hq45.on (below_new _ (.cells #[.slice none 0 0, .slice none 0 0] 54))
            refine hK.out _ _ HS50.out (fun hH => ?_)
            clear hK K
            try simp only [Act.put, List.setIfInBounds_toArray, List.set_cons_zero, List.set_cons_succ]
            obtain ⟨bp, hbp⟩ : ∃ b, V45.heap.size = b := ⟨_, rfl⟩
            obtain ⟨V50, hV50⟩ : ∃ W, V45.alloc (.cells #[.slice none 0 0, .slice none 0 0] 54) = W := ⟨_, rfl⟩
            rw [hV50] at HS50 hp50 hq50 hH ⊢
            rw [hbp] at hp50 lp neq ⊢
            clear hV50 hbp
            refine wpAnyH_ready (rs := [3]) (by kernel_rfl) (by simp) ?_
            refine (AllReadyH.cons (o := { dst := some 39, op := Op.call { callee := Callee.value (Operand.func 32), args := #[Operand.tmp 38], argTypes := #[57] }, type := 54, pos := "law.go:89", after := #[{ on := 2, ground := Ground.data }, { on := 1, ground := Ground.chain }], guard := none }) rfl (fun K hK => ?_) AllReadyH.nil)
            go_simp
            go_at_call 32
            refine (to_tab B1 B2 m1 d1 m2 d2 _).mono ?_
            rintro e V51 ⟨rfl, hbk⟩
            have HS51 := Lib.hid (HS50.out.trans (hbk.mono HS50.out.size))
            have hp51 := hp50.on hbk
            have hq51 := hq50.on hbk
            clear hbk
            try go_wp2_with fail
            refine hK.out _ _ HS51.out (fun hH => ?_)
            clear hK K
            try simp only [Act.put, List.setIfInBounds_toArray, List.set_cons_zero, List.set_cons_succ]
            refine wpAnyH_ready (rs := [6]) (by kernel_rfl) (by simp) ?_
            refine (AllReadyH.cons (o := { dst := none, op := Op.store 54 (Operand.tmp 9) (Operand.tmp 37), type := 0, pos := "law.go:89", after := #[{ on := 4, ground := Ground.data }, { on := 1, ground := Ground.data }, { on := 3, ground := Ground.chain }, { on := 0, ground := Ground.phase }, { on := 1, ground := Ground.phase }, { on := 2, ground := Ground.textOnly Departure.lateStores }, { on := 3, ground := Ground.textOnly Departure.lateStoresUnsure }, { on := 4, ground := Ground.phase }, { on := 5, ground := Ground.phase }], guard := none }) rfl (fun K hK => ?_) AllReadyH.nil)
            have q0 := hp51.cell 0
            have q1 := hp51.cell 1
            simp at q0 q1
            have g0 := hp51.froz 0
            have g1 := hp51.froz 1
            have z0 := hp51.lt
            have HS52 := Lib.hid (below_set2 HS51.out lp (.slice A1 n1 c1) (.slice A2 n2 c2))
            have hp52 : Cells ((V51.setCell ⟨bp, 0, none⟩ (.slice A1 n1 c1)).setCell ⟨bp, 1, none⟩ (.slice A2 n2 c2)) bp 54 #[.slice A1 n1 c1, .slice A2 n2 c2] := nil_set3 hp51 _ _
            have hq52 := ((fz2 V51 bp (.slice A1 n1 c1) (.slice A2 n2 c2)).block bq hq51.lt (by omega)).trans hq51
            go_simp
            refine hK.out _ _ HS52.out (fun hH => ?_)
            clear hK K q0 q1 g0 g1 z0
            try simp only [Act.put, List.setIfInBounds_toArray, List.set_cons_zero, List.set_cons_succ]
            obtain ⟨V52, hV52⟩ : ∃ W, ((V51.setCell ⟨bp, 0, none⟩ (.slice A1 n1 c1)).setCell ⟨bp, 1, none⟩ (.slice A2 n2 c2)) = W := ⟨_, rfl⟩
            rw [hV52] at HS52 hp52 hq52 hH ⊢
            clear hV52
            have hq52 : Cells V52 bq 54 _ := hq52
            refine wpAnyH_ready (rs := [7]) (by kernel_rfl) (by simp) ?_
            refine (AllReadyH.cons (o := { dst := none, op := Op.store 54 (Operand.tmp 10) (Operand.tmp 39), type := 0, pos := "law.go:89", after := #[{ on := 5, ground := Ground.data }, { on := 3, ground := Ground.data }, { on := 6, ground := Ground.chain }, { on := 0, ground := Ground.phase }, { on := 1, ground := Ground.phase }, { on := 2, ground := Ground.phase }, { on := 3, ground := Ground.phase }, { on := 4, ground := Ground.phase }, { on := 5, ground := Ground.phase }, { on := 6, ground := Ground.phase }], guard := none }) rfl (fun K hK => ?_) AllReadyH.nil)
            have q0 := hq52.cell 0
            have q1 := hq52.cell 1
            simp at q0 q1
            have g0 := hq52.froz 0
            have g1 := hq52.froz 1
            have z0 := hq52.lt
            have HS53 := Lib.hid (below_set2 HS52.out lq (.slice B1 m1 d1) (.slice B2 m2 d2))
            have hq53 : Cells ((V52.setCell ⟨bq, 0, none⟩ (.slice B1 m1 d1)).setCell ⟨bq, 1, none⟩ (.slice B2 m2 d2)) bq 54 #[.slice B1 m1 d1, .slice B2 m2 d2] := nil_set3 hq52 _ _
            have hp53 := ((fz2 V52 bq (.slice B1 m1 d1) (.slice B2 m2 d2)).block bp hp52.lt (by omega)).trans hp52
            go_simp
            refine hK.out _ _ HS53.out (fun hH => ?_)
            clear hK K q0 q1 g0 g1 z0
            try simp only [Act.put, List.setIfInBounds_toArray, List.set_cons_zero, List.set_cons_succ]
            obtain ⟨V53, hV53⟩ : ∃ W, ((V52.setCell ⟨bq, 0, none⟩ (.slice B1 m1 d1)).setCell ⟨bq, 1, none⟩ (.slice B2 m2 d2)) = W := ⟨_, rfl⟩
            rw [hV53] at HS53 hq53 hp53 hH ⊢
            clear hV53
            have hp53 : Cells V53 bp 54 _ := hp53
            refine wpAnyH_done (by kernel_rfl) ?_ _
            refine NoPanic.normal ?_
            go_wp2_with fail
            go_meet
            exact ⟨_, _, rfl, rfl, hp53, hq53, HS53.out⟩
        ·
          go_simp
          have HS54 := Lib.hid (HS44.out.alloc HS44.out.size (.cells #[.slice none 0 0, .slice none 0 0] 54))
          have hp54 := cells_new V44 #[.slice none 0 0, .slice none 0 0] 54
          have lp := HS44.out.size
          have neq := hq44.lt
          have hq54 := hq44.on (below_new _ (.cells #[.slice none 0 0, .slice none 0 0] 54))
          refine hK.out _ _ HS54.out (fun hH => ?_)
          clear hK K
          try simp only [Act.put, List.setIfInBounds_toArray, List.set_cons_zero, List.set_cons_succ]
          obtain ⟨bp, hbp⟩ : ∃ b, V44.heap.size = b := ⟨_, rfl⟩
          obtain ⟨V54, hV54⟩ : ∃ W, V44.alloc (.cells #[.slice none 0 0, .slice none 0 0] 54) = W := ⟨_, rfl⟩
          rw [hV54] at HS54 hp54 hq54 hH ⊢
          rw [hbp] at hp54 lp neq ⊢
          clear hV54 hbp
          refine wpAnyH_ready (rs := [1]) (by kernel_rfl) (by simp) ?_
          refine (AllReadyH.cons (o := { dst := some 37, op := Op.call { callee := Callee.value (Operand.func 32), args := #[Operand.tmp 36], argTypes := #[57] }, type := 54, pos := "law.go:89", after := #[{ on := 0, ground := Ground.data }], guard := none }) rfl (fun K hK => ?_) AllReadyH.nil)
          go_simp
          go_at_call 32
          refine (to_tab A1 A2 n1 c1 n2 c2 _).mono ?_
          rintro e V55 ⟨rfl, hbk⟩
          have HS55 := Lib.hid (HS54.out.trans (hbk.mono HS54.out.size))
          have hp55 := hp54.on hbk
          have hq55 := hq54.on hbk
          clear hbk
          try go_wp2_with fail
          refine hK.out _ _ HS55.out (fun hH => ?_)
          clear hK K
          try simp only [Act.put, List.setIfInBounds_toArray, List.set_cons_zero, List.set_cons_succ]
          refine wpAnyH_ready (rs := [3]) (by kernel_rfl) (by simp) ?_
          refine (AllReadyH.cons (o := { dst := some 39, op := Op.call { callee := Callee.value (Operand.func 32), args := #[Operand.tmp 38], argTypes := #[57] }, type := 54, pos := "law.go:89", after := #[{ on := 2, ground := Ground.data }, { on := 1, ground := Ground.chain }], guard := none }) rfl (fun K hK => ?_) AllReadyH.nil)
          go_simp
          go_at_call 32
          refine (to_tab B1 B2 m1 d1 m2 d2 _).mono ?_
          rintro e V56 ⟨rfl, hbk⟩
          have HS56 := Lib.hid (HS55.out.trans (hbk.mono HS55.out.size))
          have hp56 := hp55.on hbk
          have hq56 := hq55.on hbk
          clear hbk
          try go_wp2_with fail
          refine hK.out _ _ HS56.out (fun hH => ?_)
          clear hK K
          try simp only [Act.put, List.setIfInBounds_toArray, List.set_cons_zero, List.set_cons_succ]
          refine wpAnyH_ready (rs := [6]) (by kernel_rfl) (by simp) ?_
          refine (AllReadyH.cons (o := { dst := none, op := Op.store 54 (Operand.tmp 9) (Operand.tmp 37), type := 0, pos := "law.go:89", after := #[{ on := 4, ground := Ground.data }, { on := 1, ground := Ground.data }, { on := 3, ground := Ground.chain }, { on := 0, ground := Ground.phase }, { on := 1, ground := Ground.phase }, { on := 2, ground := Ground.textOnly Departure.lateStores }, { on := 3, ground := Ground.textOnly Departure.lateStoresUnsure }, { on := 4, ground := Ground.phase }, { on := 5, ground := Ground.phase }], guard := none }) rfl (fun K hK => ?_) AllReadyH.nil)
          have q0 := hp56.cell 0
          have q1 := hp56.cell 1
          simp at q0 q1
          have g0 := hp56.froz 0
          have g1 := hp56.froz 1
          have z0 := hp56.lt
          have HS57 := Lib.hid (below_set2 HS56.out lp (.slice A1 n1 c1) (.slice A2 n2 c2))
          have hp57 : Cells ((V56.setCell ⟨bp, 0, none⟩ (.slice A1 n1 c1)).setCell ⟨bp, 1, none⟩ (.slice A2 n2 c2)) bp 54 #[.slice A1 n1 c1, .slice A2 n2 c2] := nil_set3 hp56 _ _
          have hq57 := ((fz2 V56 bp (.slice A1 n1 c1) (.slice A2 n2 c2)).block bq hq56.lt (by omega)).trans hq56
          go_simp
          refine hK.out _ _ HS57.out (fun hH => ?_)
          clear hK K q0 q1 g0 g1 z0
          try simp only [Act.put, List.setIfInBounds_toArray, List.set_cons_zero, List.set_cons_succ]
          obtain ⟨V57, hV57⟩ : ∃ W, ((V56.setCell ⟨bp, 0, none⟩ (.slice A1 n1 c1)).setCell ⟨bp, 1, none⟩ (.slice A2 n2 c2)) = W := ⟨_, rfl⟩
          rw [hV57] at HS57 hp57 hq57 hH ⊢
          clear hV57
          have hq57 : Cells V57 bq 54 _ := hq57
          refine wpAnyH_ready (rs := [7]) (by kernel_rfl) (by simp) ?_
          refine (AllReadyH.cons (o := { dst := none, op := Op.store 54 (Operand.tmp 10) (Operand.tmp 39), type := 0, pos := "law.go:89", after := #[{ on := 5, ground := Ground.data }, { on := 3, ground := Ground.data }, { on := 6, ground := Ground.chain }, { on := 0, ground := Ground.phase }, { on := 1, ground := Ground.phase }, { on := 2, ground := Ground.phase }, { on := 3, ground := Ground.phase }, { on := 4, ground := Ground.phase }, { on := 5, ground := Ground.phase }, { on := 6, ground := Ground.phase }], guard := none }) rfl (fun K hK => ?_) AllReadyH.nil)
          have q0 := hq57.cell 0
          have q1 := hq57.cell 1
          simp at q0 q1
          have g0 := hq57.froz 0
          have g1 := hq57.froz 1
          have z0 := hq57.lt
          have HS58 := Lib.hid (below_set2 HS57.out lq (.slice B1 m1 d1) (.slice B2 m2 d2))
          have hq58 : Cells ((V57.setCell ⟨bq, 0, none⟩ (.slice B1 m1 d1)).setCell ⟨bq, 1, none⟩ (.slice B2 m2 d2)) bq 54 #[.slice B1 m1 d1, .slice B2 m2 d2] := nil_set3 hq57 _ _
          have hp58 := ((fz2 V57 bq (.slice B1 m1 d1) (.slice B2 m2 d2)).block bp hp57.lt (by omega)).trans hp57
          go_simp
          refine hK.out _ _ HS58.out (fun hH => ?_)
          clear hK K q0 q1 g0 g1 z0
          try simp only [Act.put, List.setIfInBounds_toArray, List.set_cons_zero, List.set_cons_succ]
          obtain ⟨V58, hV58⟩ : ∃ W, ((V57.setCell ⟨bq, 0, none⟩ (.slice B1 m1 d1)).setCell ⟨bq, 1, none⟩ (.slice B2 m2 d2)) = W := ⟨_, rfl⟩
          rw [hV58] at HS58 hq58 hp58 hH ⊢
          clear hV58
          have hp58 : Cells V58 bp 54 _ := hp58
          refine wpAnyH_done (by kernel_rfl) ?_ _
          refine NoPanic.normal ?_
          go_wp2_with fail
          go_meet
          exact ⟨_, _, rfl, rfl, hp58, hq58, HS58.out⟩
    case rest =>
      obtain ⟨bp, bq, rfl, rfl, hp, hq, hb⟩ := hcut
      clear e0 e1 e2 e3 HS0 HWD HSd HP
      have bw : Below w.heap.size w wc := HB4.out.trans (hb.mono HB4.out.size)
      have D := rightD_any (HK.out.1 wc bw)
      have p0 := hp.cell 0
      have p1 := hp.cell 1
      simp at p0 p1
      have HD5 := Lib.hid (And.intro D (And.intro bw (And.intro hp hq)))
      clear D bw hp hq hb
      go_wp2_with fail
      refine HD5.out.1.mono ?_
      rintro r w5 ⟨rfl, hb5⟩
      have bw := HD5.out.2.1.trans (hb5.mono HD5.out.2.1.size)
      have hp := HD5.out.2.2.1.on hb5
      have hq := HD5.out.2.2.2.on hb5
      clear p0 p1
      cases hr1 : rightT R T with
      | false =>
        have HB := Lib.hid bw
        clear bw hp hq hb5 hr1
        go_wp2_with fail
        go_ret
        exact ⟨rfl, HB.out⟩
      | true =>
      have D := rightD_any (HK.out.2.1 w5 bw)
      have q0 := hq.cell 0
      have q1 := hq.cell 1
      simp at q0 q1
      have HD6 := Lib.hid (And.intro D (And.intro bw (And.intro hp hq)))
      have HR1 := Lib.hid hr1
      clear D bw hp hq hb5 hr1
      go_wp2_with fail
      refine HD6.out.1.mono ?_
      rintro r w6 ⟨rfl, hb6⟩
      have bw := HD6.out.2.1.trans (hb6.mono HD6.out.2.1.size)
      have hp := HD6.out.2.2.1.on hb6
      have hq := HD6.out.2.2.2.on hb6
      clear q0 q1
      cases hr2 : rightT R' T' with
      | false =>
        have HB := Lib.hid bw
        clear bw hp hq hb6 hr2
        go_wp2_with fail
        go_ret
        exact ⟨rfl, HB.out⟩
      | true =>
      have p0 := hp.cell 0
      have p1 := hp.cell 1
      have q0 := hq.cell 0
      have q1 := hq.cell 1
      simp at p0 p1 q0 q1
      have al := below_new w6 (.cells #[.slice A1 n1 c1, .slice A2 n2 c2, .slice B1 m1 d1, .slice B2 m2 d2] 54)
      have cn := cells_new w6 #[.slice A1 n1 c1, .slice A2 n2 c2, .slice B1 m1 d1, .slice B2 m2 d2] 54
      have bal := bw.trans (al.mono bw.size)
      have t1 := HK.out.1 _ bal
      have t2 := HK.out.2.1 _ bal
      have hds : DsAt (w6.alloc (.cells #[.slice A1 n1 c1, .slice A2 n2 c2, .slice B1 m1 d1, .slice B2 m2 d2] 54)) (w6.alloc (.cells #[.slice A1 n1 c1, .slice A2 n2 c2, .slice B1 m1 d1, .slice B2 m2 d2] 54)).heap.size [(R, T), (R', T')] (some ⟨w6.heap.size, 0, none⟩) := by
        rw [← HN.out.1, ← HN.out.2.1, ← HN.out.2.2.1, ← HN.out.2.2.2] at cn t1 t2 ⊢
        exact ds_two cn t1 t2
      have C := groups_any [(R, T), (R', T')] (some ⟨w6.heap.size, 0, none⟩) 2 _ hds (by simp) (by simp) (HK.out.2.2 _ bal)
      have hok := grpOk_all [(R, T), (R', T')]
      have hf1 := groups_fit [(R, T), (R', T')] (t := (R, T)) (by simp) HR1.out
      have hf2 := groups_fit [(R, T), (R', T')] (t := (R', T')) (by simp) hr2
      have hge := fun (i j : Nat) hi hj => grp_eq [(R, T), (R', T')] (i := i) (j := j) hi hj
      obtain ⟨G, hG⟩ : ∃ G, groupsL [(R, T), (R', T')] = G := ⟨_, rfl⟩
      rw [hG] at C hok hf1 hf2 hge
      have hmz := hok.many.2
      have hps := many_parts hmz
      have hgi : ∀ x ∈ G, i64 x := fun x hx => by have := hps.2.1 x hx; have := hps.2.2.2; unfold i64; omega
      have HC := Lib.hid (And.intro C (And.intro bal (And.intro (hp.on al) (hq.on al))))
      have HG := Lib.hid (And.intro hok (And.intro hmz (And.intro hf1 (And.intro hf2 (And.intro hge hgi)))))
      have HR2 := Lib.hid hr2
      clear C bal al cn t1 t2 hds bw hp hq hb6 hr2 hG hok hf1 hf2 hge hmz hps hgi
      go_wp2_with fail
      refine HC.out.1.mono ?_
      rintro r w7 ⟨hb7, v7, rfl, gb, rfl, _, hg⟩
      have bw := HC.out.2.1.trans (hb7.mono HC.out.2.1.size)
      have hp := HC.out.2.2.1.on hb7
      have hq := HC.out.2.2.2.on hb7
      clear p0 p1 q0 q1
      have p0 := hp.cell 0
      have p1 := hp.cell 1
      simp at p0 p1
      have C := make_good G (some ⟨gb, 0, none⟩) G.length (cells_is hg (by rw [HG.out.1.l]; omega) HG.out.2.2.2.2.2) (HK.out.1 w7 bw) HG.out.2.1 HR1.out HG.out.2.2.1
      rw [HG.out.1.l, HN.out.1, HN.out.2.1] at C
      rw [HG.out.1.l]
      have HC7 := Lib.hid (And.intro C (And.intro bw (And.intro hp (And.intro hq hg))))
      clear C bw hp hq hg hb7
      go_wp2_with fail
      refine HC7.out.1.mono ?_
      rintro r w8 ⟨hb8, P0, f0, P1, f1, P2, f2, rfl, hN8⟩
      have bw := HC7.out.2.1.trans (hb8.mono HC7.out.2.1.size)
      have hp := HC7.out.2.2.1.on hb8
      have hq := HC7.out.2.2.2.1.on hb8
      have hg := HC7.out.2.2.2.2.on hb8
      have al := below_new w8 (.cells #[.slice P0 37 f0, .slice P1 n1 f1, .slice P2 n2 f2] 70)
      have y8 := cells_new w8 #[.slice P0 37 f0, .slice P1 n1 f1, .slice P2 n2 f2] 70
      have bal := bw.trans (al.mono bw.size)
      clear p0 p1
      have q0 := hq.cell 0
      have q1 := hq.cell 1
      simp at q0 q1
      have lq := hq.lt
      have C := make_good G (some ⟨gb, 0, none⟩) G.length (cells_is (hg.on al) (by rw [HG.out.1.l]; omega) HG.out.2.2.2.2.2) (HK.out.2.1 _ bal) HG.out.2.1 HR2.out HG.out.2.2.2.1
      rw [HG.out.1.l, HN.out.2.2.1, HN.out.2.2.2] at C
      have HC8 := Lib.hid (And.intro C (And.intro bal (And.intro (hp.on al) (And.intro (hq.on al) (And.intro (hg.on al) (And.intro y8 (hN8.on al)))))))
      clear C bal al bw hp hq hg y8 hN8 hb8
      go_wp2_with fail
      refine HC8.out.1.mono ?_
      rintro r w9 ⟨hb9, Q0, g0, Q1, g1, Q2, g2, rfl, hN9⟩
      have bw := HC8.out.2.1.trans (hb9.mono HC8.out.2.1.size)
      have hp := HC8.out.2.2.1.on hb9
      have hq := HC8.out.2.2.2.1.on hb9
      have hg := HC8.out.2.2.2.2.1.on hb9
      have y9 := HC8.out.2.2.2.2.2.1.on hb9
      have hN8 := HC8.out.2.2.2.2.2.2.on hb9
      have al := below_new w9 (.cells #[.slice Q0 37 g0, .slice Q1 m1 g1, .slice Q2 m2 g2] 70)
      have z9 := cells_new w9 #[.slice Q0 37 g0, .slice Q1 m1 g1, .slice Q2 m2 g2] 70
      have bal := bw.trans (al.mono bw.size)
      clear q0 q1 lq
      have y0 := y9.cell 0
      have y1 := y9.cell 1
      have y2 := y9.cell 2
      simp at y0 y1 y2
      have ly := y9.lt
      have C := wide_good (hN8.on al) HG.out.2.1 HR1.out HG.out.2.2.1
      rw [HN.out.1, HN.out.2.1] at C
      have HC9 := Lib.hid (And.intro C (And.intro bal (And.intro (hp.on al) (And.intro (hq.on al) (And.intro (hg.on al) (And.intro z9 (hN9.on al)))))))
      clear C bal al bw hp hq hg y9 z9 hN8 hN9 hb9
      go_wp2_with fail
      refine HC9.out.1.mono ?_
      rintro r w10 ⟨hb10, S0, s0, S1, s1, rfl, hT10⟩
      have bw := HC9.out.2.1.trans (hb10.mono HC9.out.2.1.size)
      have hp := HC9.out.2.2.1.on hb10
      have hq := HC9.out.2.2.2.1.on hb10
      have hg := HC9.out.2.2.2.2.1.on hb10
      have z10 := HC9.out.2.2.2.2.2.1.on hb10
      have hN9 := HC9.out.2.2.2.2.2.2.on hb10
      have al := below_new w10 (.cells #[.slice S0 n1 s0, .slice S1 n2 s1] 54)
      have u10 := cells_new w10 #[.slice S0 n1 s0, .slice S1 n2 s1] 54
      have bal := bw.trans (al.mono bw.size)
      clear y0 y1 y2 ly
      have y0 := z10.cell 0
      have y1 := z10.cell 1
      have y2 := z10.cell 2
      simp at y0 y1 y2
      have ly := z10.lt
      have C := wide_good (hN9.on al) HG.out.2.1 HR2.out HG.out.2.2.2.1
      rw [HN.out.2.2.1, HN.out.2.2.2] at C
      have HC10 := Lib.hid (And.intro C (And.intro bal (And.intro (hp.on al) (And.intro (hq.on al) (And.intro (hg.on al) (And.intro u10 (hT10.on al)))))))
      clear C bal al bw hp hq hg z10 u10 hN9 hT10 hb10
      go_wp2_with fail
      refine HC10.out.1.mono ?_
      rintro r w11 ⟨hb11, U0, u0, U1, u1, rfl, hT11⟩
      have bw := HC10.out.2.1.trans (hb11.mono HC10.out.2.1.size)
      have hp := HC10.out.2.2.1.on hb11
      have hq := HC10.out.2.2.2.1.on hb11
      have hg := HC10.out.2.2.2.2.1.on hb11
      have u11 := HC10.out.2.2.2.2.2.1.on hb11
      have hT10 := HC10.out.2.2.2.2.2.2.on hb11
      have al := below_new w11 (.cells #[.slice U0 m1 u0, .slice U1 m2 u1] 54)
      have o11 := cells_new w11 #[.slice U0 m1 u0, .slice U1 m2 u1] 54
      have bal := bw.trans (al.mono bw.size)
      clear y0 y1 y2 ly
      have y0 := u11.cell 0
      have y1 := u11.cell 1
      have p0 := hp.cell 0
      have p1 := hp.cell 1
      simp at y0 y1 p0 p1
      have ly := u11.lt
      have lp := hp.lt
      have C := sameD_any (hT10.on al) (HK.out.1 _ bal)
      rw [show (decide (R = R) && decide (T = T)) = true by simp] at C
      have HC11 := Lib.hid (And.intro C (And.intro bal (And.intro (hp.on al) (And.intro (hq.on al) (And.intro (hg.on al) (And.intro o11 (hT11.on al)))))))
      clear C bal al bw hp hq hg u11 o11 hT10 hT11 hb11
      go_wp2_with fail
      refine HC11.out.1.mono ?_
      rintro r w12 ⟨rfl, hb12⟩
      have bw := HC11.out.2.1.trans (hb12.mono HC11.out.2.1.size)
      have hp := HC11.out.2.2.1.on hb12
      have hq := HC11.out.2.2.2.1.on hb12
      have hg := HC11.out.2.2.2.2.1.on hb12
      have o12 := HC11.out.2.2.2.2.2.1.on hb12
      have hT11 := HC11.out.2.2.2.2.2.2.on hb12
      clear y0 y1 ly p0 p1 lp
      have y0 := o12.cell 0
      have y1 := o12.cell 1
      have q0 := hq.cell 0
      have q1 := hq.cell 1
      simp at y0 y1 q0 q1
      have C := sameD_any hT11 (HK.out.2.1 w12 bw)
      rw [show (decide (R' = R') && decide (T' = T')) = true by simp] at C
      have HC12 := Lib.hid (And.intro C (And.intro bw (And.intro hp (And.intro hq hg))))
      clear C bw hp hq hg o12 hT11 hb12
      go_wp2_with fail
      refine HC12.out.1.mono ?_
      rintro r wl ⟨rfl, hb13⟩
      have bw := HC12.out.2.1.trans (hb13.mono HC12.out.2.1.size)
      have hp := HC12.out.2.2.1.on hb13
      have hq := HC12.out.2.2.2.1.on hb13
      have hg := HC12.out.2.2.2.2.on hb13
      clear y0 y1 q0 q1
      obtain ⟨I, hI, eI⟩ := mod37 im
      obtain ⟨J, hJ, eJ⟩ := mod37 ik
      have HL := Lib.hid (And.intro bw (And.intro hp (And.intro hq hg)))
      clear bw hp hq hg hb13
      go_wp2_with fail
      rw [eI, eJ]
      have n20 : n1 ≤ 20 := by have := HG1.out.1; rw [HN.out.1] at this; exact this
      have m20 : m1 ≤ 20 := by have := HG2.out.1; rw [HN.out.2.2.1] at this; exact this
      go_loopw [22, 23] (fun s i wr => ∃ k : Nat, i = .int .i64 (k : Int) ∧ k ≤ n1 ∧ s = .bool (true && sameT R I J k) ∧ Below wl.heap.size wl wr) (fun _ i _ => n1 - (RowKit.intOf i).toNat)
      case atStart => exact ⟨0, rfl, by omega, by rfl, Below.refl _ _⟩
      case round =>
        obtain ⟨k, rfl, hk, rfl, hb⟩ := hrel
        have bw := HL.out.1.trans (hb.mono HL.out.1.size)
        have hp := HL.out.2.1.on hb
        have p0 := hp.cell 0
        simp at p0
        by_cases hlt : k < n1
        · have i1 : (k : Int) < (n1 : Int) := by omega
          obtain ⟨r, hr⟩ : ∃ r, R[k]? = some r := ⟨R[k]'(by rw [HN.out.1]; exact hlt), List.getElem?_eq_getElem _⟩
          have hst := sameT_step I J hr
          cases hs : (true && sameT R I J k) with
          | false =>
            have hend : ∀ W, Below wl.heap.size wl W → ∃ k' : Nat, Value.int .i64 ((k : Int) + 1) = .int .i64 (k' : Int) ∧ k' ≤ n1 ∧ Value.bool false = .bool (true && sameT R I J k') ∧ Below wl.heap.size wl W := fun W hW => ⟨k + 1, by simp, by omega, by rw [hst, ← Bool.and_assoc, hs]; rfl, hW⟩
            have HE := Lib.hid (And.intro hend hb)
            clear hend hb bw hp hr hst hs
            go_wp2_with fail
            go_quiet (fail)
            rename_i nq _
            have HEND := Lib.hid (HE.out.1 _ (below_drewN HE.out.2 nq))
            go_wp2_with fail
            go_roundw
            case rel => exact HEND.out
            case measure => simp [RowKit.intOf]; omega
          | true =>
            have hix : okIx R.length (k : Int) = true := by unfold okIx; rw [HN.out.1]; simp; exact hlt
            have KRI : ∀ W b, Below wr.heap.size wr W → Cells W b 3 #[.int .i64 (I : Int)] → Calls Tryd.prog 47 #[.agg #[.slice A1 n1 c1, .slice A2 n2 c2], .int .i64 (k : Int), .slice (some ⟨b, 0, none⟩) 1 1] W fun e w' => e = .returned (.int .i64 (r.getD I 0)) ∧ Below W.heap.size W w' := by
              intro W b hW hc
              have C := run_right (HK.out.1 W (bw.trans (hW.mono bw.size))) (k : Int) (nat64 (by have := (right_parts HR1.out).2.1; rw [HN.out.1] at this; omega)) [(I : Int)] (some ⟨b, 0, none⟩) 1 (cells_is hc (by simp) (fun x hx => by simp at hx; subst hx; unfold i64; omega)) HR1.out hix
              rw [run_one hr hI] at C
              exact C
            have KRJ : ∀ W b, Below wr.heap.size wr W → Cells W b 3 #[.int .i64 (J : Int)] → Calls Tryd.prog 47 #[.agg #[.slice A1 n1 c1, .slice A2 n2 c2], .int .i64 (k : Int), .slice (some ⟨b, 0, none⟩) 1 1] W fun e w' => e = .returned (.int .i64 (r.getD J 0)) ∧ Below W.heap.size W w' := by
              intro W b hW hc
              have C := run_right (HK.out.1 W (bw.trans (hW.mono bw.size))) (k : Int) (nat64 (by have := (right_parts HR1.out).2.1; rw [HN.out.1] at this; omega)) [(J : Int)] (some ⟨b, 0, none⟩) 1 (cells_is hc (by simp) (fun x hx => by simp at hx; subst hx; unfold i64; omega)) HR1.out hix
              rw [run_one hr hJ] at C
              exact C
            obtain ⟨xI, hxI⟩ : ∃ x, r.getD I 0 = x := ⟨_, rfl⟩
            obtain ⟨xJ, hxJ⟩ : ∃ x, r.getD J 0 = x := ⟨_, rfl⟩
            rw [hxI] at KRI hst
            rw [hxJ] at KRJ hst
            have q1 := hp.cell 1
            simp at q1
            have HRI := Lib.hid KRI
            have HRJ := Lib.hid KRJ
            have HPP := Lib.hid (And.intro hp.lt (And.intro p0 q1))
            obtain ⟨eq, heq⟩ : ∃ b, (xI == xJ) = b := ⟨_, rfl⟩
            have hj : ∀ W, Below wr.heap.size wr W → ∃ k' : Nat, Value.int .i64 ((k : Int) + 1) = .int .i64 (k' : Int) ∧ k' ≤ n1 ∧ Value.bool eq = .bool (true && sameT R I J k') ∧ Below wl.heap.size wl W := fun W hW => ⟨k + 1, by simp, by omega, by rw [hst, ← Bool.and_assoc, hs, ← heq, Bool.true_and]; congr 1, hb.trans (hW.mono hb.size)⟩
            have HJ := Lib.hid hj
            have HS0 := Lib.hid (show Below wr.heap.size wr wr.drew from (Below.refl _ _).drew)
            obtain ⟨wd, hwd⟩ : ∃ W, wr.drew = W := ⟨_, rfl⟩
            have HWD := Lib.hid hwd
            have HSd := Lib.hid (show Below wr.heap.size wr wd by rw [← hwd]; exact HS0.out)
            clear KRI KRJ hj hb bw hp hr hst hs hix hxI hxJ hwd q1
            go_wp2_with fail
            clear p0
            refine wp_region_noPanic ?_
            refine wp_region_held_drew (S := fun W => Below wr.heap.size wr W) (by kernel_rfl) HS0.out (fun hH => ?_)
            rw [HWD.out]
            have hH := HSd.out
            refine wpAnyH_take (i := 0) (oi := { dst := some 118, op := Op.move (Operand.tmp 22), type := 4, pos := "law.go:107", after := #[], guard := none }) (v := ?_) rfl (by kernel_rfl) (by kernel_rfl) (by kernel_rfl) (fun _ _ _ h => h) (Or.inl ⟨by rfl, ?_⟩) (by exact hH) ?_
            rotate_left
            · intro W hSw
              go_simp
              try with_reducible rfl
            try simp only [Act.put, List.setIfInBounds_toArray, List.set_cons_zero, List.set_cons_succ]
            refine wpAnyH_take (i := 1) (oi := { dst := some 119, op := Op.move (Operand.tmp 118), type := 4, pos := "law.go:107", after := #[{ on := 0, ground := Ground.data }], guard := none }) (v := ?_) rfl (by kernel_rfl) (by kernel_rfl) (by kernel_rfl) (fun _ _ _ h => h) (Or.inl ⟨by rfl, ?_⟩) (by exact hH) ?_
            rotate_left
            · intro W hSw
              go_simp
              try with_reducible rfl
            try simp only [Act.put, List.setIfInBounds_toArray, List.set_cons_zero, List.set_cons_succ]
            refine wpAnyH_take (i := 2) (oi := { dst := some 120, op := Op.load 54 (Operand.tmp 9), type := 54, pos := "law.go:107", after := #[{ on := 1, ground := Ground.guard }], guard := some (1, true) }) (v := ?_) rfl (by kernel_rfl) (by kernel_rfl) (by kernel_rfl) (fun _ _ _ h => h) (Or.inl ⟨by rfl, ?_⟩) (by exact hH) ?_
            rotate_left
            · intro W hSw
              have p0 : W.cell? ⟨bp, 0, none⟩ = some (.slice A1 n1 c1) := (hSw.cell (p := ⟨bp, 0, none⟩) HPP.out.1).trans HPP.out.2.1
              have p1 : W.cell? ⟨bp, 1, none⟩ = some (.slice A2 n2 c2) := (hSw.cell (p := ⟨bp, 1, none⟩) HPP.out.1).trans HPP.out.2.2
              go_simp
              try with_reducible rfl
            try simp only [Act.put, List.setIfInBounds_toArray, List.set_cons_zero, List.set_cons_succ]
            refine wpAnyH_take (i := 3) (oi := { dst := some 121, op := Op.move (Operand.tmp 23), type := 3, pos := "law.go:107", after := #[{ on := 1, ground := Ground.guard }], guard := some (1, true) }) (v := ?_) rfl (by kernel_rfl) (by kernel_rfl) (by kernel_rfl) (fun _ _ _ h => h) (Or.inl ⟨by rfl, ?_⟩) (by exact hH) ?_
            rotate_left
            · intro W hSw
              go_simp
              try with_reducible rfl
            try simp only [Act.put, List.setIfInBounds_toArray, List.set_cons_zero, List.set_cons_succ]
            refine wpAnyH_take (i := 4) (oi := { dst := some 122, op := Op.move (Operand.tmp 20), type := 3, pos := "law.go:107", after := #[{ on := 1, ground := Ground.guard }], guard := some (1, true) }) (v := ?_) rfl (by kernel_rfl) (by kernel_rfl) (by kernel_rfl) (fun _ _ _ h => h) (Or.inl ⟨by rfl, ?_⟩) (by exact hH) ?_
            rotate_left
            · intro W hSw
              go_simp
              try with_reducible rfl
            try simp only [Act.put, List.setIfInBounds_toArray, List.set_cons_zero, List.set_cons_succ]
            refine wpAnyH_take (i := 7) (oi := { dst := some 125, op := Op.load 54 (Operand.tmp 9), type := 54, pos := "law.go:107", after := #[{ on := 1, ground := Ground.guard }], guard := some (1, true) }) (v := ?_) rfl (by kernel_rfl) (by kernel_rfl) (by kernel_rfl) (fun _ _ _ h => h) (Or.inl ⟨by rfl, ?_⟩) (by exact hH) ?_
            rotate_left
            · intro W hSw
              have p0 : W.cell? ⟨bp, 0, none⟩ = some (.slice A1 n1 c1) := (hSw.cell (p := ⟨bp, 0, none⟩) HPP.out.1).trans HPP.out.2.1
              have p1 : W.cell? ⟨bp, 1, none⟩ = some (.slice A2 n2 c2) := (hSw.cell (p := ⟨bp, 1, none⟩) HPP.out.1).trans HPP.out.2.2
              go_simp
              try with_reducible rfl
            try simp only [Act.put, List.setIfInBounds_toArray, List.set_cons_zero, List.set_cons_succ]
            refine wpAnyH_take (i := 8) (oi := { dst := some 126, op := Op.move (Operand.tmp 23), type := 3, pos := "law.go:107", after := #[{ on := 1, ground := Ground.guard }], guard := some (1, true) }) (v := ?_) rfl (by kernel_rfl) (by kernel_rfl) (by kernel_rfl) (fun _ _ _ h => h) (Or.inl ⟨by rfl, ?_⟩) (by exact hH) ?_
            rotate_left
            · intro W hSw
              go_simp
              try with_reducible rfl
            try simp only [Act.put, List.setIfInBounds_toArray, List.set_cons_zero, List.set_cons_succ]
            refine wpAnyH_take (i := 9) (oi := { dst := some 127, op := Op.move (Operand.tmp 21), type := 3, pos := "law.go:107", after := #[{ on := 1, ground := Ground.guard }], guard := some (1, true) }) (v := ?_) rfl (by kernel_rfl) (by kernel_rfl) (by kernel_rfl) (fun _ _ _ h => h) (Or.inl ⟨by rfl, ?_⟩) (by exact hH) ?_
            rotate_left
            · intro W hSw
              go_simp
              try with_reducible rfl
            try simp only [Act.put, List.setIfInBounds_toArray, List.set_cons_zero, List.set_cons_succ]
            refine wpAnyH_ready (rs := [5, 10]) (by kernel_rfl) (by simp) ?_
            refine (AllReadyH.cons (o := { dst := some 123, op := Op.buildSlice 23 1 #[(0, Operand.tmp 122)], type := 23, pos := "law.go:107", after := #[{ on := 4, ground := Ground.data }, { on := 1, ground := Ground.guard }], guard := some (1, true) }) rfl (fun K hK => ?_) (AllReadyH.cons (o := { dst := some 128, op := Op.buildSlice 23 1 #[(0, Operand.tmp 127)], type := 23, pos := "law.go:107", after := #[{ on := 9, ground := Ground.data }, { on := 1, ground := Ground.guard }], guard := some (1, true) }) rfl (fun K hK => ?_) AllReadyH.nil))
            ·
              go_simp
              have HS1 := Lib.hid (HSd.out.alloc HSd.out.size (.cells #[.int .i64 (I : Int)] 3))
              have z51 := cells_new wd #[.int .i64 (I : Int)] 3
              refine hK.out _ _ HS1.out (fun hH => ?_)
              clear hK K
              try simp only [Act.put, List.setIfInBounds_toArray, List.set_cons_zero, List.set_cons_succ]
              obtain ⟨k5, hk5⟩ : ∃ b, wd.heap.size = b := ⟨_, rfl⟩
              obtain ⟨V1, hV1⟩ : ∃ W, wd.alloc (.cells #[.int .i64 (I : Int)] 3) = W := ⟨_, rfl⟩
              rw [hV1] at HS1 z51 hH ⊢
              rw [hk5] at z51 ⊢
              clear hV1 hk5
              refine wpAnyH_ready (rs := [6, 10]) (by kernel_rfl) (by simp) ?_
              refine (AllReadyH.cons (o := { dst := some 124, op := Op.call { callee := Callee.value (Operand.func 47), args := #[Operand.tmp 120, Operand.tmp 121, Operand.tmp 123], argTypes := #[54, 3, 23] }, type := 3, pos := "law.go:107", after := #[{ on := 2, ground := Ground.data }, { on := 3, ground := Ground.data }, { on := 5, ground := Ground.data }, { on := 1, ground := Ground.chain }, { on := 1, ground := Ground.guard }], guard := some (1, true) }) rfl (fun K hK => ?_) (AllReadyH.cons (o := { dst := some 128, op := Op.buildSlice 23 1 #[(0, Operand.tmp 127)], type := 23, pos := "law.go:107", after := #[{ on := 9, ground := Ground.data }, { on := 1, ground := Ground.guard }], guard := some (1, true) }) rfl (fun K hK => ?_) AllReadyH.nil))
              ·
                go_simp
                go_at_call 47
                refine (HRI.out _ _ HS1.out z51).mono ?_
                rintro e V2 ⟨rfl, hbk⟩
                have HS2 := Lib.hid (HS1.out.trans (hbk.mono HS1.out.size))
                clear hbk
                try go_wp2_with fail
                refine hK.out _ _ HS2.out (fun hH => ?_)
                clear hK K
                try simp only [Act.put, List.setIfInBounds_toArray, List.set_cons_zero, List.set_cons_succ]
                refine wpAnyH_ready (rs := [10]) (by kernel_rfl) (by simp) ?_
                refine (AllReadyH.cons (o := { dst := some 128, op := Op.buildSlice 23 1 #[(0, Operand.tmp 127)], type := 23, pos := "law.go:107", after := #[{ on := 9, ground := Ground.data }, { on := 1, ground := Ground.guard }], guard := some (1, true) }) rfl (fun K hK => ?_) AllReadyH.nil)
                go_simp
                have HS3 := Lib.hid (HS2.out.alloc HS2.out.size (.cells #[.int .i64 (J : Int)] 3))
                have zX3 := cells_new V2 #[.int .i64 (J : Int)] 3
                refine hK.out _ _ HS3.out (fun hH => ?_)
                clear hK K
                try simp only [Act.put, List.setIfInBounds_toArray, List.set_cons_zero, List.set_cons_succ]
                obtain ⟨kX, hkX⟩ : ∃ b, V2.heap.size = b := ⟨_, rfl⟩
                obtain ⟨V3, hV3⟩ : ∃ W, V2.alloc (.cells #[.int .i64 (J : Int)] 3) = W := ⟨_, rfl⟩
                rw [hV3] at HS3 zX3 hH ⊢
                rw [hkX] at zX3 ⊢
                clear hV3 hkX
                refine wpAnyH_ready (rs := [11]) (by kernel_rfl) (by simp) ?_
                refine (AllReadyH.cons (o := { dst := some 129, op := Op.call { callee := Callee.value (Operand.func 47), args := #[Operand.tmp 125, Operand.tmp 126, Operand.tmp 128], argTypes := #[54, 3, 23] }, type := 3, pos := "law.go:107", after := #[{ on := 7, ground := Ground.data }, { on := 8, ground := Ground.data }, { on := 10, ground := Ground.data }, { on := 6, ground := Ground.chain }, { on := 1, ground := Ground.guard }], guard := some (1, true) }) rfl (fun K hK => ?_) AllReadyH.nil)
                go_simp
                go_at_call 47
                refine (HRJ.out _ _ HS3.out zX3).mono ?_
                rintro e V4 ⟨rfl, hbk⟩
                have HS4 := Lib.hid (HS3.out.trans (hbk.mono HS3.out.size))
                clear hbk
                try go_wp2_with fail
                refine hK.out _ _ HS4.out (fun hH => ?_)
                clear hK K
                try simp only [Act.put, List.setIfInBounds_toArray, List.set_cons_zero, List.set_cons_succ]
                refine wpAnyH_take (i := 12) (oi := { dst := some 130, op := Op.binOp BinOp.eql 3 (Operand.tmp 124) (Operand.tmp 129) 3, type := 4, pos := "law.go:107", after := #[{ on := 6, ground := Ground.data }, { on := 11, ground := Ground.data }, { on := 1, ground := Ground.guard }], guard := some (1, true) }) (v := ?_) rfl (by kernel_rfl) (by kernel_rfl) (by kernel_rfl) (fun _ _ _ h => h) (Or.inl ⟨by rfl, ?_⟩) (by exact hH) ?_
                rotate_left
                · intro W hSw
                  go_simp
                  try with_reducible rfl
                try simp only [Act.put, List.setIfInBounds_toArray, List.set_cons_zero, List.set_cons_succ]
                refine wpAnyH_take (i := 13) (oi := { dst := some 131, op := Op.pick (Operand.tmp 119) (Operand.tmp 130) (Operand.const (Value.bool false)), type := 4, pos := "law.go:107", after := #[{ on := 1, ground := Ground.data }, { on := 12, ground := Ground.data }], guard := none }) (v := ?_) rfl (by kernel_rfl) (by kernel_rfl) (by kernel_rfl) (fun _ _ _ h => h) (Or.inl ⟨by rfl, ?_⟩) (by exact hH) ?_
                rotate_left
                · intro W hSw
                  go_simp
                  try with_reducible rfl
                try simp only [Act.put, List.setIfInBounds_toArray, List.set_cons_zero, List.set_cons_succ]
                refine wpAnyH_take (i := 14) (oi := { dst := some 22, op := Op.assign (Operand.tmp 131), type := 4, pos := "law.go:107", after := #[{ on := 13, ground := Ground.data }, { on := 11, ground := Ground.chain }, { on := 0, ground := Ground.phase }, { on := 1, ground := Ground.phase }, { on := 2, ground := Ground.phase }, { on := 3, ground := Ground.phase }, { on := 4, ground := Ground.phase }, { on := 5, ground := Ground.phase }, { on := 6, ground := Ground.phase }, { on := 7, ground := Ground.phase }, { on := 8, ground := Ground.phase }, { on := 9, ground := Ground.phase }, { on := 10, ground := Ground.phase }, { on := 11, ground := Ground.phase }, { on := 12, ground := Ground.phase }, { on := 13, ground := Ground.phase }], guard := none }) (v := ?_) rfl (by kernel_rfl) (by kernel_rfl) (by kernel_rfl) (fun _ _ _ h => h) (Or.inl ⟨by rfl, ?_⟩) (by exact hH) ?_
                rotate_left
                · intro W hSw
                  go_simp
                  try with_reducible rfl
                try simp only [Act.put, List.setIfInBounds_toArray, List.set_cons_zero, List.set_cons_succ]
                refine wpAnyH_done (by kernel_rfl) ?_ _
                refine NoPanic.normal ?_
                have HEND := Lib.hid (HJ.out _ HS4.out)
                go_wp2_with fail
                go_roundw
                case rel => exact HEND.out
                case measure => simp [RowKit.intOf]; omega
              ·
                go_simp
                have HS5 := Lib.hid (HS1.out.alloc HS1.out.size (.cells #[.int .i64 (J : Int)] 3))
                have zX5 := cells_new V1 #[.int .i64 (J : Int)] 3
                have z55 := z51.on (below_new _ (.cells #[.int .i64 (J : Int)] 3))
                refine hK.out _ _ HS5.out (fun hH => ?_)
                clear hK K
                try simp only [Act.put, List.setIfInBounds_toArray, List.set_cons_zero, List.set_cons_succ]
                obtain ⟨kX, hkX⟩ : ∃ b, V1.heap.size = b := ⟨_, rfl⟩
                obtain ⟨V5, hV5⟩ : ∃ W, V1.alloc (.cells #[.int .i64 (J : Int)] 3) = W := ⟨_, rfl⟩
                rw [hV5] at HS5 zX5 z55 hH ⊢
                rw [hkX] at zX5 ⊢
                clear hV5 hkX
                refine wpAnyH_ready (rs := [6]) (by kernel_rfl) (by simp) ?_
                refine (AllReadyH.cons (o := { dst := some 124, op := Op.call { callee := Callee.value (Operand.func 47), args := #[Operand.tmp 120, Operand.tmp 121, Operand.tmp 123], argTypes := #[54, 3, 23] }, type := 3, pos := "law.go:107", after := #[{ on := 2, ground := Ground.data }, { on := 3, ground := Ground.data }, { on := 5, ground := Ground.data }, { on := 1, ground := Ground.chain }, { on := 1, ground := Ground.guard }], guard := some (1, true) }) rfl (fun K hK => ?_) AllReadyH.nil)
                go_simp
                go_at_call 47
                refine (HRI.out _ _ HS5.out z55).mono ?_
                rintro e V6 ⟨rfl, hbk⟩
                have HS6 := Lib.hid (HS5.out.trans (hbk.mono HS5.out.size))
                have zX6 := zX5.on hbk
                clear hbk
                try go_wp2_with fail
                refine hK.out _ _ HS6.out (fun hH => ?_)
                clear hK K
                try simp only [Act.put, List.setIfInBounds_toArray, List.set_cons_zero, List.set_cons_succ]
                refine wpAnyH_ready (rs := [11]) (by kernel_rfl) (by simp) ?_
                refine (AllReadyH.cons (o := { dst := some 129, op := Op.call { callee := Callee.value (Operand.func 47), args := #[Operand.tmp 125, Operand.tmp 126, Operand.tmp 128], argTypes := #[54, 3, 23] }, type := 3, pos := "law.go:107", after := #[{ on := 7, ground := Ground.data }, { on := 8, ground := Ground.data }, { on := 10, ground := Ground.data }, { on := 6, ground := Ground.chain }, { on := 1, ground := Ground.guard }], guard := some (1, true) }) rfl (fun K hK => ?_) AllReadyH.nil)
                go_simp
                go_at_call 47
                refine (HRJ.out _ _ HS6.out zX6).mono ?_
                rintro e V7 ⟨rfl, hbk⟩
                have HS7 := Lib.hid (HS6.out.trans (hbk.mono HS6.out.size))
                clear hbk
                try go_wp2_with fail
                refine hK.out _ _ HS7.out (fun hH => ?_)
                clear hK K
                try simp only [Act.put, List.setIfInBounds_toArray, List.set_cons_zero, List.set_cons_succ]
                refine wpAnyH_take (i := 12) (oi := { dst := some 130, op := Op.binOp BinOp.eql 3 (Operand.tmp 124) (Operand.tmp 129) 3, type := 4, pos := "law.go:107", after := #[{ on := 6, ground := Ground.data }, { on := 11, ground := Ground.data }, { on := 1, ground := Ground.guard }], guard := some (1, true) }) (v := ?_) rfl (by kernel_rfl) (by kernel_rfl) (by kernel_rfl) (fun _ _ _ h => h) (Or.inl ⟨by rfl, ?_⟩) (by exact hH) ?_
                rotate_left
                · intro W hSw
                  go_simp
                  try with_reducible rfl
                try simp only [Act.put, List.setIfInBounds_toArray, List.set_cons_zero, List.set_cons_succ]
                refine wpAnyH_take (i := 13) (oi := { dst := some 131, op := Op.pick (Operand.tmp 119) (Operand.tmp 130) (Operand.const (Value.bool false)), type := 4, pos := "law.go:107", after := #[{ on := 1, ground := Ground.data }, { on := 12, ground := Ground.data }], guard := none }) (v := ?_) rfl (by kernel_rfl) (by kernel_rfl) (by kernel_rfl) (fun _ _ _ h => h) (Or.inl ⟨by rfl, ?_⟩) (by exact hH) ?_
                rotate_left
                · intro W hSw
                  go_simp
                  try with_reducible rfl
                try simp only [Act.put, List.setIfInBounds_toArray, List.set_cons_zero, List.set_cons_succ]
                refine wpAnyH_take (i := 14) (oi := { dst := some 22, op := Op.assign (Operand.tmp 131), type := 4, pos := "law.go:107", after := #[{ on := 13, ground := Ground.data }, { on := 11, ground := Ground.chain }, { on := 0, ground := Ground.phase }, { on := 1, ground := Ground.phase }, { on := 2, ground := Ground.phase }, { on := 3, ground := Ground.phase }, { on := 4, ground := Ground.phase }, { on := 5, ground := Ground.phase }, { on := 6, ground := Ground.phase }, { on := 7, ground := Ground.phase }, { on := 8, ground := Ground.phase }, { on := 9, ground := Ground.phase }, { on := 10, ground := Ground.phase }, { on := 11, ground := Ground.phase }, { on := 12, ground := Ground.phase }, { on := 13, ground := Ground.phase }], guard := none }) (v := ?_) rfl (by kernel_rfl) (by kernel_rfl) (by kernel_rfl) (fun _ _ _ h => h) (Or.inl ⟨by rfl, ?_⟩) (by exact hH) ?_
                rotate_left
                · intro W hSw
                  go_simp
                  try with_reducible rfl
                try simp only [Act.put, List.setIfInBounds_toArray, List.set_cons_zero, List.set_cons_succ]
                refine wpAnyH_done (by kernel_rfl) ?_ _
                refine NoPanic.normal ?_
                have HEND := Lib.hid (HJ.out _ HS7.out)
                go_wp2_with fail
                go_roundw
                case rel => exact HEND.out
                case measure => simp [RowKit.intOf]; omega
            ·
              go_simp
              have HS8 := Lib.hid (HSd.out.alloc HSd.out.size (.cells #[.int .i64 (J : Int)] 3))
              have zX8 := cells_new wd #[.int .i64 (J : Int)] 3
              refine hK.out _ _ HS8.out (fun hH => ?_)
              clear hK K
              try simp only [Act.put, List.setIfInBounds_toArray, List.set_cons_zero, List.set_cons_succ]
              obtain ⟨kX, hkX⟩ : ∃ b, wd.heap.size = b := ⟨_, rfl⟩
              obtain ⟨V8, hV8⟩ : ∃ W, wd.alloc (.cells #[.int .i64 (J : Int)] 3) = W := ⟨_, rfl⟩
              rw [hV8] at HS8 zX8 hH ⊢
              rw [hkX] at zX8 ⊢
              clear hV8 hkX
              refine wpAnyH_ready (rs := [5]) (by kernel_rfl) (by simp) ?_
              refine (AllReadyH.cons (o := { dst := some 123, op := Op.buildSlice 23 1 #[(0, Operand.tmp 122)], type := 23, pos := "law.go:107", after := #[{ on := 4, ground := Ground.data }, { on := 1, ground := Ground.guard }], guard := some (1, true) }) rfl (fun K hK => ?_) AllReadyH.nil)
              go_simp
              have HS9 := Lib.hid (HS8.out.alloc HS8.out.size (.cells #[.int .i64 (I : Int)] 3))
              have z59 := cells_new V8 #[.int .i64 (I : Int)] 3
              have zX9 := zX8.on (below_new _ (.cells #[.int .i64 (I : Int)] 3))
              refine hK.out _ _ HS9.out (fun hH => ?_)
              clear hK K
              try simp only [Act.put, List.setIfInBounds_toArray, List.set_cons_zero, List.set_cons_succ]
              obtain ⟨k5, hk5⟩ : ∃ b, V8.heap.size = b := ⟨_, rfl⟩
              obtain ⟨V9, hV9⟩ : ∃ W, V8.alloc (.cells #[.int .i64 (I : Int)] 3) = W := ⟨_, rfl⟩
              rw [hV9] at HS9 z59 zX9 hH ⊢
              rw [hk5] at z59 ⊢
              clear hV9 hk5
              refine wpAnyH_ready (rs := [6]) (by kernel_rfl) (by simp) ?_
              refine (AllReadyH.cons (o := { dst := some 124, op := Op.call { callee := Callee.value (Operand.func 47), args := #[Operand.tmp 120, Operand.tmp 121, Operand.tmp 123], argTypes := #[54, 3, 23] }, type := 3, pos := "law.go:107", after := #[{ on := 2, ground := Ground.data }, { on := 3, ground := Ground.data }, { on := 5, ground := Ground.data }, { on := 1, ground := Ground.chain }, { on := 1, ground := Ground.guard }], guard := some (1, true) }) rfl (fun K hK => ?_) AllReadyH.nil)
              go_simp
              go_at_call 47
              refine (HRI.out _ _ HS9.out z59).mono ?_
              rintro e V10 ⟨rfl, hbk⟩
              have HS10 := Lib.hid (HS9.out.trans (hbk.mono HS9.out.size))
              have zX10 := zX9.on hbk
              clear hbk
              try go_wp2_with fail
              refine hK.out _ _ HS10.out (fun hH => ?_)
              clear hK K
              try simp only [Act.put, List.setIfInBounds_toArray, List.set_cons_zero, List.set_cons_succ]
              refine wpAnyH_ready (rs := [11]) (by kernel_rfl) (by simp) ?_
              refine (AllReadyH.cons (o := { dst := some 129, op := Op.call { callee := Callee.value (Operand.func 47), args := #[Operand.tmp 125, Operand.tmp 126, Operand.tmp 128], argTypes := #[54, 3, 23] }, type := 3, pos := "law.go:107", after := #[{ on := 7, ground := Ground.data }, { on := 8, ground := Ground.data }, { on := 10, ground := Ground.data }, { on := 6, ground := Ground.chain }, { on := 1, ground := Ground.guard }], guard := some (1, true) }) rfl (fun K hK => ?_) AllReadyH.nil)
              go_simp
              go_at_call 47
              refine (HRJ.out _ _ HS10.out zX10).mono ?_
              rintro e V11 ⟨rfl, hbk⟩
              have HS11 := Lib.hid (HS10.out.trans (hbk.mono HS10.out.size))
              clear hbk
              try go_wp2_with fail
              refine hK.out _ _ HS11.out (fun hH => ?_)
              clear hK K
              try simp only [Act.put, List.setIfInBounds_toArray, List.set_cons_zero, List.set_cons_succ]
              refine wpAnyH_take (i := 12) (oi := { dst := some 130, op := Op.binOp BinOp.eql 3 (Operand.tmp 124) (Operand.tmp 129) 3, type := 4, pos := "law.go:107", after := #[{ on := 6, ground := Ground.data }, { on := 11, ground := Ground.data }, { on := 1, ground := Ground.guard }], guard := some (1, true) }) (v := ?_) rfl (by kernel_rfl) (by kernel_rfl) (by kernel_rfl) (fun _ _ _ h => h) (Or.inl ⟨by rfl, ?_⟩) (by exact hH) ?_
              rotate_left
              · intro W hSw
                go_simp
                try with_reducible rfl
              try simp only [Act.put, List.setIfInBounds_toArray, List.set_cons_zero, List.set_cons_succ]
              refine wpAnyH_take (i := 13) (oi := { dst := some 131, op := Op.pick (Operand.tmp 119) (Operand.tmp 130) (Operand.const (Value.bool false)), type := 4, pos := "law.go:107", after := #[{ on := 1, ground := Ground.data }, { on := 12, ground := Ground.data }], guard := none }) (v := ?_) rfl (by kernel_rfl) (by kernel_rfl) (by kernel_rfl) (fun _ _ _ h => h) (Or.inl ⟨by rfl, ?_⟩) (by exact hH) ?_
              rotate_left
              · intro W hSw
                go_simp
                try with_reducible rfl
              try simp only [Act.put, List.setIfInBounds_toArray, List.set_cons_zero, List.set_cons_succ]
              refine wpAnyH_take (i := 14) (oi := { dst := some 22, op := Op.assign (Operand.tmp 131), type := 4, pos := "law.go:107", after := #[{ on := 13, ground := Ground.data }, { on := 11, ground := Ground.chain }, { on := 0, ground := Ground.phase }, { on := 1, ground := Ground.phase }, { on := 2, ground := Ground.phase }, { on := 3, ground := Ground.phase }, { on := 4, ground := Ground.phase }, { on := 5, ground := Ground.phase }, { on := 6, ground := Ground.phase }, { on := 7, ground := Ground.phase }, { on := 8, ground := Ground.phase }, { on := 9, ground := Ground.phase }, { on := 10, ground := Ground.phase }, { on := 11, ground := Ground.phase }, { on := 12, ground := Ground.phase }, { on := 13, ground := Ground.phase }], guard := none }) (v := ?_) rfl (by kernel_rfl) (by kernel_rfl) (by kernel_rfl) (fun _ _ _ h => h) (Or.inl ⟨by rfl, ?_⟩) (by exact hH) ?_
              rotate_left
              · intro W hSw
                go_simp
                try with_reducible rfl
              try simp only [Act.put, List.setIfInBounds_toArray, List.set_cons_zero, List.set_cons_succ]
              refine wpAnyH_done (by kernel_rfl) ?_ _
              refine NoPanic.normal ?_
              have HEND := Lib.hid (HJ.out _ HS11.out)
              go_wp2_with fail
              go_roundw
              case rel => exact HEND.out
              case measure => simp [RowKit.intOf]; omega
        · obtain rfl : k = n1 := by omega
          have i1 : ¬ (k : Int) < (k : Int) := by omega
          obtain ⟨SB, hSB⟩ : ∃ b, (true && sameT R I J k) = b := ⟨_, rfl⟩
          rw [hSB]
          have HSB := Lib.hid hSB
          clear hSB hp bw
          have HB1 := Lib.hid hb
          clear hb
          go_wp2_with fail
          clear p0
          go_loopw [22, 24] (fun s i wr => ∃ k : Nat, i = .int .i64 (k : Int) ∧ k ≤ m1 ∧ s = .bool (SB && sameT R' I J k) ∧ Below wl.heap.size wl wr) (fun _ i _ => m1 - (RowKit.intOf i).toNat)
          case atStart => exact ⟨0, rfl, by omega, by show Value.bool SB = .bool (SB && sameT R' I J 0); rw [sameT_zero, Bool.and_true], HB1.out⟩
          case round =>
            obtain ⟨k, rfl, hk, rfl, hb⟩ := hrel
            have bw := HL.out.1.trans (hb.mono HL.out.1.size)
            have hp := HL.out.2.2.1.on hb
            have p0 := hp.cell 0
            simp at p0
            by_cases hlt : k < m1
            · have i1 : (k : Int) < (m1 : Int) := by omega
              obtain ⟨r, hr⟩ : ∃ r, R'[k]? = some r := ⟨R'[k]'(by rw [HN.out.2.2.1]; exact hlt), List.getElem?_eq_getElem _⟩
              have hst := sameT_step I J hr
              cases hs : (SB && sameT R' I J k) with
              | false =>
                have hend : ∀ W, Below wl.heap.size wl W → ∃ k' : Nat, Value.int .i64 ((k : Int) + 1) = .int .i64 (k' : Int) ∧ k' ≤ m1 ∧ Value.bool false = .bool (SB && sameT R' I J k') ∧ Below wl.heap.size wl W := fun W hW => ⟨k + 1, by simp, by omega, by rw [hst, ← Bool.and_assoc, hs]; rfl, hW⟩
                have HE := Lib.hid (And.intro hend hb)
                clear hend hb bw hp hr hst hs
                go_wp2_with fail
                go_quiet (fail)
                rename_i nq _
                have HEND := Lib.hid (HE.out.1 _ (below_drewN HE.out.2 nq))
                go_wp2_with fail
                go_roundw
                case rel => exact HEND.out
                case measure => simp [RowKit.intOf]; omega
              | true =>
                have hix : okIx R'.length (k : Int) = true := by unfold okIx; rw [HN.out.2.2.1]; simp; exact hlt
                have KRI : ∀ W b, Below wr.heap.size wr W → Cells W b 3 #[.int .i64 (I : Int)] → Calls Tryd.prog 47 #[.agg #[.slice B1 m1 d1, .slice B2 m2 d2], .int .i64 (k : Int), .slice (some ⟨b, 0, none⟩) 1 1] W fun e w' => e = .returned (.int .i64 (r.getD I 0)) ∧ Below W.heap.size W w' := by
                  intro W b hW hc
                  have C := run_right (HK.out.2.1 W (bw.trans (hW.mono bw.size))) (k : Int) (nat64 (by have := (right_parts HR2.out).2.1; rw [HN.out.2.2.1] at this; omega)) [(I : Int)] (some ⟨b, 0, none⟩) 1 (cells_is hc (by simp) (fun x hx => by simp at hx; subst hx; unfold i64; omega)) HR2.out hix
                  rw [run_one hr hI] at C
                  exact C
                have KRJ : ∀ W b, Below wr.heap.size wr W → Cells W b 3 #[.int .i64 (J : Int)] → Calls Tryd.prog 47 #[.agg #[.slice B1 m1 d1, .slice B2 m2 d2], .int .i64 (k : Int), .slice (some ⟨b, 0, none⟩) 1 1] W fun e w' => e = .returned (.int .i64 (r.getD J 0)) ∧ Below W.heap.size W w' := by
                  intro W b hW hc
                  have C := run_right (HK.out.2.1 W (bw.trans (hW.mono bw.size))) (k : Int) (nat64 (by have := (right_parts HR2.out).2.1; rw [HN.out.2.2.1] at this; omega)) [(J : Int)] (some ⟨b, 0, none⟩) 1 (cells_is hc (by simp) (fun x hx => by simp at hx; subst hx; unfold i64; omega)) HR2.out hix
                  rw [run_one hr hJ] at C
                  exact C
                obtain ⟨xI, hxI⟩ : ∃ x, r.getD I 0 = x := ⟨_, rfl⟩
                obtain ⟨xJ, hxJ⟩ : ∃ x, r.getD J 0 = x := ⟨_, rfl⟩
                rw [hxI] at KRI hst
                rw [hxJ] at KRJ hst
                have q1 := hp.cell 1
                simp at q1
                have HRI := Lib.hid KRI
                have HRJ := Lib.hid KRJ
                have HPP := Lib.hid (And.intro hp.lt (And.intro p0 q1))
                obtain ⟨eq, heq⟩ : ∃ b, (xI == xJ) = b := ⟨_, rfl⟩
                have hj : ∀ W, Below wr.heap.size wr W → ∃ k' : Nat, Value.int .i64 ((k : Int) + 1) = .int .i64 (k' : Int) ∧ k' ≤ m1 ∧ Value.bool eq = .bool (SB && sameT R' I J k') ∧ Below wl.heap.size wl W := fun W hW => ⟨k + 1, by simp, by omega, by rw [hst, ← Bool.and_assoc, hs, ← heq, Bool.true_and]; congr 1, hb.trans (hW.mono hb.size)⟩
                have HJ := Lib.hid hj
                have HS0 := Lib.hid (show Below wr.heap.size wr wr.drew from (Below.refl _ _).drew)
                obtain ⟨wd, hwd⟩ : ∃ W, wr.drew = W := ⟨_, rfl⟩
                have HWD := Lib.hid hwd
                have HSd := Lib.hid (show Below wr.heap.size wr wd by rw [← hwd]; exact HS0.out)
                clear KRI KRJ hj hb bw hp hr hst hs hix hxI hxJ hwd q1
                go_wp2_with fail
                clear p0
                refine wp_region_noPanic ?_
                refine wp_region_held_drew (S := fun W => Below wr.heap.size wr W) (by kernel_rfl) HS0.out (fun hH => ?_)
                rw [HWD.out]
                have hH := HSd.out
                refine wpAnyH_take (i := 0) (oi := { dst := some 139, op := Op.move (Operand.tmp 22), type := 4, pos := "law.go:110", after := #[], guard := none }) (v := ?_) rfl (by kernel_rfl) (by kernel_rfl) (by kernel_rfl) (fun _ _ _ h => h) (Or.inl ⟨by rfl, ?_⟩) (by exact hH) ?_
                rotate_left
                · intro W hSw
                  go_simp
                  try with_reducible rfl
                try simp only [Act.put, List.setIfInBounds_toArray, List.set_cons_zero, List.set_cons_succ]
                refine wpAnyH_take (i := 1) (oi := { dst := some 140, op := Op.move (Operand.tmp 139), type := 4, pos := "law.go:110", after := #[{ on := 0, ground := Ground.data }], guard := none }) (v := ?_) rfl (by kernel_rfl) (by kernel_rfl) (by kernel_rfl) (fun _ _ _ h => h) (Or.inl ⟨by rfl, ?_⟩) (by exact hH) ?_
                rotate_left
                · intro W hSw
                  go_simp
                  try with_reducible rfl
                try simp only [Act.put, List.setIfInBounds_toArray, List.set_cons_zero, List.set_cons_succ]
                refine wpAnyH_take (i := 2) (oi := { dst := some 141, op := Op.load 54 (Operand.tmp 10), type := 54, pos := "law.go:110", after := #[{ on := 1, ground := Ground.guard }], guard := some (1, true) }) (v := ?_) rfl (by kernel_rfl) (by kernel_rfl) (by kernel_rfl) (fun _ _ _ h => h) (Or.inl ⟨by rfl, ?_⟩) (by exact hH) ?_
                rotate_left
                · intro W hSw
                  have p0 : W.cell? ⟨bq, 0, none⟩ = some (.slice B1 m1 d1) := (hSw.cell (p := ⟨bq, 0, none⟩) HPP.out.1).trans HPP.out.2.1
                  have p1 : W.cell? ⟨bq, 1, none⟩ = some (.slice B2 m2 d2) := (hSw.cell (p := ⟨bq, 1, none⟩) HPP.out.1).trans HPP.out.2.2
                  go_simp
                  try with_reducible rfl
                try simp only [Act.put, List.setIfInBounds_toArray, List.set_cons_zero, List.set_cons_succ]
                refine wpAnyH_take (i := 3) (oi := { dst := some 142, op := Op.move (Operand.tmp 24), type := 3, pos := "law.go:110", after := #[{ on := 1, ground := Ground.guard }], guard := some (1, true) }) (v := ?_) rfl (by kernel_rfl) (by kernel_rfl) (by kernel_rfl) (fun _ _ _ h => h) (Or.inl ⟨by rfl, ?_⟩) (by exact hH) ?_
                rotate_left
                · intro W hSw
                  go_simp
                  try with_reducible rfl
                try simp only [Act.put, List.setIfInBounds_toArray, List.set_cons_zero, List.set_cons_succ]
                refine wpAnyH_take (i := 4) (oi := { dst := some 143, op := Op.move (Operand.tmp 20), type := 3, pos := "law.go:110", after := #[{ on := 1, ground := Ground.guard }], guard := some (1, true) }) (v := ?_) rfl (by kernel_rfl) (by kernel_rfl) (by kernel_rfl) (fun _ _ _ h => h) (Or.inl ⟨by rfl, ?_⟩) (by exact hH) ?_
                rotate_left
                · intro W hSw
                  go_simp
                  try with_reducible rfl
                try simp only [Act.put, List.setIfInBounds_toArray, List.set_cons_zero, List.set_cons_succ]
                refine wpAnyH_take (i := 7) (oi := { dst := some 146, op := Op.load 54 (Operand.tmp 10), type := 54, pos := "law.go:110", after := #[{ on := 1, ground := Ground.guard }], guard := some (1, true) }) (v := ?_) rfl (by kernel_rfl) (by kernel_rfl) (by kernel_rfl) (fun _ _ _ h => h) (Or.inl ⟨by rfl, ?_⟩) (by exact hH) ?_
                rotate_left
                · intro W hSw
                  have p0 : W.cell? ⟨bq, 0, none⟩ = some (.slice B1 m1 d1) := (hSw.cell (p := ⟨bq, 0, none⟩) HPP.out.1).trans HPP.out.2.1
                  have p1 : W.cell? ⟨bq, 1, none⟩ = some (.slice B2 m2 d2) := (hSw.cell (p := ⟨bq, 1, none⟩) HPP.out.1).trans HPP.out.2.2
                  go_simp
                  try with_reducible rfl
                try simp only [Act.put, List.setIfInBounds_toArray, List.set_cons_zero, List.set_cons_succ]
                refine wpAnyH_take (i := 8) (oi := { dst := some 147, op := Op.move (Operand.tmp 24), type := 3, pos := "law.go:110", after := #[{ on := 1, ground := Ground.guard }], guard := some (1, true) }) (v := ?_) rfl (by kernel_rfl) (by kernel_rfl) (by kernel_rfl) (fun _ _ _ h => h) (Or.inl ⟨by rfl, ?_⟩) (by exact hH) ?_
                rotate_left
                · intro W hSw
                  go_simp
                  try with_reducible rfl
                try simp only [Act.put, List.setIfInBounds_toArray, List.set_cons_zero, List.set_cons_succ]
                refine wpAnyH_take (i := 9) (oi := { dst := some 148, op := Op.move (Operand.tmp 21), type := 3, pos := "law.go:110", after := #[{ on := 1, ground := Ground.guard }], guard := some (1, true) }) (v := ?_) rfl (by kernel_rfl) (by kernel_rfl) (by kernel_rfl) (fun _ _ _ h => h) (Or.inl ⟨by rfl, ?_⟩) (by exact hH) ?_
                rotate_left
                · intro W hSw
                  go_simp
                  try with_reducible rfl
                try simp only [Act.put, List.setIfInBounds_toArray, List.set_cons_zero, List.set_cons_succ]
                refine wpAnyH_ready (rs := [5, 10]) (by kernel_rfl) (by simp) ?_
                refine (AllReadyH.cons (o := { dst := some 144, op := Op.buildSlice 23 1 #[(0, Operand.tmp 143)], type := 23, pos := "law.go:110", after := #[{ on := 4, ground := Ground.data }, { on := 1, ground := Ground.guard }], guard := some (1, true) }) rfl (fun K hK => ?_) (AllReadyH.cons (o := { dst := some 149, op := Op.buildSlice 23 1 #[(0, Operand.tmp 148)], type := 23, pos := "law.go:110", after := #[{ on := 9, ground := Ground.data }, { on := 1, ground := Ground.guard }], guard := some (1, true) }) rfl (fun K hK => ?_) AllReadyH.nil))
                ·
                  go_simp
                  have HS1 := Lib.hid (HSd.out.alloc HSd.out.size (.cells #[.int .i64 (I : Int)] 3))
                  have z51 := cells_new wd #[.int .i64 (I : Int)] 3
                  refine hK.out _ _ HS1.out (fun hH => ?_)
                  clear hK K
                  try simp only [Act.put, List.setIfInBounds_toArray, List.set_cons_zero, List.set_cons_succ]
                  obtain ⟨k5, hk5⟩ : ∃ b, wd.heap.size = b := ⟨_, rfl⟩
                  obtain ⟨V1, hV1⟩ : ∃ W, wd.alloc (.cells #[.int .i64 (I : Int)] 3) = W := ⟨_, rfl⟩
                  rw [hV1] at HS1 z51 hH ⊢
                  rw [hk5] at z51 ⊢
                  clear hV1 hk5
                  refine wpAnyH_ready (rs := [6, 10]) (by kernel_rfl) (by simp) ?_
                  refine (AllReadyH.cons (o := { dst := some 145, op := Op.call { callee := Callee.value (Operand.func 47), args := #[Operand.tmp 141, Operand.tmp 142, Operand.tmp 144], argTypes := #[54, 3, 23] }, type := 3, pos := "law.go:110", after := #[{ on := 2, ground := Ground.data }, { on := 3, ground := Ground.data }, { on := 5, ground := Ground.data }, { on := 1, ground := Ground.chain }, { on := 1, ground := Ground.guard }], guard := some (1, true) }) rfl (fun K hK => ?_) (AllReadyH.cons (o := { dst := some 149, op := Op.buildSlice 23 1 #[(0, Operand.tmp 148)], type := 23, pos := "law.go:110", after := #[{ on := 9, ground := Ground.data }, { on := 1, ground := Ground.guard }], guard := some (1, true) }) rfl (fun K hK => ?_) AllReadyH.nil))
                  ·
                    go_simp
                    go_at_call 47
                    refine (HRI.out _ _ HS1.out z51).mono ?_
                    rintro e V2 ⟨rfl, hbk⟩
                    have HS2 := Lib.hid (HS1.out.trans (hbk.mono HS1.out.size))
                    clear hbk
                    try go_wp2_with fail
                    refine hK.out _ _ HS2.out (fun hH => ?_)
                    clear hK K
                    try simp only [Act.put, List.setIfInBounds_toArray, List.set_cons_zero, List.set_cons_succ]
                    refine wpAnyH_ready (rs := [10]) (by kernel_rfl) (by simp) ?_
                    refine (AllReadyH.cons (o := { dst := some 149, op := Op.buildSlice 23 1 #[(0, Operand.tmp 148)], type := 23, pos := "law.go:110", after := #[{ on := 9, ground := Ground.data }, { on := 1, ground := Ground.guard }], guard := some (1, true) }) rfl (fun K hK => ?_) AllReadyH.nil)
                    go_simp
                    have HS3 := Lib.hid (HS2.out.alloc HS2.out.size (.cells #[.int .i64 (J : Int)] 3))
                    have zX3 := cells_new V2 #[.int .i64 (J : Int)] 3
                    refine hK.out _ _ HS3.out (fun hH => ?_)
                    clear hK K
                    try simp only [Act.put, List.setIfInBounds_toArray, List.set_cons_zero, List.set_cons_succ]
                    obtain ⟨kX, hkX⟩ : ∃ b, V2.heap.size = b := ⟨_, rfl⟩
                    obtain ⟨V3, hV3⟩ : ∃ W, V2.alloc (.cells #[.int .i64 (J : Int)] 3) = W := ⟨_, rfl⟩
                    rw [hV3] at HS3 zX3 hH ⊢
                    rw [hkX] at zX3 ⊢
                    clear hV3 hkX
                    refine wpAnyH_ready (rs := [11]) (by kernel_rfl) (by simp) ?_
                    refine (AllReadyH.cons (o := { dst := some 150, op := Op.call { callee := Callee.value (Operand.func 47), args := #[Operand.tmp 146, Operand.tmp 147, Operand.tmp 149], argTypes := #[54, 3, 23] }, type := 3, pos := "law.go:110", after := #[{ on := 7, ground := Ground.data }, { on := 8, ground := Ground.data }, { on := 10, ground := Ground.data }, { on := 6, ground := Ground.chain }, { on := 1, ground := Ground.guard }], guard := some (1, true) }) rfl (fun K hK => ?_) AllReadyH.nil)
                    go_simp
                    go_at_call 47
                    refine (HRJ.out _ _ HS3.out zX3).mono ?_
                    rintro e V4 ⟨rfl, hbk⟩
                    have HS4 := Lib.hid (HS3.out.trans (hbk.mono HS3.out.size))
                    clear hbk
                    try go_wp2_with fail
                    refine hK.out _ _ HS4.out (fun hH => ?_)
                    clear hK K
                    try simp only [Act.put, List.setIfInBounds_toArray, List.set_cons_zero, List.set_cons_succ]
                    refine wpAnyH_take (i := 12) (oi := { dst := some 151, op := Op.binOp BinOp.eql 3 (Operand.tmp 145) (Operand.tmp 150) 3, type := 4, pos := "law.go:110", after := #[{ on := 6, ground := Ground.data }, { on := 11, ground := Ground.data }, { on := 1, ground := Ground.guard }], guard := some (1, true) }) (v := ?_) rfl (by kernel_rfl) (by kernel_rfl) (by kernel_rfl) (fun _ _ _ h => h) (Or.inl ⟨by rfl, ?_⟩) (by exact hH) ?_
                    rotate_left
                    · intro W hSw
                      go_simp
                      try with_reducible rfl
                    try simp only [Act.put, List.setIfInBounds_toArray, List.set_cons_zero, List.set_cons_succ]
                    refine wpAnyH_take (i := 13) (oi := { dst := some 152, op := Op.pick (Operand.tmp 140) (Operand.tmp 151) (Operand.const (Value.bool false)), type := 4, pos := "law.go:110", after := #[{ on := 1, ground := Ground.data }, { on := 12, ground := Ground.data }], guard := none }) (v := ?_) rfl (by kernel_rfl) (by kernel_rfl) (by kernel_rfl) (fun _ _ _ h => h) (Or.inl ⟨by rfl, ?_⟩) (by exact hH) ?_
                    rotate_left
                    · intro W hSw
                      go_simp
                      try with_reducible rfl
                    try simp only [Act.put, List.setIfInBounds_toArray, List.set_cons_zero, List.set_cons_succ]
                    refine wpAnyH_take (i := 14) (oi := { dst := some 22, op := Op.assign (Operand.tmp 152), type := 4, pos := "law.go:110", after := #[{ on := 13, ground := Ground.data }, { on := 11, ground := Ground.chain }, { on := 0, ground := Ground.phase }, { on := 1, ground := Ground.phase }, { on := 2, ground := Ground.phase }, { on := 3, ground := Ground.phase }, { on := 4, ground := Ground.phase }, { on := 5, ground := Ground.phase }, { on := 6, ground := Ground.phase }, { on := 7, ground := Ground.phase }, { on := 8, ground := Ground.phase }, { on := 9, ground := Ground.phase }, { on := 10, ground := Ground.phase }, { on := 11, ground := Ground.phase }, { on := 12, ground := Ground.phase }, { on := 13, ground := Ground.phase }], guard := none }) (v := ?_) rfl (by kernel_rfl) (by kernel_rfl) (by kernel_rfl) (fun _ _ _ h => h) (Or.inl ⟨by rfl, ?_⟩) (by exact hH) ?_
                    rotate_left
                    · intro W hSw
                      go_simp
                      try with_reducible rfl
                    try simp only [Act.put, List.setIfInBounds_toArray, List.set_cons_zero, List.set_cons_succ]
                    refine wpAnyH_done (by kernel_rfl) ?_ _
                    refine NoPanic.normal ?_
                    have HEND := Lib.hid (HJ.out _ HS4.out)
                    go_wp2_with fail
                    go_roundw
                    case rel => exact HEND.out
                    case measure => simp [RowKit.intOf]; omega
                  ·
                    go_simp
                    have HS5 := Lib.hid (HS1.out.alloc HS1.out.size (.cells #[.int .i64 (J : Int)] 3))
                    have zX5 := cells_new V1 #[.int .i64 (J : Int)] 3
                    have z55 := z51.on (below_new _ (.cells #[.int .i64 (J : Int)] 3))
                    refine hK.out _ _ HS5.out (fun hH => ?_)
                    clear hK K
                    try simp only [Act.put, List.setIfInBounds_toArray, List.set_cons_zero, List.set_cons_succ]
                    obtain ⟨kX, hkX⟩ : ∃ b, V1.heap.size = b := ⟨_, rfl⟩
                    obtain ⟨V5, hV5⟩ : ∃ W, V1.alloc (.cells #[.int .i64 (J : Int)] 3) = W := ⟨_, rfl⟩
                    rw [hV5] at HS5 zX5 z55 hH ⊢
                    rw [hkX] at zX5 ⊢
                    clear hV5 hkX
                    refine wpAnyH_ready (rs := [6]) (by kernel_rfl) (by simp) ?_
                    refine (AllReadyH.cons (o := { dst := some 145, op := Op.call { callee := Callee.value (Operand.func 47), args := #[Operand.tmp 141, Operand.tmp 142, Operand.tmp 144], argTypes := #[54, 3, 23] }, type := 3, pos := "law.go:110", after := #[{ on := 2, ground := Ground.data }, { on := 3, ground := Ground.data }, { on := 5, ground := Ground.data }, { on := 1, ground := Ground.chain }, { on := 1, ground := Ground.guard }], guard := some (1, true) }) rfl (fun K hK => ?_) AllReadyH.nil)
                    go_simp
                    go_at_call 47
                    refine (HRI.out _ _ HS5.out z55).mono ?_
                    rintro e V6 ⟨rfl, hbk⟩
                    have HS6 := Lib.hid (HS5.out.trans (hbk.mono HS5.out.size))
                    have zX6 := zX5.on hbk
                    clear hbk
                    try go_wp2_with fail
                    refine hK.out _ _ HS6.out (fun hH => ?_)
                    clear hK K
                    try simp only [Act.put, List.setIfInBounds_toArray, List.set_cons_zero, List.set_cons_succ]
                    refine wpAnyH_ready (rs := [11]) (by kernel_rfl) (by simp) ?_
                    refine (AllReadyH.cons (o := { dst := some 150, op := Op.call { callee := Callee.value (Operand.func 47), args := #[Operand.tmp 146, Operand.tmp 147, Operand.tmp 149], argTypes := #[54, 3, 23] }, type := 3, pos := "law.go:110", after := #[{ on := 7, ground := Ground.data }, { on := 8, ground := Ground.data }, { on := 10, ground := Ground.data }, { on := 6, ground := Ground.chain }, { on := 1, ground := Ground.guard }], guard := some (1, true) }) rfl (fun K hK => ?_) AllReadyH.nil)
                    go_simp
                    go_at_call 47
                    refine (HRJ.out _ _ HS6.out zX6).mono ?_
                    rintro e V7 ⟨rfl, hbk⟩
                    have HS7 := Lib.hid (HS6.out.trans (hbk.mono HS6.out.size))
                    clear hbk
                    try go_wp2_with fail
                    refine hK.out _ _ HS7.out (fun hH => ?_)
                    clear hK K
                    try simp only [Act.put, List.setIfInBounds_toArray, List.set_cons_zero, List.set_cons_succ]
                    refine wpAnyH_take (i := 12) (oi := { dst := some 151, op := Op.binOp BinOp.eql 3 (Operand.tmp 145) (Operand.tmp 150) 3, type := 4, pos := "law.go:110", after := #[{ on := 6, ground := Ground.data }, { on := 11, ground := Ground.data }, { on := 1, ground := Ground.guard }], guard := some (1, true) }) (v := ?_) rfl (by kernel_rfl) (by kernel_rfl) (by kernel_rfl) (fun _ _ _ h => h) (Or.inl ⟨by rfl, ?_⟩) (by exact hH) ?_
                    rotate_left
                    · intro W hSw
                      go_simp
                      try with_reducible rfl
                    try simp only [Act.put, List.setIfInBounds_toArray, List.set_cons_zero, List.set_cons_succ]
                    refine wpAnyH_take (i := 13) (oi := { dst := some 152, op := Op.pick (Operand.tmp 140) (Operand.tmp 151) (Operand.const (Value.bool false)), type := 4, pos := "law.go:110", after := #[{ on := 1, ground := Ground.data }, { on := 12, ground := Ground.data }], guard := none }) (v := ?_) rfl (by kernel_rfl) (by kernel_rfl) (by kernel_rfl) (fun _ _ _ h => h) (Or.inl ⟨by rfl, ?_⟩) (by exact hH) ?_
                    rotate_left
                    · intro W hSw
                      go_simp
                      try with_reducible rfl
                    try simp only [Act.put, List.setIfInBounds_toArray, List.set_cons_zero, List.set_cons_succ]
                    refine wpAnyH_take (i := 14) (oi := { dst := some 22, op := Op.assign (Operand.tmp 152), type := 4, pos := "law.go:110", after := #[{ on := 13, ground := Ground.data }, { on := 11, ground := Ground.chain }, { on := 0, ground := Ground.phase }, { on := 1, ground := Ground.phase }, { on := 2, ground := Ground.phase }, { on := 3, ground := Ground.phase }, { on := 4, ground := Ground.phase }, { on := 5, ground := Ground.phase }, { on := 6, ground := Ground.phase }, { on := 7, ground := Ground.phase }, { on := 8, ground := Ground.phase }, { on := 9, ground := Ground.phase }, { on := 10, ground := Ground.phase }, { on := 11, ground := Ground.phase }, { on := 12, ground := Ground.phase }, { on := 13, ground := Ground.phase }], guard := none }) (v := ?_) rfl (by kernel_rfl) (by kernel_rfl) (by kernel_rfl) (fun _ _ _ h => h) (Or.inl ⟨by rfl, ?_⟩) (by exact hH) ?_
                    rotate_left
                    · intro W hSw
                      go_simp
                      try with_reducible rfl
                    try simp only [Act.put, List.setIfInBounds_toArray, List.set_cons_zero, List.set_cons_succ]
                    refine wpAnyH_done (by kernel_rfl) ?_ _
                    refine NoPanic.normal ?_
                    have HEND := Lib.hid (HJ.out _ HS7.out)
                    go_wp2_with fail
                    go_roundw
                    case rel => exact HEND.out
                    case measure => simp [RowKit.intOf]; omega
                ·
                  go_simp
                  have HS8 := Lib.hid (HSd.out.alloc HSd.out.size (.cells #[.int .i64 (J : Int)] 3))
                  have zX8 := cells_new wd #[.int .i64 (J : Int)] 3
                  refine hK.out _ _ HS8.out (fun hH => ?_)
                  clear hK K
                  try simp only [Act.put, List.setIfInBounds_toArray, List.set_cons_zero, List.set_cons_succ]
                  obtain ⟨kX, hkX⟩ : ∃ b, wd.heap.size = b := ⟨_, rfl⟩
                  obtain ⟨V8, hV8⟩ : ∃ W, wd.alloc (.cells #[.int .i64 (J : Int)] 3) = W := ⟨_, rfl⟩
                  rw [hV8] at HS8 zX8 hH ⊢
                  rw [hkX] at zX8 ⊢
                  clear hV8 hkX
                  refine wpAnyH_ready (rs := [5]) (by kernel_rfl) (by simp) ?_
                  refine (AllReadyH.cons (o := { dst := some 144, op := Op.buildSlice 23 1 #[(0, Operand.tmp 143)], type := 23, pos := "law.go:110", after := #[{ on := 4, ground := Ground.data }, { on := 1, ground := Ground.guard }], guard := some (1, true) }) rfl (fun K hK => ?_) AllReadyH.nil)
                  go_simp
                  have HS9 := Lib.hid (HS8.out.alloc HS8.out.size (.cells #[.int .i64 (I : Int)] 3))
                  have z59 := cells_new V8 #[.int .i64 (I : Int)] 3
                  have zX9 := zX8.on (below_new _ (.cells #[.int .i64 (I : Int)] 3))
                  refine hK.out _ _ HS9.out (fun hH => ?_)
                  clear hK K
                  try simp only [Act.put, List.setIfInBounds_toArray, List.set_cons_zero, List.set_cons_succ]
                  obtain ⟨k5, hk5⟩ : ∃ b, V8.heap.size = b := ⟨_, rfl⟩
                  obtain ⟨V9, hV9⟩ : ∃ W, V8.alloc (.cells #[.int .i64 (I : Int)] 3) = W := ⟨_, rfl⟩
                  rw [hV9] at HS9 z59 zX9 hH ⊢
                  rw [hk5] at z59 ⊢
                  clear hV9 hk5
                  refine wpAnyH_ready (rs := [6]) (by kernel_rfl) (by simp) ?_
                  refine (AllReadyH.cons (o := { dst := some 145, op := Op.call { callee := Callee.value (Operand.func 47), args := #[Operand.tmp 141, Operand.tmp 142, Operand.tmp 144], argTypes := #[54, 3, 23] }, type := 3, pos := "law.go:110", after := #[{ on := 2, ground := Ground.data }, { on := 3, ground := Ground.data }, { on := 5, ground := Ground.data }, { on := 1, ground := Ground.chain }, { on := 1, ground := Ground.guard }], guard := some (1, true) }) rfl (fun K hK => ?_) AllReadyH.nil)
                  go_simp
                  go_at_call 47
                  refine (HRI.out _ _ HS9.out z59).mono ?_
                  rintro e V10 ⟨rfl, hbk⟩
                  have HS10 := Lib.hid (HS9.out.trans (hbk.mono HS9.out.size))
                  have zX10 := zX9.on hbk
                  clear hbk
                  try go_wp2_with fail
                  refine hK.out _ _ HS10.out (fun hH => ?_)
                  clear hK K
                  try simp only [Act.put, List.setIfInBounds_toArray, List.set_cons_zero, List.set_cons_succ]
                  refine wpAnyH_ready (rs := [11]) (by kernel_rfl) (by simp) ?_
                  refine (AllReadyH.cons (o := { dst := some 150, op := Op.call { callee := Callee.value (Operand.func 47), args := #[Operand.tmp 146, Operand.tmp 147, Operand.tmp 149], argTypes := #[54, 3, 23] }, type := 3, pos := "law.go:110", after := #[{ on := 7, ground := Ground.data }, { on := 8, ground := Ground.data }, { on := 10, ground := Ground.data }, { on := 6, ground := Ground.chain }, { on := 1, ground := Ground.guard }], guard := some (1, true) }) rfl (fun K hK => ?_) AllReadyH.nil)
                  go_simp
                  go_at_call 47
                  refine (HRJ.out _ _ HS10.out zX10).mono ?_
                  rintro e V11 ⟨rfl, hbk⟩
                  have HS11 := Lib.hid (HS10.out.trans (hbk.mono HS10.out.size))
                  clear hbk
                  try go_wp2_with fail
                  refine hK.out _ _ HS11.out (fun hH => ?_)
                  clear hK K
                  try simp only [Act.put, List.setIfInBounds_toArray, List.set_cons_zero, List.set_cons_succ]
                  refine wpAnyH_take (i := 12) (oi := { dst := some 151, op := Op.binOp BinOp.eql 3 (Operand.tmp 145) (Operand.tmp 150) 3, type := 4, pos := "law.go:110", after := #[{ on := 6, ground := Ground.data }, { on := 11, ground := Ground.data }, { on := 1, ground := Ground.guard }], guard := some (1, true) }) (v := ?_) rfl (by kernel_rfl) (by kernel_rfl) (by kernel_rfl) (fun _ _ _ h => h) (Or.inl ⟨by rfl, ?_⟩) (by exact hH) ?_
                  rotate_left
                  · intro W hSw
                    go_simp
                    try with_reducible rfl
                  try simp only [Act.put, List.setIfInBounds_toArray, List.set_cons_zero, List.set_cons_succ]
                  refine wpAnyH_take (i := 13) (oi := { dst := some 152, op := Op.pick (Operand.tmp 140) (Operand.tmp 151) (Operand.const (Value.bool false)), type := 4, pos := "law.go:110", after := #[{ on := 1, ground := Ground.data }, { on := 12, ground := Ground.data }], guard := none }) (v := ?_) rfl (by kernel_rfl) (by kernel_rfl) (by kernel_rfl) (fun _ _ _ h => h) (Or.inl ⟨by rfl, ?_⟩) (by exact hH) ?_
                  rotate_left
                  · intro W hSw
                    go_simp
                    try with_reducible rfl
                  try simp only [Act.put, List.setIfInBounds_toArray, List.set_cons_zero, List.set_cons_succ]
                  refine wpAnyH_take (i := 14) (oi := { dst := some 22, op := Op.assign (Operand.tmp 152), type := 4, pos := "law.go:110", after := #[{ on := 13, ground := Ground.data }, { on := 11, ground := Ground.chain }, { on := 0, ground := Ground.phase }, { on := 1, ground := Ground.phase }, { on := 2, ground := Ground.phase }, { on := 3, ground := Ground.phase }, { on := 4, ground := Ground.phase }, { on := 5, ground := Ground.phase }, { on := 6, ground := Ground.phase }, { on := 7, ground := Ground.phase }, { on := 8, ground := Ground.phase }, { on := 9, ground := Ground.phase }, { on := 10, ground := Ground.phase }, { on := 11, ground := Ground.phase }, { on := 12, ground := Ground.phase }, { on := 13, ground := Ground.phase }], guard := none }) (v := ?_) rfl (by kernel_rfl) (by kernel_rfl) (by kernel_rfl) (fun _ _ _ h => h) (Or.inl ⟨by rfl, ?_⟩) (by exact hH) ?_
                  rotate_left
                  · intro W hSw
                    go_simp
                    try with_reducible rfl
                  try simp only [Act.put, List.setIfInBounds_toArray, List.set_cons_zero, List.set_cons_succ]
                  refine wpAnyH_done (by kernel_rfl) ?_ _
                  refine NoPanic.normal ?_
                  have HEND := Lib.hid (HJ.out _ HS11.out)
                  go_wp2_with fail
                  go_roundw
                  case rel => exact HEND.out
                  case measure => simp [RowKit.intOf]; omega
            · obtain rfl : k = m1 := by omega
              have i1 : ¬ (k : Int) < (k : Int) := by omega
              have hZ : (G.getD I 0 == G.getD J 0) = (SB && sameT R' I J k) := by
                have h1 := HG.out.2.2.2.2.1 I J hI hJ
                have h2 := HSB.out
                rw [← HN.out.1] at h2
                have h3 : sameT R' I J k = sameT R' I J R'.length := by rw [HN.out.2.2.1]
                rw [h3, ← h2, Bool.true_and, Bool.eq_iff_iff]
                simp only [beq_iff_eq, Bool.and_eq_true]
                rw [h1, sameT_col, sameT_col]
                constructor
                · intro h
                  exact ⟨h (R, T) (by simp) HR1.out, h (R', T') (by simp) HR2.out⟩
                · rintro ⟨ha, hb⟩ t ht _
                  simp at ht
                  rcases ht with rfl | rfl
                  · exact ha
                  · exact hb
              have hgw := HL.out.2.2.2.on hb
              obtain ⟨Z, hZe⟩ : ∃ z, (SB && sameT R' I J k) = z := ⟨_, rfl⟩
              obtain ⟨gI, hgI⟩ := list_at (xs := G) (i := I) (by rw [HG.out.1.l]; exact hI)
              obtain ⟨gJ, hgJ⟩ := list_at (xs := G) (i := J) (by rw [HG.out.1.l]; exact hJ)
              rw [hZe] at hZ ⊢
              rw [getD_get hgI, getD_get hgJ] at hZ
              have c0 := hgw.cell I
              have c1 := hgw.cell J
              have f0 : (intsC G).toArray[I]? = some (.int .i64 gI) := by simp [intsC, hgI]
              have f1 : (intsC G).toArray[J]? = some (.int .i64 gJ) := by simp [intsC, hgJ]
              rw [f0] at c0
              rw [f1] at c1
              have j0 : (I : Int) < 37 := by omega
              have j1 : (J : Int) < 37 := by omega
              have hZZ : (Z == Z) = true := by simp
              have HB := Lib.hid bw
              clear bw hp hb hgw hgI hgJ f0 f1 hZe
              go_wp2_with fail
              clear p0
              go_quiet (fail)
              rename_i nq _
              have HB2 := Lib.hid (below_drewN HB.out nq)
              go_wp2_with fail
              go_ret
              exact ⟨rfl, HB2.out⟩
end Go.Proofs.YtmldgfplnacecaaDoor
