/-
  Contract: virguleref08.A.look of an expression with parts.
-/
import Derived.BigRegion
import Derived.Deep.CutRange
import Derived.Deep.RegionHeld3
import Derived.Test.YtmldgfplnacecaaDoorXqh
namespace Go.Proofs.YtmldgfplnacecaaDoor
open Go.RowKit Go.Shelf Go.Lib Go.Great Go.Maps

/-- The end of the loop: the two are written. -/
theorem LoS.fin {b qo r : Nat} {c0 c3 c4 c6 v1 v2 v5 u1 u2 u5 vf vl : Value} {w W wr : World} {s : Lk} {p : Pt} {e : Bool} (h : LoS b qo c0 c3 c4 c6 v1 v2 v5 W wr s p u1 u2 u5 vf vl) (hW : w.heap.size ≤ r) (hb : Below w.heap.size w W) (hrq : r < qo) (kr : Kept wr b u1 u2 u5 r 101 part0) :
    ∃ WF, ((((wr.setCell ⟨qo, 0, none⟩ (.bool e)).setCell ⟨r, 0, none⟩ (.bool e)).setCell ⟨r, 1, none⟩ vf).setCell ⟨r, 2, none⟩ vl) = WF ∧ Cells WF r 101 #[.bool e, vf, vl] ∧ LkPost w b c0 c3 c4 c6 v1 v2 v5 s ⟨e, p.first, p.last⟩ (.returned (.agg #[.bool e, vf, vl])) WF := by
  have hne : qo ≠ r := by omega
  have k := (((kr.set_ne (i := 0) hne (.bool e)).set_eq (i := 0) (.bool e)).set_eq (i := 1) vf).set_eq (i := 2) vl
  refine ⟨_, rfl, k.c, _, _, _, vf, vl, rfl, (((h.a.set h.q.n _).set kr.n _).set kr.n _).set kr.n _, ?_, ?_, ?_⟩
  · exact (((((LkMv.of_below _ _ _ hb).trans h.m).set (by omega) 0 _).set hW 0 _).set hW 1 _).set hW 2 _
  · exact ((((h.f.set (Nat.lt_succ_self _) 0 _).set (by omega) 0 _).set (by omega) 1 _).set (by omega) 2 _).lower (by omega)
  · exact ((((h.l.set (Nat.lt_succ_self _) 0 _).set (by omega) 0 _).set (by omega) 1 _).set (by omega) 2 _).lower (by omega)

set_option maxHeartbeats 16000000 in
set_option maxRecDepth 100000 in
theorem look_node (L : Nat) (k c : Int) (ks : List E) (hne : ks ≠ []) (IH : ∀ e ∈ ks, LookFor L e) : LookFor L (.mk k c ks) := by
  intro o v b B c0 c3 c4 c6 v1 v2 v5 s w h hN hB ho hb
  obtain ⟨hk, hc, A, cap, rfl, hks⟩ := Nd_iff.1 hN
  simp only [E.k, E.c, E.ks] at hk hc hks ⊢
  obtain ⟨h9, hs, hga⟩ := good_parts hb.g
  rw [lookE_node h9 hne]
  have hL : leavesE.lvL ks ≤ L := by have := hb.l; rw [leaves_kids hne] at this; exact this
  have hsz : szE (.mk k c ks) = 1 + szE.szL ks := rfl
  have hbp := hb.p
  have hbv := hb.v
  have hbo := hb.o
  rw [leaves_kids hne] at hbv hbo
  have hbv : s.lv.length + leavesE.lvL ks ≤ 1000 := hbv
  have hbo : s.of.length + leavesE.lvL ks ≤ 1000 := hbo
  rw [hsz, Nat.mul_add, Nat.add_mul] at hbp
  have hLm := hb.m
  obtain ⟨n, hn⟩ : ∃ n, ks.length = n := ⟨_, rfl⟩
  have hn0 : 0 < n := by rw [← hn]; exact List.length_pos_iff.2 hne
  have hnm : n ≤ 9223372036854775807 := by have := hks.l; have := hks.m; unfold maxLen at this; omega
  have hq9 : (k == 9) = false := by simpa using h9
  have hqn : ((n : Int) == 0) = false := by simp; omega
  have hbl := h.cs.lt
  obtain ⟨W2, hW2⟩ : ∃ W, (w.alloc (.cells #[.int .i64 k, .int .i64 c, .slice A n cap] 48)).alloc (.cells #[.bool false, .slice none 0 0, .slice none 0 0] 101) = W := ⟨_, rfl⟩
  have b2 : Below w.heap.size w W2 := by rw [← hW2]; exact (below_new _ _).alloc (by simp) _
  have z2 : W2.heap.size = w.heap.size + 1 + 1 := by rw [← hW2]; simp
  have bx : Cells W2 w.heap.size 48 #[.int .i64 k, .int .i64 c, .slice A n cap] := by rw [← hW2]; exact ((below_new (w.alloc (.cells #[.int .i64 k, .int .i64 c, .slice A n cap] 48)) (.cells #[.bool false, .slice none 0 0, .slice none 0 0] 101)).block _ (by simp)).trans (cells_new _ _ _)
  have rs : Cells W2 (w.heap.size + 1) 101 part0 := by
    rw [← hW2]
    have := cells_new (w.alloc (.cells #[.int .i64 k, .int .i64 c, .slice A n cap] 48)) #[.bool false, .slice none 0 0, .slice none 0 0] 101
    rw [World.size_alloc] at this
    exact this
  have a2 := h.mv b2
  have kb : Kept W2 b v1 v2 v5 w.heap.size 48 #[.int .i64 k, .int .i64 c, .slice A n cap] := ⟨bx, h.fresh (Nat.le_refl _)⟩
  have kr : Kept W2 b v1 v2 v5 (w.heap.size + 1) 101 part0 := ⟨rs, h.fresh (Nat.le_succ _)⟩
  obtain ⟨B4, hB4⟩ : ∃ x, (k == 4) = x := ⟨_, rfl⟩
  obtain ⟨p0, hp0⟩ : ∃ p : Pt, (⟨k == 4, [], []⟩ : Pt) = p := ⟨_, rfl⟩
  have al := below_new W2 (.cells #[.bool B4, .slice none 0 0, .slice none 0 0] 101)
  have st : LoS b (w.heap.size + 1 + 1) c0 c3 c4 c6 v1 v2 v5 W2 (W2.alloc (.cells #[.bool B4, .slice none 0 0, .slice none 0 0] 101)) (lookE.lookL k (ks.take 0) o s p0).1 (lookE.lookL k (ks.take 0) o s p0).2 v1 v2 v5 (.slice none 0 0) (.slice none 0 0) := by
    rw [← hp0, ← z2, ← hB4]
    rw [← hB4] at al
    exact ⟨a2.mv al, LkMv.of_below _ _ _ al, ⟨cells_new _ _ _, a2.fresh (Nat.le_refl _)⟩, slx_nil _ _, slx_nil _ _⟩
  have hbd : ∀ (i : Nat) e, ks[i]? = some e → LkB L e (lookE.lookL k (ks.take i) o s p0).1 ∧ (lookE.lookL k (ks.take i) o s p0).2.first.length + leavesE e ≤ L ∧ (lookE.lookL k (ks.take i) o s p0).2.last.length + leavesE e ≤ L ∧ (lookE.lookL k (ks.take i) o s p0).1.pr.length + 2 * szE e * (L * L) + L * L ≤ 2000000 := fun i e he => by
    obtain ⟨q1, q2, q3, q4, q5⟩ := look_part (k := k) (o := o) (s := s) hga he hL
    rw [hp0] at q1 q2 q3 q4 q5
    have hm := List.mem_of_getElem? he
    exact ⟨⟨good_all hga e hm, by omega, hLm, by omega, by omega, by omega⟩, q1, q2, by omega⟩
  have hlk := fun (i : Nat) e (he : ks[i]? = some e) => lookL_take (k := k) (o := o) he s p0
  have hfl : (lookE.lookL k ks o s p0).2.first.length ≤ L ∧ (lookE.lookL k ks o s p0).2.last.length ≤ L ∧ (lookE.lookL k ks o s p0).1.pr.length + L * L ≤ 2000000 := by
    have q := lookL_len k ks o s p0 L hga (by rw [← hp0]; simpa using hL)
    have q0 : p0.first.length = 0 ∧ p0.last.length = 0 := by rw [← hp0]; exact ⟨rfl, rfl⟩
    obtain ⟨q1, q2, q3⟩ := q
    exact ⟨by omega, by omega, by omega⟩
  obtain ⟨F, hF⟩ : ∃ F, (fun i => lookE.lookL k (ks.take i) o s p0) = F := ⟨_, rfl⟩
  have hFi : ∀ i, lookE.lookL k (ks.take i) o s p0 = F i := fun i => by rw [← hF]
  have hFn : lookE.lookL k ks o s p0 = F n := by rw [← hFi, ← hn, List.take_length]
  rw [hFi] at st
  rw [hFn] at hfl
  simp only [hFi] at hbd hlk
  rw [hp0, hFn]
  obtain ⟨sN, hsN⟩ : ∃ x, (if k = 6 ∨ k = 7 then (F n).1.pair (F n).2.last (F n).2.first else (F n).1) = x := ⟨_, rfl⟩
  obtain ⟨pN, hpN⟩ : ∃ x, (⟨(F n).2.empty || (k == 6) || (k == 8), (F n).2.first, (F n).2.last⟩ : Pt) = x := ⟨_, rfl⟩
  rw [hsN, hpN]
  have HR := Lib.hid (And.intro hsN hpN)
  have IHc := fun (i : Nat) e (he : ks[i]? = some e) => IH e (List.mem_of_getElem? he)
  have H := Lib.hid (And.intro hks (And.intro kb (And.intro kr (And.intro st (And.intro hbd (And.intro hlk (And.intro hfl (And.intro IHc (And.intro hn (And.intro b2 (And.intro ho (And.intro h hbp))))))))))))
  have HW := Lib.hid hW2
  have e0 := bx.cell 0
  have e2 := bx.cell 2
  simp at e0 e2
  rw [hn]
  clear hsN hpN hks kb kr st hbd hlk hfl IHc hn b2 ho bx rs a2 al hW2 hp0 hF hFi hFn hL hsz hb hN h9 hs hga IH hne hk hc hbv hbo hbp h
  go_enter Tryd.func52, Tryd.ntmps52
  go_wp2_with fail
  rw [HW.out]
  clear e0 e2 hB4
  go_loopw [9, 10] (fun x _ wr => ∃ (i : Nat) (y1 y2 y5 vf vl : Value), x = .int .i64 (i : Int) ∧ i ≤ n ∧ LoS b (w.heap.size + 1 + 1) c0 c3 c4 c6 v1 v2 v5 W2 wr (F i).1 (F i).2 y1 y2 y5 vf vl) (fun x _ _ => n - (RowKit.intOf x).toNat)
  case atStart => exact ⟨0, _, _, _, _, _, rfl, by omega, H.out.2.2.2.1⟩
  case round =>
    obtain ⟨i, y1, y2, y5, vf, vl, rfl, hi, hS⟩ := hrel
    have kbw := H.out.2.1.mv hS.m
    have e0 := kbw.c.cell 0
    have e2 := kbw.c.cell 2
    simp at e0 e2
    by_cases hlt : i < n
    · have i1 : (i : Int) < (n : Int) := by omega
      obtain ⟨e, he⟩ : ∃ e, ks[i]? = some e := ⟨ks[i]'(by rw [H.out.2.2.2.2.2.2.2.2.1]; exact hlt), List.getElem?_eq_getElem _⟩
      have hbw : Below b w wr := (H.out.2.2.2.2.2.2.2.2.2.1.mono (Nat.le_of_lt hbl)).trans (hS.m.under (H.out.2.2.2.2.2.2.2.2.2.2.2.1.mv H.out.2.2.2.2.2.2.2.2.2.1))
      have hkw := H.out.1.below (hbw.mono hB)
      obtain ⟨bk, ok, rfl, hbk, hrow⟩ := hkw.r (by rintro rfl; simp at he)
      obtain ⟨Ae, ce, d0, d1, d2, hNe⟩ := row_get' hrow he
      obtain ⟨hbd, hf1, hl1, hp1⟩ := H.out.2.2.2.2.1 i e he
      have hst := H.out.2.2.2.2.2.1 i e he
      have C := H.out.2.2.2.2.2.2.2.1 i e he o _ b B c0 c3 c4 c6 y1 y2 y5 (F i).1 wr hS.a hNe hB H.out.2.2.2.2.2.2.2.2.2.2.1 hbd
      obtain ⟨q, hq⟩ : ∃ q, lookE e o (F i).1 = q := ⟨_, rfl⟩
      obtain ⟨hq1, hq2, hq3⟩ := look_len e o (F i).1 L hbd.g hbd.l
      rw [hq] at C hst hq1 hq2 hq3
      have hqb : q.2.first.length ≤ L ∧ q.2.last.length ≤ L ∧ (F i).2.first.length ≤ L ∧ (F i).2.last.length ≤ L ∧ q.1.pr.length + L * L ≤ 2000000 := by
        have := hbd.l
        exact ⟨by omega, by omega, by omega, by omega, by omega⟩
      have HC := Lib.hid C
      have HK := Lib.hid (And.intro hS (And.intro hst hqb))
      clear C hS kbw hbw hkw hrow hNe hbd hf1 hl1 hp1 hst hqb hq hq1 hq2 hq3 he
      go_wp2_with fail
      refine HC.out.mono ?_
      rintro r w4 ⟨x1, x2, x5, pf, pl, rfl, ha4, hm4, hf4, hl4⟩
      have hS4 := HK.out.1.on ha4 hm4
      obtain ⟨Af, cf, hpf⟩ := slx_form hf4
      obtain ⟨Al, cl, hpl⟩ := slx_form hl4
      have hqo : w.heap.size + 1 + 1 < wr.heap.size := HK.out.1.q.c.lt
      have hf4 := hf4.lower (n' := w.heap.size + 1 + 1 + 1) hqo
      have hl4 := hl4.lower (n' := w.heap.size + 1 + 1 + 1) hqo
      subst hpf hpl
      have al := below_new w4 (.cells #[.bool q.2.empty, .slice Af q.2.first.length cf, .slice Al q.2.last.length cl] 101)
      have hS5 := hS4.below al
      have kp : Kept (w4.alloc (.cells #[.bool q.2.empty, .slice Af q.2.first.length cf, .slice Al q.2.last.length cl] 101)) b x1 x2 x5 w4.heap.size 101 #[.bool q.2.empty, .slice Af q.2.first.length cf, .slice Al q.2.last.length cl] := ⟨cells_new _ _ _, ha4.fresh (Nat.le_refl _)⟩
      have hf5 := hf4.mv (LkMv.of_below x1 x2 x5 al)
      have hl5 := hl4.mv (LkMv.of_below x1 x2 x5 al)
      obtain ⟨w5, hw5⟩ : ∃ W, w4.alloc (.cells #[.bool q.2.empty, .slice Af q.2.first.length cf, .slice Al q.2.last.length cl] 101) = W := ⟨_, rfl⟩
      obtain ⟨qp, hqp⟩ : ∃ g, w4.heap.size = g := ⟨_, rfl⟩
      have hqpo : w.heap.size + 1 + 1 < qp := by rw [← hqp]; exact Nat.lt_of_lt_of_le hqo hm4.fz.size
      rw [hw5] at hS5 kp hf5 hl5
      rw [hqp] at kp
      have kbw := H.out.2.1.mv hS5.m
      have HW5 := Lib.hid (And.intro hw5 hqp)
      obtain ⟨Ag, cg, hvf⟩ := slx_form hS5.f
      obtain ⟨Ah, ch, hvl⟩ := slx_form hS5.l
      subst hvf hvl
      have t0 := kbw.c.cell 0
      simp at t0
      have HT := Lib.hid (And.intro hS5 (And.intro kp (And.intro hf5 (And.intro hl5 kbw))))
      have lt1 : w.heap.size < w4.heap.size := by rw [hqp]; omega
      have t1 : w4.cell? ⟨w.heap.size, 0, none⟩ = some (.int .i64 k) := by
        have := (H.out.2.1.mv hS4.m).c.cell 0
        simpa using this
      clear hS4 hf4 hl4 ha4 hm4 al hS5 kp hf5 hl5 kbw hw5 hqp d0 d1 d2 e0 e2
      by_cases hk4 : k = 4
      · have j4 : (k != 4) = false := by simpa using hk4
        have hst4 : F (i + 1) = (q.1.pair (F i).2.last q.2.first, ⟨(F i).2.empty && q.2.empty, if (F i).2.empty then (F i).2.first ++ q.2.first else (F i).2.first, if q.2.empty then (F i).2.last ++ q.2.last else q.2.last⟩) := by rw [HK.out.2.1]; simp only [addS, addP, if_pos hk4]
        have HK4 := Lib.hid hk4
        clear hk4
        have hqb := HK.out.2.2
        have hmul := mul_le2 hqb.2.2.2.1 hqb.1
        have C := pair_look HT.out.1.a HT.out.1.l HT.out.2.2.1 (by omega)
        have o2 := HT.out.1.q.c.cell 2
        have p1 := HT.out.2.1.c.cell 1
        simp at o2 p1
        have HC15 := Lib.hid C
        have HST := Lib.hid hst4
        clear C hst4 hmul t0
        go_upto_region 15 with fail
        rw [HW5.out.1, HW5.out.2]
        go_wp2_with fail
        refine HC15.out.mono ?_
        rintro r w6 ⟨rfl, z5, ha6, hm6⟩
        have hS6 := HT.out.1.on ha6 hm6
        have kp6 := HT.out.2.1.mv hm6
        have hf6 := HT.out.2.2.1.mv hm6
        have hl6 := HT.out.2.2.2.1.mv hm6
        clear o2 p1 t1 lt1
        have hqq : w.heap.size + 1 + 1 ≠ qp := by omega
        cases hpe : (F i).2.empty with
        | true =>
          have HPE := Lib.hid hpe
          clear hpe
          have o0 := hS6.q.c.cell 0
          rw [HPE.out] at o0
          have o1 := hS6.q.c.cell 1
          have p1 := kp6.c.cell 1
          simp at o0 o1 p1
          have C := join_look hS6.f hf6 (by omega)
          have HCJ1 := Lib.hid C
          have H6 := Lib.hid (And.intro hS6 (And.intro kp6 (And.intro hf6 hl6)))
          clear C hS6 kp6 hf6 hl6 ha6 hm6
          go_wp2_with fail
          refine HCJ1.out.mono ?_
          rintro r w7 ⟨J1, J1c, rfl, ho7, hb7⟩
          have hS7 := H6.out.1.below hb7
          have hx7 : SlX w7 (Xs b x1 x2 z5 ((w.heap.size + 1 + 1) + 1)) ((F i).2.first ++ q.2.first) (.slice J1 ((F i).2.first.length + q.2.first.length) J1c) := (slx_ofI ho7 (fun y hy => by rcases List.mem_append.1 hy with e | e; exact slx_ints H6.out.1.f y e; exact slx_ints H6.out.2.2.1 y e) (fun g hg => H6.out.1.a.fresh hg)).lower (by have := H6.out.1.q.c.lt; omega)
          clear o0 o1 p1
          have o1 := hS7.q.c.cell 1
          simp at o1
          have g1 := hS7.q.c.froz 1
          have z7 := hS7.q.c.lt
          have hL7 := hS7.put1 (by omega) hx7
          have kp7 := (H6.out.2.1.mv (LkMv.of_below _ _ _ hb7)).set_ne (i := 1) hqq (.slice J1 ((F i).2.first.length + q.2.first.length) J1c)
          have hl7 := (H6.out.2.2.2.mv (LkMv.of_below _ _ _ hb7)).set (q := w.heap.size + 1 + 1) (Nat.lt_succ_self _) 1 (.slice J1 ((F i).2.first.length + q.2.first.length) J1c)
          obtain ⟨W7, hW7⟩ : ∃ W, w7.setCell ⟨w.heap.size + 1 + 1, 1, none⟩ (.slice J1 ((F i).2.first.length + q.2.first.length) J1c) = W := ⟨_, rfl⟩
          rw [hW7] at hL7 kp7 hl7
          have HW7 := Lib.hid hW7
          have HL7 := Lib.hid hL7
          have HP7 := Lib.hid kp7
          have Hl7 := Lib.hid hl7
          clear hL7 kp7 hl7 hW7 hx7 ho7 hb7 hS7
          go_upto_region 18 with fail
          rw [HW7.out]
          clear o1 g1 z7
          cases hqe : q.2.empty with
          | true =>
            have HQE := Lib.hid hqe
            clear hqe
            have p0 := HP7.out.c.cell 0
            rw [HQE.out] at p0
            have o0 := HL7.out.q.c.cell 0
            have o2 := HL7.out.q.c.cell 2
            have p2 := HP7.out.c.cell 2
            simp at o0 o2 p2
            rw [HPE.out] at o0
            simp at p0
            have g2 := HL7.out.q.c.froz 2
            have z2' := HL7.out.q.c.lt
            have C := join_look HL7.out.l Hl7.out (by have := HK.out.2.2; show (F i).2.last.length + q.2.last.length ≤ 100000; omega)
            have HCJ := Lib.hid C
            clear C
            go_wp2_with fail
            refine HCJ.out.mono ?_
            rintro r w8 ⟨J2, J2c, rfl, ho8, hb8⟩
            have hS8 := HL7.out.below hb8
            have kp8 := HP7.out.mv (LkMv.of_below _ _ _ hb8)
            have hx8 : SlX w8 (Xs b x1 x2 z5 ((w.heap.size + 1 + 1) + 1)) ((F i).2.last ++ q.2.last) (.slice J2 ((F i).2.last.length + q.2.last.length) J2c) := (slx_ofI ho8 (fun y hy => by rcases List.mem_append.1 hy with e | e; exact slx_ints HL7.out.l y e; exact slx_ints Hl7.out y e) (fun g hg => HL7.out.a.fresh hg)).lower (by have := HL7.out.q.c.lt; omega)
            clear o0 o2 p0 p2 g2 z2'
            have o0 := hS8.q.c.cell 0
            rw [HPE.out] at o0
            have o2 := hS8.q.c.cell 2
            have p0 := kp8.c.cell 0
            rw [HQE.out] at p0
            simp at o0 o2 p0
            have g0 := hS8.q.c.froz 0
            have g2 := hS8.q.c.froz 2
            have z8 := hS8.q.c.lt
            have z9 := kp8.c.lt
            have hS9 := hS8.put2 (by omega) hx8
            have hS10 := hS9.put0 (e := true) (by omega)
            have hst6 : F (i + 1) = (q.1.pair (F i).2.last q.2.first, ⟨true, (F i).2.first ++ q.2.first, (F i).2.last ++ q.2.last⟩) := by rw [HST.out, HPE.out, HQE.out]; rfl
            have hend : ∃ (i' : Nat) (y1 y2 y5 vf vl : Value), Value.int .i64 ((i : Int) + 1) = .int .i64 (i' : Int) ∧ i' ≤ n ∧ LoS b (w.heap.size + 1 + 1) c0 c3 c4 c6 v1 v2 v5 W2 _ (F i').1 (F i').2 y1 y2 y5 vf vl := ⟨i + 1, _, _, _, _, _, by simp, by omega, by rw [hst6]; exact hS10⟩
            have HEND := Lib.hid hend
            clear hend hst6 hS9 hS10 hS8 kp8 hx8 ho8 hb8
            go_wp2_with fail
            go_roundw
            case rel => exact HEND.out
            case measure => simp [RowKit.intOf]; omega
          | false =>
            have HQE := Lib.hid hqe
            clear hqe
            have p0 := HP7.out.c.cell 0
            rw [HQE.out] at p0
            have o0 := HL7.out.q.c.cell 0
            have o2 := HL7.out.q.c.cell 2
            have p2 := HP7.out.c.cell 2
            simp at o0 o2 p2
            rw [HPE.out] at o0
            simp at p0
            have g2 := HL7.out.q.c.froz 2
            have z2' := HL7.out.q.c.lt
            have hS8 := HL7.out
            have kp8 := HP7.out
            have g0 := hS8.q.c.froz 0
            have z9 := kp8.c.lt
            have hS9 := hS8.put2 (by omega) Hl7.out
            have hS10 := hS9.put0 (e := false) (by omega)
            have hst6 : F (i + 1) = (q.1.pair (F i).2.last q.2.first, ⟨false, (F i).2.first ++ q.2.first, q.2.last⟩) := by rw [HST.out, HPE.out, HQE.out]; rfl
            have hend : ∃ (i' : Nat) (y1 y2 y5 vf vl : Value), Value.int .i64 ((i : Int) + 1) = .int .i64 (i' : Int) ∧ i' ≤ n ∧ LoS b (w.heap.size + 1 + 1) c0 c3 c4 c6 v1 v2 v5 W2 _ (F i').1 (F i').2 y1 y2 y5 vf vl := ⟨i + 1, _, _, _, _, _, by simp, by omega, by rw [hst6]; exact hS10⟩
            have HEND := Lib.hid hend
            clear hend hst6 hS9 hS10 hS8 kp8
            go_wp2_with fail
            go_roundw
            case rel => exact HEND.out
            case measure => simp [RowKit.intOf]; omega
        | false =>
          have HPE := Lib.hid hpe
          clear hpe
          have HL7 := Lib.hid hS6
          have HP7 := Lib.hid kp6
          have Hl7 := Lib.hid hl6
          clear hS6 kp6 hf6 hl6 ha6 hm6
          have o0' := HL7.out.q.c.cell 0
          rw [HPE.out] at o0'
          simp at o0'
          go_upto_region 18 with fail
          clear o0'
          cases hqe : q.2.empty with
          | true =>
            have HQE := Lib.hid hqe
            clear hqe
            have p0 := HP7.out.c.cell 0
            rw [HQE.out] at p0
            have o0 := HL7.out.q.c.cell 0
            have o2 := HL7.out.q.c.cell 2
            have p2 := HP7.out.c.cell 2
            simp at o0 o2 p2
            rw [HPE.out] at o0
            simp at p0
            have g2 := HL7.out.q.c.froz 2
            have z2' := HL7.out.q.c.lt
            have C := join_look HL7.out.l Hl7.out (by have := HK.out.2.2; show (F i).2.last.length + q.2.last.length ≤ 100000; omega)
            have HCJ := Lib.hid C
            clear C
            go_wp2_with fail
            refine HCJ.out.mono ?_
            rintro r w8 ⟨J2, J2c, rfl, ho8, hb8⟩
            have hS8 := HL7.out.below hb8
            have kp8 := HP7.out.mv (LkMv.of_below _ _ _ hb8)
            have hx8 : SlX w8 (Xs b x1 x2 z5 ((w.heap.size + 1 + 1) + 1)) ((F i).2.last ++ q.2.last) (.slice J2 ((F i).2.last.length + q.2.last.length) J2c) := (slx_ofI ho8 (fun y hy => by rcases List.mem_append.1 hy with e | e; exact slx_ints HL7.out.l y e; exact slx_ints Hl7.out y e) (fun g hg => HL7.out.a.fresh hg)).lower (by have := HL7.out.q.c.lt; omega)
            clear o0 o2 p0 p2 g2 z2'
            have o0 := hS8.q.c.cell 0
            rw [HPE.out] at o0
            have o2 := hS8.q.c.cell 2
            have p0 := kp8.c.cell 0
            rw [HQE.out] at p0
            simp at o0 o2 p0
            have g0 := hS8.q.c.froz 0
            have g2 := hS8.q.c.froz 2
            have z8 := hS8.q.c.lt
            have z9 := kp8.c.lt
            have hS9 := hS8.put2 (by omega) hx8
            have hS10 := hS9.put0 (e := false) (by omega)
            have hst6 : F (i + 1) = (q.1.pair (F i).2.last q.2.first, ⟨false, (F i).2.first, (F i).2.last ++ q.2.last⟩) := by rw [HST.out, HPE.out, HQE.out]; rfl
            have hend : ∃ (i' : Nat) (y1 y2 y5 vf vl : Value), Value.int .i64 ((i : Int) + 1) = .int .i64 (i' : Int) ∧ i' ≤ n ∧ LoS b (w.heap.size + 1 + 1) c0 c3 c4 c6 v1 v2 v5 W2 _ (F i').1 (F i').2 y1 y2 y5 vf vl := ⟨i + 1, _, _, _, _, _, by simp, by omega, by rw [hst6]; exact hS10⟩
            have HEND := Lib.hid hend
            clear hend hst6 hS9 hS10 hS8 kp8 hx8 ho8 hb8
            go_wp2_with fail
            go_roundw
            case rel => exact HEND.out
            case measure => simp [RowKit.intOf]; omega
          | false =>
            have HQE := Lib.hid hqe
            clear hqe
            have p0 := HP7.out.c.cell 0
            rw [HQE.out] at p0
            have o0 := HL7.out.q.c.cell 0
            have o2 := HL7.out.q.c.cell 2
            have p2 := HP7.out.c.cell 2
            simp at o0 o2 p2
            rw [HPE.out] at o0
            simp at p0
            have g2 := HL7.out.q.c.froz 2
            have z2' := HL7.out.q.c.lt
            have hS8 := HL7.out
            have kp8 := HP7.out
            have g0 := hS8.q.c.froz 0
            have z9 := kp8.c.lt
            have hS9 := hS8.put2 (by omega) Hl7.out
            have hS10 := hS9.put0 (e := false) (by omega)
            have hst6 : F (i + 1) = (q.1.pair (F i).2.last q.2.first, ⟨false, (F i).2.first, q.2.last⟩) := by rw [HST.out, HPE.out, HQE.out]; rfl
            have hend : ∃ (i' : Nat) (y1 y2 y5 vf vl : Value), Value.int .i64 ((i : Int) + 1) = .int .i64 (i' : Int) ∧ i' ≤ n ∧ LoS b (w.heap.size + 1 + 1) c0 c3 c4 c6 v1 v2 v5 W2 _ (F i').1 (F i').2 y1 y2 y5 vf vl := ⟨i + 1, _, _, _, _, _, by simp, by omega, by rw [hst6]; exact hS10⟩
            have HEND := Lib.hid hend
            clear hend hst6 hS9 hS10 hS8 kp8
            go_wp2_with fail
            go_roundw
            case rel => exact HEND.out
            case measure => simp [RowKit.intOf]; omega
      · have j4 : (k != 4) = true := by simpa using hk4
        go_upto_region 14 with fail
        rw [HW5.out.1, HW5.out.2]
        have hst4 : F (i + 1) = (q.1, ⟨(F i).2.empty || q.2.empty, (F i).2.first ++ q.2.first, (F i).2.last ++ q.2.last⟩) := by rw [HK.out.2.1]; simp only [addS, addP, if_neg hk4]
        have hj : ∀ W vf' vl', LoS b (w.heap.size + 1 + 1) c0 c3 c4 c6 v1 v2 v5 W2 W q.1 ⟨(F i).2.empty || q.2.empty, (F i).2.first ++ q.2.first, (F i).2.last ++ q.2.last⟩ x1 x2 x5 vf' vl' → ∃ (i' : Nat) (y1 y2 y5 vf vl : Value), Value.int .i64 ((i : Int) + 1) = .int .i64 (i' : Int) ∧ i' ≤ n ∧ LoS b (w.heap.size + 1 + 1) c0 c3 c4 c6 v1 v2 v5 W2 W (F i').1 (F i').2 y1 y2 y5 vf vl := fun W vf' vl' hh => ⟨i + 1, _, _, _, _, _, by simp, by omega, by rw [hst4]; exact hh⟩
        have HJ := Lib.hid hj
        have HS0 := Lib.hid (show Cells w5.drew qp 101 #[.bool q.2.empty, .slice Af q.2.first.length cf, .slice Al q.2.last.length cl] from HT.out.2.1.c)
        obtain ⟨wd, hwd⟩ : ∃ W, w5.drew = W := ⟨_, rfl⟩
        have HWD := Lib.hid hwd
        have HVd := Lib.hid (show Below w5.heap.size w5 wd by rw [← hwd]; exact (Below.refl _ _).drew)
        have HSd := Lib.hid (show Cells wd qp 101 #[.bool q.2.empty, .slice Af q.2.first.length cf, .slice Al q.2.last.length cl] by rw [← hwd]; exact HT.out.2.1.c)
        clear hst4 hj hwd t0 t1 lt1
        cases hpe : (F i).2.empty with
        | true =>
          have HPE := Lib.hid hpe
          clear hpe
          refine wp_region_noPanic ?_
          refine wp_region_held_drew (S := fun W => Cells W qp 101 #[.bool q.2.empty, .slice Af q.2.first.length cf, .slice Al q.2.last.length cl]) (by kernel_rfl) HS0.out (fun hH => ?_)
          rw [HWD.out]
          have hH := HSd.out
          refine wpAnyH_take (i := 0) (oi := { dst := some 72, op := Op.fieldAddr 101 (Operand.tmp 8) 0, type := 0, pos := "ref.go:41", after := #[], guard := none }) (v := ?_) rfl (by kernel_rfl) (by kernel_rfl) (by kernel_rfl) (fun _ _ _ h => h) (Or.inl ⟨by rfl, ?_⟩) (by exact hH) ?_
          rotate_left
          · intro W hSw
            go_simp
            try with_reducible rfl
          try simp only [Act.put, List.setIfInBounds_toArray, List.set_cons_zero, List.set_cons_succ]
          refine wpAnyH_take (i := 6) (oi := { dst := some 78, op := Op.fieldAddr 101 (Operand.tmp 8) 1, type := 0, pos := "ref.go:41", after := #[], guard := none }) (v := ?_) rfl (by kernel_rfl) (by kernel_rfl) (by kernel_rfl) (fun _ _ _ h => h) (Or.inl ⟨by rfl, ?_⟩) (by exact hH) ?_
          rotate_left
          · intro W hSw
            go_simp
            try with_reducible rfl
          try simp only [Act.put, List.setIfInBounds_toArray, List.set_cons_zero, List.set_cons_succ]
          refine wpAnyH_take (i := 8) (oi := { dst := some 80, op := Op.fieldAddr 101 (Operand.tmp 10) 1, type := 0, pos := "ref.go:41", after := #[], guard := none }) (v := ?_) rfl (by kernel_rfl) (by kernel_rfl) (by kernel_rfl) (fun _ _ _ h => h) (Or.inl ⟨by rfl, ?_⟩) (by exact hH) ?_
          rotate_left
          · intro W hSw
            go_simp
            try with_reducible rfl
          try simp only [Act.put, List.setIfInBounds_toArray, List.set_cons_zero, List.set_cons_succ]
          refine wpAnyH_take (i := 9) (oi := { dst := some 81, op := Op.load 23 (Operand.tmp 80), type := 23, pos := "ref.go:41", after := #[{ on := 8, ground := Ground.data }], guard := none }) (v := ?_) rfl (by kernel_rfl) (by kernel_rfl) (by kernel_rfl) (fun _ _ _ h => h) (Or.inl ⟨by rfl, ?_⟩) (by exact hH) ?_
          rotate_left
          · intro W hSw
            have p := hSw.cell 1
            simp at p
            go_simp
            try with_reducible rfl
          try simp only [Act.put, List.setIfInBounds_toArray, List.set_cons_zero, List.set_cons_succ]
          refine wpAnyH_take (i := 11) (oi := { dst := some 83, op := Op.fieldAddr 101 (Operand.tmp 8) 2, type := 0, pos := "ref.go:41", after := #[], guard := none }) (v := ?_) rfl (by kernel_rfl) (by kernel_rfl) (by kernel_rfl) (fun _ _ _ h => h) (Or.inl ⟨by rfl, ?_⟩) (by exact hH) ?_
          rotate_left
          · intro W hSw
            go_simp
            try with_reducible rfl
          try simp only [Act.put, List.setIfInBounds_toArray, List.set_cons_zero, List.set_cons_succ]
          refine wpAnyH_take (i := 13) (oi := { dst := some 85, op := Op.fieldAddr 101 (Operand.tmp 10) 2, type := 0, pos := "ref.go:41", after := #[], guard := none }) (v := ?_) rfl (by kernel_rfl) (by kernel_rfl) (by kernel_rfl) (fun _ _ _ h => h) (Or.inl ⟨by rfl, ?_⟩) (by exact hH) ?_
          rotate_left
          · intro W hSw
            go_simp
            try with_reducible rfl
          try simp only [Act.put, List.setIfInBounds_toArray, List.set_cons_zero, List.set_cons_succ]
          refine wpAnyH_take (i := 14) (oi := { dst := some 86, op := Op.load 23 (Operand.tmp 85), type := 23, pos := "ref.go:41", after := #[{ on := 13, ground := Ground.data }], guard := none }) (v := ?_) rfl (by kernel_rfl) (by kernel_rfl) (by kernel_rfl) (fun _ _ _ h => h) (Or.inl ⟨by rfl, ?_⟩) (by exact hH) ?_
          rotate_left
          · intro W hSw
            have p := hSw.cell 2
            simp at p
            go_simp
            try with_reducible rfl
          try simp only [Act.put, List.setIfInBounds_toArray, List.set_cons_zero, List.set_cons_succ]
          refine wpAnyH_ready (rs := [1, 7, 12]) (by kernel_rfl) (by simp) ?_
          refine (AllReadyH.cons (o := { dst := some 73, op := Op.load 4 (Operand.tmp 72), type := 4, pos := "ref.go:41", after := #[{ on := 0, ground := Ground.data }], guard := none }) rfl (fun K hK => ?_) (AllReadyH.cons (o := { dst := some 79, op := Op.load 23 (Operand.tmp 78), type := 23, pos := "ref.go:41", after := #[{ on := 6, ground := Ground.data }], guard := none }) rfl (fun K hK => ?_) (AllReadyH.cons (o := { dst := some 84, op := Op.load 23 (Operand.tmp 83), type := 23, pos := "ref.go:41", after := #[{ on := 11, ground := Ground.data }], guard := none }) rfl (fun K hK => ?_) AllReadyH.nil)))
          ·
            have pl := (HT.out.1.below HVd.out).q.c.cell 0
            rw [HPE.out] at pl
            simp at pl
            go_simp
            refine hK.out _ _ (HT.out.2.1.c.on HVd.out) (fun hH => ?_)
            clear hK K pl
            try simp only [Act.put, List.setIfInBounds_toArray, List.set_cons_zero, List.set_cons_succ]
            refine wpAnyH_take (i := 2) (oi := { dst := some 74, op := Op.move (Operand.tmp 73), type := 4, pos := "ref.go:41", after := #[{ on := 1, ground := Ground.data }], guard := none }) (v := ?_) rfl (by kernel_rfl) (by kernel_rfl) (by kernel_rfl) (fun _ _ _ h => h) (Or.inl ⟨by rfl, ?_⟩) (by exact hH) ?_
            rotate_left
            · intro W hSw
              go_simp
              try with_reducible rfl
            try simp only [Act.put, List.setIfInBounds_toArray, List.set_cons_zero, List.set_cons_succ]
            refine wpAnyH_take (i := 3) (oi := { dst := some 75, op := Op.fieldAddr 101 (Operand.tmp 10) 0, type := 0, pos := "ref.go:41", after := #[{ on := 2, ground := Ground.guard }], guard := some (2, false) }) (v := undef) rfl (by kernel_rfl) (by kernel_rfl) (by kernel_rfl) (fun _ _ _ h => h) (Or.inr ⟨by rfl, rfl⟩) (by exact hH) ?_
            try simp only [Act.put, List.setIfInBounds_toArray, List.set_cons_zero, List.set_cons_succ]
            refine wpAnyH_take (i := 4) (oi := { dst := some 76, op := Op.load 4 (Operand.tmp 75), type := 4, pos := "ref.go:41", after := #[{ on := 3, ground := Ground.data }, { on := 2, ground := Ground.guard }], guard := some (2, false) }) (v := undef) rfl (by kernel_rfl) (by kernel_rfl) (by kernel_rfl) (fun _ _ _ h => h) (Or.inr ⟨by rfl, rfl⟩) (by exact hH) ?_
            try simp only [Act.put, List.setIfInBounds_toArray, List.set_cons_zero, List.set_cons_succ]
            refine wpAnyH_take (i := 5) (oi := { dst := some 77, op := Op.pick (Operand.tmp 74) (Operand.const (Value.bool true)) (Operand.tmp 76), type := 4, pos := "ref.go:41", after := #[{ on := 2, ground := Ground.data }, { on := 4, ground := Ground.data }], guard := none }) (v := ?_) rfl (by kernel_rfl) (by kernel_rfl) (by kernel_rfl) (fun _ _ _ h => h) (Or.inl ⟨by rfl, ?_⟩) (by exact hH) ?_
            rotate_left
            · intro W hSw
              go_simp
              try with_reducible rfl
            try simp only [Act.put, List.setIfInBounds_toArray, List.set_cons_zero, List.set_cons_succ]
            refine wpAnyH_ready (rs := [7, 12]) (by kernel_rfl) (by simp) ?_
            refine (AllReadyH.cons (o := { dst := some 79, op := Op.load 23 (Operand.tmp 78), type := 23, pos := "ref.go:41", after := #[{ on := 6, ground := Ground.data }], guard := none }) rfl (fun K hK => ?_) (AllReadyH.cons (o := { dst := some 84, op := Op.load 23 (Operand.tmp 83), type := 23, pos := "ref.go:41", after := #[{ on := 11, ground := Ground.data }], guard := none }) rfl (fun K hK => ?_) AllReadyH.nil))
            ·
              have pl := (HT.out.1.below HVd.out).q.c.cell 1
              simp at pl
              go_simp
              refine hK.out _ _ (HT.out.2.1.c.on HVd.out) (fun hH => ?_)
              clear hK K pl
              try simp only [Act.put, List.setIfInBounds_toArray, List.set_cons_zero, List.set_cons_succ]
              refine wpAnyH_ready (rs := [10, 12]) (by kernel_rfl) (by simp) ?_
              refine (AllReadyH.cons (o := { dst := some 82, op := Op.call { callee := Callee.value (Operand.func 53), args := #[Operand.tmp 79, Operand.tmp 81], argTypes := #[23, 23] }, type := 23, pos := "ref.go:41", after := #[{ on := 7, ground := Ground.data }, { on := 9, ground := Ground.data }, { on := 2, ground := Ground.chain }], guard := none }) rfl (fun K hK => ?_) (AllReadyH.cons (o := { dst := some 84, op := Op.load 23 (Operand.tmp 83), type := 23, pos := "ref.go:41", after := #[{ on := 11, ground := Ground.data }], guard := none }) rfl (fun K hK => ?_) AllReadyH.nil))
              ·
                go_simp
                go_at_call 53
                refine (join_look (HT.out.1.below HVd.out).f (HT.out.2.2.1.mv (LkMv.of_below _ _ _ HVd.out)) (by have := HK.out.2.2; omega)).mono ?_
                rintro e V3 ⟨J1, J1c, rfl, ho, hbk⟩
                have hx3 : SlX V3 (Xs b x1 x2 x5 ((w.heap.size + 1 + 1) + 1)) ((F i).2.first ++ q.2.first) (.slice J1 ((F i).2.first.length + q.2.first.length) J1c) := (slx_ofI ho (fun y hy => by rcases List.mem_append.1 hy with e | e; exact slx_ints (HT.out.1.f) y e; exact slx_ints HT.out.2.2.1 y e) (fun g hg => (HT.out.1.below HVd.out).a.fresh hg)).lower (n' := (w.heap.size + 1 + 1) + 1) (by have := (HT.out.1.below HVd.out).q.c.lt; omega)
                have HV3 := Lib.hid (HVd.out.trans (hbk.mono HVd.out.size))
                have HX3 := Lib.hid hx3
                clear hx3 ho hbk
                try go_wp2_with fail
                refine hK.out _ _ (HT.out.2.1.c.on HV3.out) (fun hH => ?_)
                clear hK K
                try simp only [Act.put, List.setIfInBounds_toArray, List.set_cons_zero, List.set_cons_succ]
                refine wpAnyH_ready (rs := [12]) (by kernel_rfl) (by simp) ?_
                refine (AllReadyH.cons (o := { dst := some 84, op := Op.load 23 (Operand.tmp 83), type := 23, pos := "ref.go:41", after := #[{ on := 11, ground := Ground.data }], guard := none }) rfl (fun K hK => ?_) AllReadyH.nil)
                have pl := (HT.out.1.below HV3.out).q.c.cell 2
                simp at pl
                go_simp
                refine hK.out _ _ (HT.out.2.1.c.on HV3.out) (fun hH => ?_)
                clear hK K pl
                try simp only [Act.put, List.setIfInBounds_toArray, List.set_cons_zero, List.set_cons_succ]
                refine wpAnyH_ready (rs := [15]) (by kernel_rfl) (by simp) ?_
                refine (AllReadyH.cons (o := { dst := some 87, op := Op.call { callee := Callee.value (Operand.func 53), args := #[Operand.tmp 84, Operand.tmp 86], argTypes := #[23, 23] }, type := 23, pos := "ref.go:41", after := #[{ on := 12, ground := Ground.data }, { on := 14, ground := Ground.data }, { on := 10, ground := Ground.chain }], guard := none }) rfl (fun K hK => ?_) AllReadyH.nil)
                go_simp
                go_at_call 53
                refine (join_look (HT.out.1.below HV3.out).l (HT.out.2.2.2.1.mv (LkMv.of_below _ _ _ HV3.out)) (by have := HK.out.2.2; omega)).mono ?_
                rintro e V5 ⟨J2, J2c, rfl, ho, hbk⟩
                have hx5 : SlX V5 (Xs b x1 x2 x5 ((w.heap.size + 1 + 1) + 1)) ((F i).2.last ++ q.2.last) (.slice J2 ((F i).2.last.length + q.2.last.length) J2c) := (slx_ofI ho (fun y hy => by rcases List.mem_append.1 hy with e | e; exact slx_ints (HT.out.1.l) y e; exact slx_ints HT.out.2.2.2.1 y e) (fun g hg => (HT.out.1.below HV3.out).a.fresh hg)).lower (n' := (w.heap.size + 1 + 1) + 1) (by have := (HT.out.1.below HV3.out).q.c.lt; omega)
                have HV5 := Lib.hid (HV3.out.trans (hbk.mono HV3.out.size))
                have hy5 := HX3.out.mv (LkMv.of_below x1 x2 x5 hbk)
                have HY5 := Lib.hid hy5
                clear hy5
                have HX5 := Lib.hid hx5
                clear hx5 ho hbk
                try go_wp2_with fail
                refine hK.out _ _ (HT.out.2.1.c.on HV5.out) (fun hH => ?_)
                clear hK K
                try simp only [Act.put, List.setIfInBounds_toArray, List.set_cons_zero, List.set_cons_succ]
                refine wpAnyH_take (i := 16) (oi := { dst := some 88, op := Op.build 101 #[(0, Operand.tmp 77), (1, Operand.tmp 82), (2, Operand.tmp 87)], type := 101, pos := "ref.go:41", after := #[{ on := 5, ground := Ground.data }, { on := 10, ground := Ground.data }, { on := 15, ground := Ground.data }], guard := none }) (v := ?_) rfl (by kernel_rfl) (by kernel_rfl) (by kernel_rfl) (fun _ _ _ h => h) (Or.inl ⟨by rfl, ?_⟩) (by exact hH) ?_
                rotate_left
                · intro W hSw
                  go_simp
                  try with_reducible rfl
                try simp only [Act.put, List.setIfInBounds_toArray, List.set_cons_zero, List.set_cons_succ]
                refine wpAnyH_ready (rs := [17]) (by kernel_rfl) (by simp) ?_
                refine AllReadyH.cons (o := { dst := none, op := Op.store 101 (Operand.tmp 8) (Operand.tmp 88), type := 0, pos := "ref.go:41", after := #[{ on := 16, ground := Ground.data }, { on := 15, ground := Ground.chain }, { on := 0, ground := Ground.phase }, { on := 1, ground := Ground.phase }, { on := 2, ground := Ground.phase }, { on := 3, ground := Ground.phase }, { on := 4, ground := Ground.phase }, { on := 5, ground := Ground.phase }, { on := 6, ground := Ground.phase }, { on := 7, ground := Ground.phase }, { on := 8, ground := Ground.phase }, { on := 9, ground := Ground.phase }, { on := 10, ground := Ground.phase }, { on := 11, ground := Ground.phase }, { on := 12, ground := Ground.phase }, { on := 13, ground := Ground.phase }, { on := 14, ground := Ground.phase }, { on := 15, ground := Ground.phase }, { on := 16, ground := Ground.phase }], guard := none }) rfl (fun K hK => ?_) AllReadyH.nil
                have hL := HT.out.1.below HV5.out
                have p0 := hL.q.c.cell 0
                have p1 := hL.q.c.cell 1
                have p2 := hL.q.c.cell 2
                simp at p0 p1 p2
                have g0 := hL.q.c.froz 0
                have g1 := hL.q.c.froz 1
                have g2 := hL.q.c.froz 2
                have z0 := hL.q.c.lt
                have hP := hL.put (p' := ⟨(F i).2.empty || q.2.empty, (F i).2.first ++ q.2.first, (F i).2.last ++ q.2.last⟩) (e := true) (by omega) (by rw [HPE.out]; rfl) HY5.out HX5.out
                have hend := HJ.out _ _ _ hP
                have HEND := Lib.hid hend
                have hq3 := (((((HT.out.2.1.c.on HV5.out)))))
                have hkq : (w.heap.size + 1 + 1) ≠ qp := by omega
                clear hL hP hend
                go_simp
                refine hK.out _ _ (show Cells _ qp 101 #[.bool q.2.empty, .slice Af q.2.first.length cf, .slice Al q.2.last.length cl] from (Below.heap_setCell _ _ _ _ (by first | exact hkq | exact hkq.symm)).trans ((Below.heap_setCell _ _ _ _ (by first | exact hkq | exact hkq.symm)).trans ((Below.heap_setCell _ _ _ _ (by first | exact hkq | exact hkq.symm)).trans hq3))) (fun hH => ?_)
                clear hK K p0 p1 p2 g0 g1 g2 z0 hq3
                try simp only [Act.put, List.setIfInBounds_toArray, List.set_cons_zero, List.set_cons_succ]
                refine wpAnyH_done (by kernel_rfl) ?_ _
                refine NoPanic.normal ?_
                go_wp2_with fail
                go_roundw
                case rel => exact HEND.out
                case measure => simp [RowKit.intOf]; omega
              ·
                have pl := (HT.out.1.below HVd.out).q.c.cell 2
                simp at pl
                go_simp
                refine hK.out _ _ (HT.out.2.1.c.on HVd.out) (fun hH => ?_)
                clear hK K pl
                try simp only [Act.put, List.setIfInBounds_toArray, List.set_cons_zero, List.set_cons_succ]
                refine wpAnyH_ready (rs := [10]) (by kernel_rfl) (by simp) ?_
                refine (AllReadyH.cons (o := { dst := some 82, op := Op.call { callee := Callee.value (Operand.func 53), args := #[Operand.tmp 79, Operand.tmp 81], argTypes := #[23, 23] }, type := 23, pos := "ref.go:41", after := #[{ on := 7, ground := Ground.data }, { on := 9, ground := Ground.data }, { on := 2, ground := Ground.chain }], guard := none }) rfl (fun K hK => ?_) AllReadyH.nil)
                go_simp
                go_at_call 53
                refine (join_look (HT.out.1.below HVd.out).f (HT.out.2.2.1.mv (LkMv.of_below _ _ _ HVd.out)) (by have := HK.out.2.2; omega)).mono ?_
                rintro e V7 ⟨J1, J1c, rfl, ho, hbk⟩
                have hx7 : SlX V7 (Xs b x1 x2 x5 ((w.heap.size + 1 + 1) + 1)) ((F i).2.first ++ q.2.first) (.slice J1 ((F i).2.first.length + q.2.first.length) J1c) := (slx_ofI ho (fun y hy => by rcases List.mem_append.1 hy with e | e; exact slx_ints (HT.out.1.f) y e; exact slx_ints HT.out.2.2.1 y e) (fun g hg => (HT.out.1.below HVd.out).a.fresh hg)).lower (n' := (w.heap.size + 1 + 1) + 1) (by have := (HT.out.1.below HVd.out).q.c.lt; omega)
                have HV7 := Lib.hid (HVd.out.trans (hbk.mono HVd.out.size))
                have HX7 := Lib.hid hx7
                clear hx7 ho hbk
                try go_wp2_with fail
                refine hK.out _ _ (HT.out.2.1.c.on HV7.out) (fun hH => ?_)
                clear hK K
                try simp only [Act.put, List.setIfInBounds_toArray, List.set_cons_zero, List.set_cons_succ]
                refine wpAnyH_ready (rs := [15]) (by kernel_rfl) (by simp) ?_
                refine (AllReadyH.cons (o := { dst := some 87, op := Op.call { callee := Callee.value (Operand.func 53), args := #[Operand.tmp 84, Operand.tmp 86], argTypes := #[23, 23] }, type := 23, pos := "ref.go:41", after := #[{ on := 12, ground := Ground.data }, { on := 14, ground := Ground.data }, { on := 10, ground := Ground.chain }], guard := none }) rfl (fun K hK => ?_) AllReadyH.nil)
                go_simp
                go_at_call 53
                refine (join_look (HT.out.1.below HV7.out).l (HT.out.2.2.2.1.mv (LkMv.of_below _ _ _ HV7.out)) (by have := HK.out.2.2; omega)).mono ?_
                rintro e V8 ⟨J2, J2c, rfl, ho, hbk⟩
                have hx8 : SlX V8 (Xs b x1 x2 x5 ((w.heap.size + 1 + 1) + 1)) ((F i).2.last ++ q.2.last) (.slice J2 ((F i).2.last.length + q.2.last.length) J2c) := (slx_ofI ho (fun y hy => by rcases List.mem_append.1 hy with e | e; exact slx_ints (HT.out.1.l) y e; exact slx_ints HT.out.2.2.2.1 y e) (fun g hg => (HT.out.1.below HV7.out).a.fresh hg)).lower (n' := (w.heap.size + 1 + 1) + 1) (by have := (HT.out.1.below HV7.out).q.c.lt; omega)
                have HV8 := Lib.hid (HV7.out.trans (hbk.mono HV7.out.size))
                have hy8 := HX7.out.mv (LkMv.of_below x1 x2 x5 hbk)
                have HY8 := Lib.hid hy8
                clear hy8
                have HX8 := Lib.hid hx8
                clear hx8 ho hbk
                try go_wp2_with fail
                refine hK.out _ _ (HT.out.2.1.c.on HV8.out) (fun hH => ?_)
                clear hK K
                try simp only [Act.put, List.setIfInBounds_toArray, List.set_cons_zero, List.set_cons_succ]
                refine wpAnyH_take (i := 16) (oi := { dst := some 88, op := Op.build 101 #[(0, Operand.tmp 77), (1, Operand.tmp 82), (2, Operand.tmp 87)], type := 101, pos := "ref.go:41", after := #[{ on := 5, ground := Ground.data }, { on := 10, ground := Ground.data }, { on := 15, ground := Ground.data }], guard := none }) (v := ?_) rfl (by kernel_rfl) (by kernel_rfl) (by kernel_rfl) (fun _ _ _ h => h) (Or.inl ⟨by rfl, ?_⟩) (by exact hH) ?_
                rotate_left
                · intro W hSw
                  go_simp
                  try with_reducible rfl
                try simp only [Act.put, List.setIfInBounds_toArray, List.set_cons_zero, List.set_cons_succ]
                refine wpAnyH_ready (rs := [17]) (by kernel_rfl) (by simp) ?_
                refine AllReadyH.cons (o := { dst := none, op := Op.store 101 (Operand.tmp 8) (Operand.tmp 88), type := 0, pos := "ref.go:41", after := #[{ on := 16, ground := Ground.data }, { on := 15, ground := Ground.chain }, { on := 0, ground := Ground.phase }, { on := 1, ground := Ground.phase }, { on := 2, ground := Ground.phase }, { on := 3, ground := Ground.phase }, { on := 4, ground := Ground.phase }, { on := 5, ground := Ground.phase }, { on := 6, ground := Ground.phase }, { on := 7, ground := Ground.phase }, { on := 8, ground := Ground.phase }, { on := 9, ground := Ground.phase }, { on := 10, ground := Ground.phase }, { on := 11, ground := Ground.phase }, { on := 12, ground := Ground.phase }, { on := 13, ground := Ground.phase }, { on := 14, ground := Ground.phase }, { on := 15, ground := Ground.phase }, { on := 16, ground := Ground.phase }], guard := none }) rfl (fun K hK => ?_) AllReadyH.nil
                have hL := HT.out.1.below HV8.out
                have p0 := hL.q.c.cell 0
                have p1 := hL.q.c.cell 1
                have p2 := hL.q.c.cell 2
                simp at p0 p1 p2
                have g0 := hL.q.c.froz 0
                have g1 := hL.q.c.froz 1
                have g2 := hL.q.c.froz 2
                have z0 := hL.q.c.lt
                have hP := hL.put (p' := ⟨(F i).2.empty || q.2.empty, (F i).2.first ++ q.2.first, (F i).2.last ++ q.2.last⟩) (e := true) (by omega) (by rw [HPE.out]; rfl) HY8.out HX8.out
                have hend := HJ.out _ _ _ hP
                have HEND := Lib.hid hend
                have hq3 := (((((HT.out.2.1.c.on HV8.out)))))
                have hkq : (w.heap.size + 1 + 1) ≠ qp := by omega
                clear hL hP hend
                go_simp
                refine hK.out _ _ (show Cells _ qp 101 #[.bool q.2.empty, .slice Af q.2.first.length cf, .slice Al q.2.last.length cl] from (Below.heap_setCell _ _ _ _ (by first | exact hkq | exact hkq.symm)).trans ((Below.heap_setCell _ _ _ _ (by first | exact hkq | exact hkq.symm)).trans ((Below.heap_setCell _ _ _ _ (by first | exact hkq | exact hkq.symm)).trans hq3))) (fun hH => ?_)
                clear hK K p0 p1 p2 g0 g1 g2 z0 hq3
                try simp only [Act.put, List.setIfInBounds_toArray, List.set_cons_zero, List.set_cons_succ]
                refine wpAnyH_done (by kernel_rfl) ?_ _
                refine NoPanic.normal ?_
                go_wp2_with fail
                go_roundw
                case rel => exact HEND.out
                case measure => simp [RowKit.intOf]; omega
            ·
              have pl := (HT.out.1.below HVd.out).q.c.cell 2
              simp at pl
              go_simp
              refine hK.out _ _ (HT.out.2.1.c.on HVd.out) (fun hH => ?_)
              clear hK K pl
              try simp only [Act.put, List.setIfInBounds_toArray, List.set_cons_zero, List.set_cons_succ]
              refine wpAnyH_ready (rs := [7]) (by kernel_rfl) (by simp) ?_
              refine (AllReadyH.cons (o := { dst := some 79, op := Op.load 23 (Operand.tmp 78), type := 23, pos := "ref.go:41", after := #[{ on := 6, ground := Ground.data }], guard := none }) rfl (fun K hK => ?_) AllReadyH.nil)
              have pl := (HT.out.1.below HVd.out).q.c.cell 1
              simp at pl
              go_simp
              refine hK.out _ _ (HT.out.2.1.c.on HVd.out) (fun hH => ?_)
              clear hK K pl
              try simp only [Act.put, List.setIfInBounds_toArray, List.set_cons_zero, List.set_cons_succ]
              refine wpAnyH_ready (rs := [10]) (by kernel_rfl) (by simp) ?_
              refine (AllReadyH.cons (o := { dst := some 82, op := Op.call { callee := Callee.value (Operand.func 53), args := #[Operand.tmp 79, Operand.tmp 81], argTypes := #[23, 23] }, type := 23, pos := "ref.go:41", after := #[{ on := 7, ground := Ground.data }, { on := 9, ground := Ground.data }, { on := 2, ground := Ground.chain }], guard := none }) rfl (fun K hK => ?_) AllReadyH.nil)
              go_simp
              go_at_call 53
              refine (join_look (HT.out.1.below HVd.out).f (HT.out.2.2.1.mv (LkMv.of_below _ _ _ HVd.out)) (by have := HK.out.2.2; omega)).mono ?_
              rintro e V11 ⟨J1, J1c, rfl, ho, hbk⟩
              have hx11 : SlX V11 (Xs b x1 x2 x5 ((w.heap.size + 1 + 1) + 1)) ((F i).2.first ++ q.2.first) (.slice J1 ((F i).2.first.length + q.2.first.length) J1c) := (slx_ofI ho (fun y hy => by rcases List.mem_append.1 hy with e | e; exact slx_ints (HT.out.1.f) y e; exact slx_ints HT.out.2.2.1 y e) (fun g hg => (HT.out.1.below HVd.out).a.fresh hg)).lower (n' := (w.heap.size + 1 + 1) + 1) (by have := (HT.out.1.below HVd.out).q.c.lt; omega)
              have HV11 := Lib.hid (HVd.out.trans (hbk.mono HVd.out.size))
              have HX11 := Lib.hid hx11
              clear hx11 ho hbk
              try go_wp2_with fail
              refine hK.out _ _ (HT.out.2.1.c.on HV11.out) (fun hH => ?_)
              clear hK K
              try simp only [Act.put, List.setIfInBounds_toArray, List.set_cons_zero, List.set_cons_succ]
              refine wpAnyH_ready (rs := [15]) (by kernel_rfl) (by simp) ?_
              refine (AllReadyH.cons (o := { dst := some 87, op := Op.call { callee := Callee.value (Operand.func 53), args := #[Operand.tmp 84, Operand.tmp 86], argTypes := #[23, 23] }, type := 23, pos := "ref.go:41", after := #[{ on := 12, ground := Ground.data }, { on := 14, ground := Ground.data }, { on := 10, ground := Ground.chain }], guard := none }) rfl (fun K hK => ?_) AllReadyH.nil)
              go_simp
              go_at_call 53
              refine (join_look (HT.out.1.below HV11.out).l (HT.out.2.2.2.1.mv (LkMv.of_below _ _ _ HV11.out)) (by have := HK.out.2.2; omega)).mono ?_
              rintro e V12 ⟨J2, J2c, rfl, ho, hbk⟩
              have hx12 : SlX V12 (Xs b x1 x2 x5 ((w.heap.size + 1 + 1) + 1)) ((F i).2.last ++ q.2.last) (.slice J2 ((F i).2.last.length + q.2.last.length) J2c) := (slx_ofI ho (fun y hy => by rcases List.mem_append.1 hy with e | e; exact slx_ints (HT.out.1.l) y e; exact slx_ints HT.out.2.2.2.1 y e) (fun g hg => (HT.out.1.below HV11.out).a.fresh hg)).lower (n' := (w.heap.size + 1 + 1) + 1) (by have := (HT.out.1.below HV11.out).q.c.lt; omega)
              have HV12 := Lib.hid (HV11.out.trans (hbk.mono HV11.out.size))
              have hy12 := HX11.out.mv (LkMv.of_below x1 x2 x5 hbk)
              have HY12 := Lib.hid hy12
              clear hy12
              have HX12 := Lib.hid hx12
              clear hx12 ho hbk
              try go_wp2_with fail
              refine hK.out _ _ (HT.out.2.1.c.on HV12.out) (fun hH => ?_)
              clear hK K
              try simp only [Act.put, List.setIfInBounds_toArray, List.set_cons_zero, List.set_cons_succ]
              refine wpAnyH_take (i := 16) (oi := { dst := some 88, op := Op.build 101 #[(0, Operand.tmp 77), (1, Operand.tmp 82), (2, Operand.tmp 87)], type := 101, pos := "ref.go:41", after := #[{ on := 5, ground := Ground.data }, { on := 10, ground := Ground.data }, { on := 15, ground := Ground.data }], guard := none }) (v := ?_) rfl (by kernel_rfl) (by kernel_rfl) (by kernel_rfl) (fun _ _ _ h => h) (Or.inl ⟨by rfl, ?_⟩) (by exact hH) ?_
              rotate_left
              · intro W hSw
                go_simp
                try with_reducible rfl
              try simp only [Act.put, List.setIfInBounds_toArray, List.set_cons_zero, List.set_cons_succ]
              refine wpAnyH_ready (rs := [17]) (by kernel_rfl) (by simp) ?_
              refine AllReadyH.cons (o := { dst := none, op := Op.store 101 (Operand.tmp 8) (Operand.tmp 88), type := 0, pos := "ref.go:41", after := #[{ on := 16, ground := Ground.data }, { on := 15, ground := Ground.chain }, { on := 0, ground := Ground.phase }, { on := 1, ground := Ground.phase }, { on := 2, ground := Ground.phase }, { on := 3, ground := Ground.phase }, { on := 4, ground := Ground.phase }, { on := 5, ground := Ground.phase }, { on := 6, ground := Ground.phase }, { on := 7, ground := Ground.phase }, { on := 8, ground := Ground.phase }, { on := 9, ground := Ground.phase }, { on := 10, ground := Ground.phase }, { on := 11, ground := Ground.phase }, { on := 12, ground := Ground.phase }, { on := 13, ground := Ground.phase }, { on := 14, ground := Ground.phase }, { on := 15, ground := Ground.phase }, { on := 16, ground := Ground.phase }], guard := none }) rfl (fun K hK => ?_) AllReadyH.nil
              have hL := HT.out.1.below HV12.out
              have p0 := hL.q.c.cell 0
              have p1 := hL.q.c.cell 1
              have p2 := hL.q.c.cell 2
              simp at p0 p1 p2
              have g0 := hL.q.c.froz 0
              have g1 := hL.q.c.froz 1
              have g2 := hL.q.c.froz 2
              have z0 := hL.q.c.lt
              have hP := hL.put (p' := ⟨(F i).2.empty || q.2.empty, (F i).2.first ++ q.2.first, (F i).2.last ++ q.2.last⟩) (e := true) (by omega) (by rw [HPE.out]; rfl) HY12.out HX12.out
              have hend := HJ.out _ _ _ hP
              have HEND := Lib.hid hend
              have hq3 := (((((HT.out.2.1.c.on HV12.out)))))
              have hkq : (w.heap.size + 1 + 1) ≠ qp := by omega
              clear hL hP hend
              go_simp
              refine hK.out _ _ (show Cells _ qp 101 #[.bool q.2.empty, .slice Af q.2.first.length cf, .slice Al q.2.last.length cl] from (Below.heap_setCell _ _ _ _ (by first | exact hkq | exact hkq.symm)).trans ((Below.heap_setCell _ _ _ _ (by first | exact hkq | exact hkq.symm)).trans ((Below.heap_setCell _ _ _ _ (by first | exact hkq | exact hkq.symm)).trans hq3))) (fun hH => ?_)
              clear hK K p0 p1 p2 g0 g1 g2 z0 hq3
              try simp only [Act.put, List.setIfInBounds_toArray, List.set_cons_zero, List.set_cons_succ]
              refine wpAnyH_done (by kernel_rfl) ?_ _
              refine NoPanic.normal ?_
              go_wp2_with fail
              go_roundw
              case rel => exact HEND.out
              case measure => simp [RowKit.intOf]; omega
          ·
            have pl := (HT.out.1.below HVd.out).q.c.cell 1
            simp at pl
            go_simp
            refine hK.out _ _ (HT.out.2.1.c.on HVd.out) (fun hH => ?_)
            clear hK K pl
            try simp only [Act.put, List.setIfInBounds_toArray, List.set_cons_zero, List.set_cons_succ]
            refine wpAnyH_ready (rs := [1, 12]) (by kernel_rfl) (by simp) ?_
            refine (AllReadyH.cons (o := { dst := some 73, op := Op.load 4 (Operand.tmp 72), type := 4, pos := "ref.go:41", after := #[{ on := 0, ground := Ground.data }], guard := none }) rfl (fun K hK => ?_) (AllReadyH.cons (o := { dst := some 84, op := Op.load 23 (Operand.tmp 83), type := 23, pos := "ref.go:41", after := #[{ on := 11, ground := Ground.data }], guard := none }) rfl (fun K hK => ?_) AllReadyH.nil))
            ·
              have pl := (HT.out.1.below HVd.out).q.c.cell 0
              rw [HPE.out] at pl
              simp at pl
              go_simp
              refine hK.out _ _ (HT.out.2.1.c.on HVd.out) (fun hH => ?_)
              clear hK K pl
              try simp only [Act.put, List.setIfInBounds_toArray, List.set_cons_zero, List.set_cons_succ]
              refine wpAnyH_take (i := 2) (oi := { dst := some 74, op := Op.move (Operand.tmp 73), type := 4, pos := "ref.go:41", after := #[{ on := 1, ground := Ground.data }], guard := none }) (v := ?_) rfl (by kernel_rfl) (by kernel_rfl) (by kernel_rfl) (fun _ _ _ h => h) (Or.inl ⟨by rfl, ?_⟩) (by exact hH) ?_
              rotate_left
              · intro W hSw
                go_simp
                try with_reducible rfl
              try simp only [Act.put, List.setIfInBounds_toArray, List.set_cons_zero, List.set_cons_succ]
              refine wpAnyH_take (i := 3) (oi := { dst := some 75, op := Op.fieldAddr 101 (Operand.tmp 10) 0, type := 0, pos := "ref.go:41", after := #[{ on := 2, ground := Ground.guard }], guard := some (2, false) }) (v := undef) rfl (by kernel_rfl) (by kernel_rfl) (by kernel_rfl) (fun _ _ _ h => h) (Or.inr ⟨by rfl, rfl⟩) (by exact hH) ?_
              try simp only [Act.put, List.setIfInBounds_toArray, List.set_cons_zero, List.set_cons_succ]
              refine wpAnyH_take (i := 4) (oi := { dst := some 76, op := Op.load 4 (Operand.tmp 75), type := 4, pos := "ref.go:41", after := #[{ on := 3, ground := Ground.data }, { on := 2, ground := Ground.guard }], guard := some (2, false) }) (v := undef) rfl (by kernel_rfl) (by kernel_rfl) (by kernel_rfl) (fun _ _ _ h => h) (Or.inr ⟨by rfl, rfl⟩) (by exact hH) ?_
              try simp only [Act.put, List.setIfInBounds_toArray, List.set_cons_zero, List.set_cons_succ]
              refine wpAnyH_take (i := 5) (oi := { dst := some 77, op := Op.pick (Operand.tmp 74) (Operand.const (Value.bool true)) (Operand.tmp 76), type := 4, pos := "ref.go:41", after := #[{ on := 2, ground := Ground.data }, { on := 4, ground := Ground.data }], guard := none }) (v := ?_) rfl (by kernel_rfl) (by kernel_rfl) (by kernel_rfl) (fun _ _ _ h => h) (Or.inl ⟨by rfl, ?_⟩) (by exact hH) ?_
              rotate_left
              · intro W hSw
                go_simp
                try with_reducible rfl
              try simp only [Act.put, List.setIfInBounds_toArray, List.set_cons_zero, List.set_cons_succ]
              refine wpAnyH_ready (rs := [10, 12]) (by kernel_rfl) (by simp) ?_
              refine (AllReadyH.cons (o := { dst := some 82, op := Op.call { callee := Callee.value (Operand.func 53), args := #[Operand.tmp 79, Operand.tmp 81], argTypes := #[23, 23] }, type := 23, pos := "ref.go:41", after := #[{ on := 7, ground := Ground.data }, { on := 9, ground := Ground.data }, { on := 2, ground := Ground.chain }], guard := none }) rfl (fun K hK => ?_) (AllReadyH.cons (o := { dst := some 84, op := Op.load 23 (Operand.tmp 83), type := 23, pos := "ref.go:41", after := #[{ on := 11, ground := Ground.data }], guard := none }) rfl (fun K hK => ?_) AllReadyH.nil))
              ·
                go_simp
                go_at_call 53
                refine (join_look (HT.out.1.below HVd.out).f (HT.out.2.2.1.mv (LkMv.of_below _ _ _ HVd.out)) (by have := HK.out.2.2; omega)).mono ?_
                rintro e V15 ⟨J1, J1c, rfl, ho, hbk⟩
                have hx15 : SlX V15 (Xs b x1 x2 x5 ((w.heap.size + 1 + 1) + 1)) ((F i).2.first ++ q.2.first) (.slice J1 ((F i).2.first.length + q.2.first.length) J1c) := (slx_ofI ho (fun y hy => by rcases List.mem_append.1 hy with e | e; exact slx_ints (HT.out.1.f) y e; exact slx_ints HT.out.2.2.1 y e) (fun g hg => (HT.out.1.below HVd.out).a.fresh hg)).lower (n' := (w.heap.size + 1 + 1) + 1) (by have := (HT.out.1.below HVd.out).q.c.lt; omega)
                have HV15 := Lib.hid (HVd.out.trans (hbk.mono HVd.out.size))
                have HX15 := Lib.hid hx15
                clear hx15 ho hbk
                try go_wp2_with fail
                refine hK.out _ _ (HT.out.2.1.c.on HV15.out) (fun hH => ?_)
                clear hK K
                try simp only [Act.put, List.setIfInBounds_toArray, List.set_cons_zero, List.set_cons_succ]
                refine wpAnyH_ready (rs := [12]) (by kernel_rfl) (by simp) ?_
                refine (AllReadyH.cons (o := { dst := some 84, op := Op.load 23 (Operand.tmp 83), type := 23, pos := "ref.go:41", after := #[{ on := 11, ground := Ground.data }], guard := none }) rfl (fun K hK => ?_) AllReadyH.nil)
                have pl := (HT.out.1.below HV15.out).q.c.cell 2
                simp at pl
                go_simp
                refine hK.out _ _ (HT.out.2.1.c.on HV15.out) (fun hH => ?_)
                clear hK K pl
                try simp only [Act.put, List.setIfInBounds_toArray, List.set_cons_zero, List.set_cons_succ]
                refine wpAnyH_ready (rs := [15]) (by kernel_rfl) (by simp) ?_
                refine (AllReadyH.cons (o := { dst := some 87, op := Op.call { callee := Callee.value (Operand.func 53), args := #[Operand.tmp 84, Operand.tmp 86], argTypes := #[23, 23] }, type := 23, pos := "ref.go:41", after := #[{ on := 12, ground := Ground.data }, { on := 14, ground := Ground.data }, { on := 10, ground := Ground.chain }], guard := none }) rfl (fun K hK => ?_) AllReadyH.nil)
                go_simp
                go_at_call 53
                refine (join_look (HT.out.1.below HV15.out).l (HT.out.2.2.2.1.mv (LkMv.of_below _ _ _ HV15.out)) (by have := HK.out.2.2; omega)).mono ?_
                rintro e V17 ⟨J2, J2c, rfl, ho, hbk⟩
                have hx17 : SlX V17 (Xs b x1 x2 x5 ((w.heap.size + 1 + 1) + 1)) ((F i).2.last ++ q.2.last) (.slice J2 ((F i).2.last.length + q.2.last.length) J2c) := (slx_ofI ho (fun y hy => by rcases List.mem_append.1 hy with e | e; exact slx_ints (HT.out.1.l) y e; exact slx_ints HT.out.2.2.2.1 y e) (fun g hg => (HT.out.1.below HV15.out).a.fresh hg)).lower (n' := (w.heap.size + 1 + 1) + 1) (by have := (HT.out.1.below HV15.out).q.c.lt; omega)
                have HV17 := Lib.hid (HV15.out.trans (hbk.mono HV15.out.size))
                have hy17 := HX15.out.mv (LkMv.of_below x1 x2 x5 hbk)
                have HY17 := Lib.hid hy17
                clear hy17
                have HX17 := Lib.hid hx17
                clear hx17 ho hbk
                try go_wp2_with fail
                refine hK.out _ _ (HT.out.2.1.c.on HV17.out) (fun hH => ?_)
                clear hK K
                try simp only [Act.put, List.setIfInBounds_toArray, List.set_cons_zero, List.set_cons_succ]
                refine wpAnyH_take (i := 16) (oi := { dst := some 88, op := Op.build 101 #[(0, Operand.tmp 77), (1, Operand.tmp 82), (2, Operand.tmp 87)], type := 101, pos := "ref.go:41", after := #[{ on := 5, ground := Ground.data }, { on := 10, ground := Ground.data }, { on := 15, ground := Ground.data }], guard := none }) (v := ?_) rfl (by kernel_rfl) (by kernel_rfl) (by kernel_rfl) (fun _ _ _ h => h) (Or.inl ⟨by rfl, ?_⟩) (by exact hH) ?_
                rotate_left
                · intro W hSw
                  go_simp
                  try with_reducible rfl
                try simp only [Act.put, List.setIfInBounds_toArray, List.set_cons_zero, List.set_cons_succ]
                refine wpAnyH_ready (rs := [17]) (by kernel_rfl) (by simp) ?_
                refine AllReadyH.cons (o := { dst := none, op := Op.store 101 (Operand.tmp 8) (Operand.tmp 88), type := 0, pos := "ref.go:41", after := #[{ on := 16, ground := Ground.data }, { on := 15, ground := Ground.chain }, { on := 0, ground := Ground.phase }, { on := 1, ground := Ground.phase }, { on := 2, ground := Ground.phase }, { on := 3, ground := Ground.phase }, { on := 4, ground := Ground.phase }, { on := 5, ground := Ground.phase }, { on := 6, ground := Ground.phase }, { on := 7, ground := Ground.phase }, { on := 8, ground := Ground.phase }, { on := 9, ground := Ground.phase }, { on := 10, ground := Ground.phase }, { on := 11, ground := Ground.phase }, { on := 12, ground := Ground.phase }, { on := 13, ground := Ground.phase }, { on := 14, ground := Ground.phase }, { on := 15, ground := Ground.phase }, { on := 16, ground := Ground.phase }], guard := none }) rfl (fun K hK => ?_) AllReadyH.nil
                have hL := HT.out.1.below HV17.out
                have p0 := hL.q.c.cell 0
                have p1 := hL.q.c.cell 1
                have p2 := hL.q.c.cell 2
                simp at p0 p1 p2
                have g0 := hL.q.c.froz 0
                have g1 := hL.q.c.froz 1
                have g2 := hL.q.c.froz 2
                have z0 := hL.q.c.lt
                have hP := hL.put (p' := ⟨(F i).2.empty || q.2.empty, (F i).2.first ++ q.2.first, (F i).2.last ++ q.2.last⟩) (e := true) (by omega) (by rw [HPE.out]; rfl) HY17.out HX17.out
                have hend := HJ.out _ _ _ hP
                have HEND := Lib.hid hend
                have hq3 := (((((HT.out.2.1.c.on HV17.out)))))
                have hkq : (w.heap.size + 1 + 1) ≠ qp := by omega
                clear hL hP hend
                go_simp
                refine hK.out _ _ (show Cells _ qp 101 #[.bool q.2.empty, .slice Af q.2.first.length cf, .slice Al q.2.last.length cl] from (Below.heap_setCell _ _ _ _ (by first | exact hkq | exact hkq.symm)).trans ((Below.heap_setCell _ _ _ _ (by first | exact hkq | exact hkq.symm)).trans ((Below.heap_setCell _ _ _ _ (by first | exact hkq | exact hkq.symm)).trans hq3))) (fun hH => ?_)
                clear hK K p0 p1 p2 g0 g1 g2 z0 hq3
                try simp only [Act.put, List.setIfInBounds_toArray, List.set_cons_zero, List.set_cons_succ]
                refine wpAnyH_done (by kernel_rfl) ?_ _
                refine NoPanic.normal ?_
                go_wp2_with fail
                go_roundw
                case rel => exact HEND.out
                case measure => simp [RowKit.intOf]; omega
              ·
                have pl := (HT.out.1.below HVd.out).q.c.cell 2
                simp at pl
                go_simp
                refine hK.out _ _ (HT.out.2.1.c.on HVd.out) (fun hH => ?_)
                clear hK K pl
                try simp only [Act.put, List.setIfInBounds_toArray, List.set_cons_zero, List.set_cons_succ]
                refine wpAnyH_ready (rs := [10]) (by kernel_rfl) (by simp) ?_
                refine (AllReadyH.cons (o := { dst := some 82, op := Op.call { callee := Callee.value (Operand.func 53), args := #[Operand.tmp 79, Operand.tmp 81], argTypes := #[23, 23] }, type := 23, pos := "ref.go:41", after := #[{ on := 7, ground := Ground.data }, { on := 9, ground := Ground.data }, { on := 2, ground := Ground.chain }], guard := none }) rfl (fun K hK => ?_) AllReadyH.nil)
                go_simp
                go_at_call 53
                refine (join_look (HT.out.1.below HVd.out).f (HT.out.2.2.1.mv (LkMv.of_below _ _ _ HVd.out)) (by have := HK.out.2.2; omega)).mono ?_
                rintro e V19 ⟨J1, J1c, rfl, ho, hbk⟩
                have hx19 : SlX V19 (Xs b x1 x2 x5 ((w.heap.size + 1 + 1) + 1)) ((F i).2.first ++ q.2.first) (.slice J1 ((F i).2.first.length + q.2.first.length) J1c) := (slx_ofI ho (fun y hy => by rcases List.mem_append.1 hy with e | e; exact slx_ints (HT.out.1.f) y e; exact slx_ints HT.out.2.2.1 y e) (fun g hg => (HT.out.1.below HVd.out).a.fresh hg)).lower (n' := (w.heap.size + 1 + 1) + 1) (by have := (HT.out.1.below HVd.out).q.c.lt; omega)
                have HV19 := Lib.hid (HVd.out.trans (hbk.mono HVd.out.size))
                have HX19 := Lib.hid hx19
                clear hx19 ho hbk
                try go_wp2_with fail
                refine hK.out _ _ (HT.out.2.1.c.on HV19.out) (fun hH => ?_)
                clear hK K
                try simp only [Act.put, List.setIfInBounds_toArray, List.set_cons_zero, List.set_cons_succ]
                refine wpAnyH_ready (rs := [15]) (by kernel_rfl) (by simp) ?_
                refine (AllReadyH.cons (o := { dst := some 87, op := Op.call { callee := Callee.value (Operand.func 53), args := #[Operand.tmp 84, Operand.tmp 86], argTypes := #[23, 23] }, type := 23, pos := "ref.go:41", after := #[{ on := 12, ground := Ground.data }, { on := 14, ground := Ground.data }, { on := 10, ground := Ground.chain }], guard := none }) rfl (fun K hK => ?_) AllReadyH.nil)
                go_simp
                go_at_call 53
                refine (join_look (HT.out.1.below HV19.out).l (HT.out.2.2.2.1.mv (LkMv.of_below _ _ _ HV19.out)) (by have := HK.out.2.2; omega)).mono ?_
                rintro e V20 ⟨J2, J2c, rfl, ho, hbk⟩
                have hx20 : SlX V20 (Xs b x1 x2 x5 ((w.heap.size + 1 + 1) + 1)) ((F i).2.last ++ q.2.last) (.slice J2 ((F i).2.last.length + q.2.last.length) J2c) := (slx_ofI ho (fun y hy => by rcases List.mem_append.1 hy with e | e; exact slx_ints (HT.out.1.l) y e; exact slx_ints HT.out.2.2.2.1 y e) (fun g hg => (HT.out.1.below HV19.out).a.fresh hg)).lower (n' := (w.heap.size + 1 + 1) + 1) (by have := (HT.out.1.below HV19.out).q.c.lt; omega)
                have HV20 := Lib.hid (HV19.out.trans (hbk.mono HV19.out.size))
                have hy20 := HX19.out.mv (LkMv.of_below x1 x2 x5 hbk)
                have HY20 := Lib.hid hy20
                clear hy20
                have HX20 := Lib.hid hx20
                clear hx20 ho hbk
                try go_wp2_with fail
                refine hK.out _ _ (HT.out.2.1.c.on HV20.out) (fun hH => ?_)
                clear hK K
                try simp only [Act.put, List.setIfInBounds_toArray, List.set_cons_zero, List.set_cons_succ]
                refine wpAnyH_take (i := 16) (oi := { dst := some 88, op := Op.build 101 #[(0, Operand.tmp 77), (1, Operand.tmp 82), (2, Operand.tmp 87)], type := 101, pos := "ref.go:41", after := #[{ on := 5, ground := Ground.data }, { on := 10, ground := Ground.data }, { on := 15, ground := Ground.data }], guard := none }) (v := ?_) rfl (by kernel_rfl) (by kernel_rfl) (by kernel_rfl) (fun _ _ _ h => h) (Or.inl ⟨by rfl, ?_⟩) (by exact hH) ?_
                rotate_left
                · intro W hSw
                  go_simp
                  try with_reducible rfl
                try simp only [Act.put, List.setIfInBounds_toArray, List.set_cons_zero, List.set_cons_succ]
                refine wpAnyH_ready (rs := [17]) (by kernel_rfl) (by simp) ?_
                refine AllReadyH.cons (o := { dst := none, op := Op.store 101 (Operand.tmp 8) (Operand.tmp 88), type := 0, pos := "ref.go:41", after := #[{ on := 16, ground := Ground.data }, { on := 15, ground := Ground.chain }, { on := 0, ground := Ground.phase }, { on := 1, ground := Ground.phase }, { on := 2, ground := Ground.phase }, { on := 3, ground := Ground.phase }, { on := 4, ground := Ground.phase }, { on := 5, ground := Ground.phase }, { on := 6, ground := Ground.phase }, { on := 7, ground := Ground.phase }, { on := 8, ground := Ground.phase }, { on := 9, ground := Ground.phase }, { on := 10, ground := Ground.phase }, { on := 11, ground := Ground.phase }, { on := 12, ground := Ground.phase }, { on := 13, ground := Ground.phase }, { on := 14, ground := Ground.phase }, { on := 15, ground := Ground.phase }, { on := 16, ground := Ground.phase }], guard := none }) rfl (fun K hK => ?_) AllReadyH.nil
                have hL := HT.out.1.below HV20.out
                have p0 := hL.q.c.cell 0
                have p1 := hL.q.c.cell 1
                have p2 := hL.q.c.cell 2
                simp at p0 p1 p2
                have g0 := hL.q.c.froz 0
                have g1 := hL.q.c.froz 1
                have g2 := hL.q.c.froz 2
                have z0 := hL.q.c.lt
                have hP := hL.put (p' := ⟨(F i).2.empty || q.2.empty, (F i).2.first ++ q.2.first, (F i).2.last ++ q.2.last⟩) (e := true) (by omega) (by rw [HPE.out]; rfl) HY20.out HX20.out
                have hend := HJ.out _ _ _ hP
                have HEND := Lib.hid hend
                have hq3 := (((((HT.out.2.1.c.on HV20.out)))))
                have hkq : (w.heap.size + 1 + 1) ≠ qp := by omega
                clear hL hP hend
                go_simp
                refine hK.out _ _ (show Cells _ qp 101 #[.bool q.2.empty, .slice Af q.2.first.length cf, .slice Al q.2.last.length cl] from (Below.heap_setCell _ _ _ _ (by first | exact hkq | exact hkq.symm)).trans ((Below.heap_setCell _ _ _ _ (by first | exact hkq | exact hkq.symm)).trans ((Below.heap_setCell _ _ _ _ (by first | exact hkq | exact hkq.symm)).trans hq3))) (fun hH => ?_)
                clear hK K p0 p1 p2 g0 g1 g2 z0 hq3
                try simp only [Act.put, List.setIfInBounds_toArray, List.set_cons_zero, List.set_cons_succ]
                refine wpAnyH_done (by kernel_rfl) ?_ _
                refine NoPanic.normal ?_
                go_wp2_with fail
                go_roundw
                case rel => exact HEND.out
                case measure => simp [RowKit.intOf]; omega
            ·
              have pl := (HT.out.1.below HVd.out).q.c.cell 2
              simp at pl
              go_simp
              refine hK.out _ _ (HT.out.2.1.c.on HVd.out) (fun hH => ?_)
              clear hK K pl
              try simp only [Act.put, List.setIfInBounds_toArray, List.set_cons_zero, List.set_cons_succ]
              refine wpAnyH_ready (rs := [1]) (by kernel_rfl) (by simp) ?_
              refine (AllReadyH.cons (o := { dst := some 73, op := Op.load 4 (Operand.tmp 72), type := 4, pos := "ref.go:41", after := #[{ on := 0, ground := Ground.data }], guard := none }) rfl (fun K hK => ?_) AllReadyH.nil)
              have pl := (HT.out.1.below HVd.out).q.c.cell 0
              rw [HPE.out] at pl
              simp at pl
              go_simp
              refine hK.out _ _ (HT.out.2.1.c.on HVd.out) (fun hH => ?_)
              clear hK K pl
              try simp only [Act.put, List.setIfInBounds_toArray, List.set_cons_zero, List.set_cons_succ]
              refine wpAnyH_take (i := 2) (oi := { dst := some 74, op := Op.move (Operand.tmp 73), type := 4, pos := "ref.go:41", after := #[{ on := 1, ground := Ground.data }], guard := none }) (v := ?_) rfl (by kernel_rfl) (by kernel_rfl) (by kernel_rfl) (fun _ _ _ h => h) (Or.inl ⟨by rfl, ?_⟩) (by exact hH) ?_
              rotate_left
              · intro W hSw
                go_simp
                try with_reducible rfl
              try simp only [Act.put, List.setIfInBounds_toArray, List.set_cons_zero, List.set_cons_succ]
              refine wpAnyH_take (i := 3) (oi := { dst := some 75, op := Op.fieldAddr 101 (Operand.tmp 10) 0, type := 0, pos := "ref.go:41", after := #[{ on := 2, ground := Ground.guard }], guard := some (2, false) }) (v := undef) rfl (by kernel_rfl) (by kernel_rfl) (by kernel_rfl) (fun _ _ _ h => h) (Or.inr ⟨by rfl, rfl⟩) (by exact hH) ?_
              try simp only [Act.put, List.setIfInBounds_toArray, List.set_cons_zero, List.set_cons_succ]
              refine wpAnyH_take (i := 4) (oi := { dst := some 76, op := Op.load 4 (Operand.tmp 75), type := 4, pos := "ref.go:41", after := #[{ on := 3, ground := Ground.data }, { on := 2, ground := Ground.guard }], guard := some (2, false) }) (v := undef) rfl (by kernel_rfl) (by kernel_rfl) (by kernel_rfl) (fun _ _ _ h => h) (Or.inr ⟨by rfl, rfl⟩) (by exact hH) ?_
              try simp only [Act.put, List.setIfInBounds_toArray, List.set_cons_zero, List.set_cons_succ]
              refine wpAnyH_take (i := 5) (oi := { dst := some 77, op := Op.pick (Operand.tmp 74) (Operand.const (Value.bool true)) (Operand.tmp 76), type := 4, pos := "ref.go:41", after := #[{ on := 2, ground := Ground.data }, { on := 4, ground := Ground.data }], guard := none }) (v := ?_) rfl (by kernel_rfl) (by kernel_rfl) (by kernel_rfl) (fun _ _ _ h => h) (Or.inl ⟨by rfl, ?_⟩) (by exact hH) ?_
              rotate_left
              · intro W hSw
                go_simp
                try with_reducible rfl
              try simp only [Act.put, List.setIfInBounds_toArray, List.set_cons_zero, List.set_cons_succ]
              refine wpAnyH_ready (rs := [10]) (by kernel_rfl) (by simp) ?_
              refine (AllReadyH.cons (o := { dst := some 82, op := Op.call { callee := Callee.value (Operand.func 53), args := #[Operand.tmp 79, Operand.tmp 81], argTypes := #[23, 23] }, type := 23, pos := "ref.go:41", after := #[{ on := 7, ground := Ground.data }, { on := 9, ground := Ground.data }, { on := 2, ground := Ground.chain }], guard := none }) rfl (fun K hK => ?_) AllReadyH.nil)
              go_simp
              go_at_call 53
              refine (join_look (HT.out.1.below HVd.out).f (HT.out.2.2.1.mv (LkMv.of_below _ _ _ HVd.out)) (by have := HK.out.2.2; omega)).mono ?_
              rintro e V23 ⟨J1, J1c, rfl, ho, hbk⟩
              have hx23 : SlX V23 (Xs b x1 x2 x5 ((w.heap.size + 1 + 1) + 1)) ((F i).2.first ++ q.2.first) (.slice J1 ((F i).2.first.length + q.2.first.length) J1c) := (slx_ofI ho (fun y hy => by rcases List.mem_append.1 hy with e | e; exact slx_ints (HT.out.1.f) y e; exact slx_ints HT.out.2.2.1 y e) (fun g hg => (HT.out.1.below HVd.out).a.fresh hg)).lower (n' := (w.heap.size + 1 + 1) + 1) (by have := (HT.out.1.below HVd.out).q.c.lt; omega)
              have HV23 := Lib.hid (HVd.out.trans (hbk.mono HVd.out.size))
              have HX23 := Lib.hid hx23
              clear hx23 ho hbk
              try go_wp2_with fail
              refine hK.out _ _ (HT.out.2.1.c.on HV23.out) (fun hH => ?_)
              clear hK K
              try simp only [Act.put, List.setIfInBounds_toArray, List.set_cons_zero, List.set_cons_succ]
              refine wpAnyH_ready (rs := [15]) (by kernel_rfl) (by simp) ?_
              refine (AllReadyH.cons (o := { dst := some 87, op := Op.call { callee := Callee.value (Operand.func 53), args := #[Operand.tmp 84, Operand.tmp 86], argTypes := #[23, 23] }, type := 23, pos := "ref.go:41", after := #[{ on := 12, ground := Ground.data }, { on := 14, ground := Ground.data }, { on := 10, ground := Ground.chain }], guard := none }) rfl (fun K hK => ?_) AllReadyH.nil)
              go_simp
              go_at_call 53
              refine (join_look (HT.out.1.below HV23.out).l (HT.out.2.2.2.1.mv (LkMv.of_below _ _ _ HV23.out)) (by have := HK.out.2.2; omega)).mono ?_
              rintro e V24 ⟨J2, J2c, rfl, ho, hbk⟩
              have hx24 : SlX V24 (Xs b x1 x2 x5 ((w.heap.size + 1 + 1) + 1)) ((F i).2.last ++ q.2.last) (.slice J2 ((F i).2.last.length + q.2.last.length) J2c) := (slx_ofI ho (fun y hy => by rcases List.mem_append.1 hy with e | e; exact slx_ints (HT.out.1.l) y e; exact slx_ints HT.out.2.2.2.1 y e) (fun g hg => (HT.out.1.below HV23.out).a.fresh hg)).lower (n' := (w.heap.size + 1 + 1) + 1) (by have := (HT.out.1.below HV23.out).q.c.lt; omega)
              have HV24 := Lib.hid (HV23.out.trans (hbk.mono HV23.out.size))
              have hy24 := HX23.out.mv (LkMv.of_below x1 x2 x5 hbk)
              have HY24 := Lib.hid hy24
              clear hy24
              have HX24 := Lib.hid hx24
              clear hx24 ho hbk
              try go_wp2_with fail
              refine hK.out _ _ (HT.out.2.1.c.on HV24.out) (fun hH => ?_)
              clear hK K
              try simp only [Act.put, List.setIfInBounds_toArray, List.set_cons_zero, List.set_cons_succ]
              refine wpAnyH_take (i := 16) (oi := { dst := some 88, op := Op.build 101 #[(0, Operand.tmp 77), (1, Operand.tmp 82), (2, Operand.tmp 87)], type := 101, pos := "ref.go:41", after := #[{ on := 5, ground := Ground.data }, { on := 10, ground := Ground.data }, { on := 15, ground := Ground.data }], guard := none }) (v := ?_) rfl (by kernel_rfl) (by kernel_rfl) (by kernel_rfl) (fun _ _ _ h => h) (Or.inl ⟨by rfl, ?_⟩) (by exact hH) ?_
              rotate_left
              · intro W hSw
                go_simp
                try with_reducible rfl
              try simp only [Act.put, List.setIfInBounds_toArray, List.set_cons_zero, List.set_cons_succ]
              refine wpAnyH_ready (rs := [17]) (by kernel_rfl) (by simp) ?_
              refine AllReadyH.cons (o := { dst := none, op := Op.store 101 (Operand.tmp 8) (Operand.tmp 88), type := 0, pos := "ref.go:41", after := #[{ on := 16, ground := Ground.data }, { on := 15, ground := Ground.chain }, { on := 0, ground := Ground.phase }, { on := 1, ground := Ground.phase }, { on := 2, ground := Ground.phase }, { on := 3, ground := Ground.phase }, { on := 4, ground := Ground.phase }, { on := 5, ground := Ground.phase }, { on := 6, ground := Ground.phase }, { on := 7, ground := Ground.phase }, { on := 8, ground := Ground.phase }, { on := 9, ground := Ground.phase }, { on := 10, ground := Ground.phase }, { on := 11, ground := Ground.phase }, { on := 12, ground := Ground.phase }, { on := 13, ground := Ground.phase }, { on := 14, ground := Ground.phase }, { on := 15, ground := Ground.phase }, { on := 16, ground := Ground.phase }], guard := none }) rfl (fun K hK => ?_) AllReadyH.nil
              have hL := HT.out.1.below HV24.out
              have p0 := hL.q.c.cell 0
              have p1 := hL.q.c.cell 1
              have p2 := hL.q.c.cell 2
              simp at p0 p1 p2
              have g0 := hL.q.c.froz 0
              have g1 := hL.q.c.froz 1
              have g2 := hL.q.c.froz 2
              have z0 := hL.q.c.lt
              have hP := hL.put (p' := ⟨(F i).2.empty || q.2.empty, (F i).2.first ++ q.2.first, (F i).2.last ++ q.2.last⟩) (e := true) (by omega) (by rw [HPE.out]; rfl) HY24.out HX24.out
              have hend := HJ.out _ _ _ hP
              have HEND := Lib.hid hend
              have hq3 := (((((HT.out.2.1.c.on HV24.out)))))
              have hkq : (w.heap.size + 1 + 1) ≠ qp := by omega
              clear hL hP hend
              go_simp
              refine hK.out _ _ (show Cells _ qp 101 #[.bool q.2.empty, .slice Af q.2.first.length cf, .slice Al q.2.last.length cl] from (Below.heap_setCell _ _ _ _ (by first | exact hkq | exact hkq.symm)).trans ((Below.heap_setCell _ _ _ _ (by first | exact hkq | exact hkq.symm)).trans ((Below.heap_setCell _ _ _ _ (by first | exact hkq | exact hkq.symm)).trans hq3))) (fun hH => ?_)
              clear hK K p0 p1 p2 g0 g1 g2 z0 hq3
              try simp only [Act.put, List.setIfInBounds_toArray, List.set_cons_zero, List.set_cons_succ]
              refine wpAnyH_done (by kernel_rfl) ?_ _
              refine NoPanic.normal ?_
              go_wp2_with fail
              go_roundw
              case rel => exact HEND.out
              case measure => simp [RowKit.intOf]; omega
          ·
            have pl := (HT.out.1.below HVd.out).q.c.cell 2
            simp at pl
            go_simp
            refine hK.out _ _ (HT.out.2.1.c.on HVd.out) (fun hH => ?_)
            clear hK K pl
            try simp only [Act.put, List.setIfInBounds_toArray, List.set_cons_zero, List.set_cons_succ]
            refine wpAnyH_ready (rs := [1, 7]) (by kernel_rfl) (by simp) ?_
            refine (AllReadyH.cons (o := { dst := some 73, op := Op.load 4 (Operand.tmp 72), type := 4, pos := "ref.go:41", after := #[{ on := 0, ground := Ground.data }], guard := none }) rfl (fun K hK => ?_) (AllReadyH.cons (o := { dst := some 79, op := Op.load 23 (Operand.tmp 78), type := 23, pos := "ref.go:41", after := #[{ on := 6, ground := Ground.data }], guard := none }) rfl (fun K hK => ?_) AllReadyH.nil))
            ·
              have pl := (HT.out.1.below HVd.out).q.c.cell 0
              rw [HPE.out] at pl
              simp at pl
              go_simp
              refine hK.out _ _ (HT.out.2.1.c.on HVd.out) (fun hH => ?_)
              clear hK K pl
              try simp only [Act.put, List.setIfInBounds_toArray, List.set_cons_zero, List.set_cons_succ]
              refine wpAnyH_take (i := 2) (oi := { dst := some 74, op := Op.move (Operand.tmp 73), type := 4, pos := "ref.go:41", after := #[{ on := 1, ground := Ground.data }], guard := none }) (v := ?_) rfl (by kernel_rfl) (by kernel_rfl) (by kernel_rfl) (fun _ _ _ h => h) (Or.inl ⟨by rfl, ?_⟩) (by exact hH) ?_
              rotate_left
              · intro W hSw
                go_simp
                try with_reducible rfl
              try simp only [Act.put, List.setIfInBounds_toArray, List.set_cons_zero, List.set_cons_succ]
              refine wpAnyH_take (i := 3) (oi := { dst := some 75, op := Op.fieldAddr 101 (Operand.tmp 10) 0, type := 0, pos := "ref.go:41", after := #[{ on := 2, ground := Ground.guard }], guard := some (2, false) }) (v := undef) rfl (by kernel_rfl) (by kernel_rfl) (by kernel_rfl) (fun _ _ _ h => h) (Or.inr ⟨by rfl, rfl⟩) (by exact hH) ?_
              try simp only [Act.put, List.setIfInBounds_toArray, List.set_cons_zero, List.set_cons_succ]
              refine wpAnyH_take (i := 4) (oi := { dst := some 76, op := Op.load 4 (Operand.tmp 75), type := 4, pos := "ref.go:41", after := #[{ on := 3, ground := Ground.data }, { on := 2, ground := Ground.guard }], guard := some (2, false) }) (v := undef) rfl (by kernel_rfl) (by kernel_rfl) (by kernel_rfl) (fun _ _ _ h => h) (Or.inr ⟨by rfl, rfl⟩) (by exact hH) ?_
              try simp only [Act.put, List.setIfInBounds_toArray, List.set_cons_zero, List.set_cons_succ]
              refine wpAnyH_take (i := 5) (oi := { dst := some 77, op := Op.pick (Operand.tmp 74) (Operand.const (Value.bool true)) (Operand.tmp 76), type := 4, pos := "ref.go:41", after := #[{ on := 2, ground := Ground.data }, { on := 4, ground := Ground.data }], guard := none }) (v := ?_) rfl (by kernel_rfl) (by kernel_rfl) (by kernel_rfl) (fun _ _ _ h => h) (Or.inl ⟨by rfl, ?_⟩) (by exact hH) ?_
              rotate_left
              · intro W hSw
                go_simp
                try with_reducible rfl
              try simp only [Act.put, List.setIfInBounds_toArray, List.set_cons_zero, List.set_cons_succ]
              refine wpAnyH_ready (rs := [7]) (by kernel_rfl) (by simp) ?_
              refine (AllReadyH.cons (o := { dst := some 79, op := Op.load 23 (Operand.tmp 78), type := 23, pos := "ref.go:41", after := #[{ on := 6, ground := Ground.data }], guard := none }) rfl (fun K hK => ?_) AllReadyH.nil)
              have pl := (HT.out.1.below HVd.out).q.c.cell 1
              simp at pl
              go_simp
              refine hK.out _ _ (HT.out.2.1.c.on HVd.out) (fun hH => ?_)
              clear hK K pl
              try simp only [Act.put, List.setIfInBounds_toArray, List.set_cons_zero, List.set_cons_succ]
              refine wpAnyH_ready (rs := [10]) (by kernel_rfl) (by simp) ?_
              refine (AllReadyH.cons (o := { dst := some 82, op := Op.call { callee := Callee.value (Operand.func 53), args := #[Operand.tmp 79, Operand.tmp 81], argTypes := #[23, 23] }, type := 23, pos := "ref.go:41", after := #[{ on := 7, ground := Ground.data }, { on := 9, ground := Ground.data }, { on := 2, ground := Ground.chain }], guard := none }) rfl (fun K hK => ?_) AllReadyH.nil)
              go_simp
              go_at_call 53
              refine (join_look (HT.out.1.below HVd.out).f (HT.out.2.2.1.mv (LkMv.of_below _ _ _ HVd.out)) (by have := HK.out.2.2; omega)).mono ?_
              rintro e V28 ⟨J1, J1c, rfl, ho, hbk⟩
              have hx28 : SlX V28 (Xs b x1 x2 x5 ((w.heap.size + 1 + 1) + 1)) ((F i).2.first ++ q.2.first) (.slice J1 ((F i).2.first.length + q.2.first.length) J1c) := (slx_ofI ho (fun y hy => by rcases List.mem_append.1 hy with e | e; exact slx_ints (HT.out.1.f) y e; exact slx_ints HT.out.2.2.1 y e) (fun g hg => (HT.out.1.below HVd.out).a.fresh hg)).lower (n' := (w.heap.size + 1 + 1) + 1) (by have := (HT.out.1.below HVd.out).q.c.lt; omega)
              have HV28 := Lib.hid (HVd.out.trans (hbk.mono HVd.out.size))
              have HX28 := Lib.hid hx28
              clear hx28 ho hbk
              try go_wp2_with fail
              refine hK.out _ _ (HT.out.2.1.c.on HV28.out) (fun hH => ?_)
              clear hK K
              try simp only [Act.put, List.setIfInBounds_toArray, List.set_cons_zero, List.set_cons_succ]
              refine wpAnyH_ready (rs := [15]) (by kernel_rfl) (by simp) ?_
              refine (AllReadyH.cons (o := { dst := some 87, op := Op.call { callee := Callee.value (Operand.func 53), args := #[Operand.tmp 84, Operand.tmp 86], argTypes := #[23, 23] }, type := 23, pos := "ref.go:41", after := #[{ on := 12, ground := Ground.data }, { on := 14, ground := Ground.data }, { on := 10, ground := Ground.chain }], guard := none }) rfl (fun K hK => ?_) AllReadyH.nil)
              go_simp
              go_at_call 53
              refine (join_look (HT.out.1.below HV28.out).l (HT.out.2.2.2.1.mv (LkMv.of_below _ _ _ HV28.out)) (by have := HK.out.2.2; omega)).mono ?_
              rintro e V29 ⟨J2, J2c, rfl, ho, hbk⟩
              have hx29 : SlX V29 (Xs b x1 x2 x5 ((w.heap.size + 1 + 1) + 1)) ((F i).2.last ++ q.2.last) (.slice J2 ((F i).2.last.length + q.2.last.length) J2c) := (slx_ofI ho (fun y hy => by rcases List.mem_append.1 hy with e | e; exact slx_ints (HT.out.1.l) y e; exact slx_ints HT.out.2.2.2.1 y e) (fun g hg => (HT.out.1.below HV28.out).a.fresh hg)).lower (n' := (w.heap.size + 1 + 1) + 1) (by have := (HT.out.1.below HV28.out).q.c.lt; omega)
              have HV29 := Lib.hid (HV28.out.trans (hbk.mono HV28.out.size))
              have hy29 := HX28.out.mv (LkMv.of_below x1 x2 x5 hbk)
              have HY29 := Lib.hid hy29
              clear hy29
              have HX29 := Lib.hid hx29
              clear hx29 ho hbk
              try go_wp2_with fail
              refine hK.out _ _ (HT.out.2.1.c.on HV29.out) (fun hH => ?_)
              clear hK K
              try simp only [Act.put, List.setIfInBounds_toArray, List.set_cons_zero, List.set_cons_succ]
              refine wpAnyH_take (i := 16) (oi := { dst := some 88, op := Op.build 101 #[(0, Operand.tmp 77), (1, Operand.tmp 82), (2, Operand.tmp 87)], type := 101, pos := "ref.go:41", after := #[{ on := 5, ground := Ground.data }, { on := 10, ground := Ground.data }, { on := 15, ground := Ground.data }], guard := none }) (v := ?_) rfl (by kernel_rfl) (by kernel_rfl) (by kernel_rfl) (fun _ _ _ h => h) (Or.inl ⟨by rfl, ?_⟩) (by exact hH) ?_
              rotate_left
              · intro W hSw
                go_simp
                try with_reducible rfl
              try simp only [Act.put, List.setIfInBounds_toArray, List.set_cons_zero, List.set_cons_succ]
              refine wpAnyH_ready (rs := [17]) (by kernel_rfl) (by simp) ?_
              refine AllReadyH.cons (o := { dst := none, op := Op.store 101 (Operand.tmp 8) (Operand.tmp 88), type := 0, pos := "ref.go:41", after := #[{ on := 16, ground := Ground.data }, { on := 15, ground := Ground.chain }, { on := 0, ground := Ground.phase }, { on := 1, ground := Ground.phase }, { on := 2, ground := Ground.phase }, { on := 3, ground := Ground.phase }, { on := 4, ground := Ground.phase }, { on := 5, ground := Ground.phase }, { on := 6, ground := Ground.phase }, { on := 7, ground := Ground.phase }, { on := 8, ground := Ground.phase }, { on := 9, ground := Ground.phase }, { on := 10, ground := Ground.phase }, { on := 11, ground := Ground.phase }, { on := 12, ground := Ground.phase }, { on := 13, ground := Ground.phase }, { on := 14, ground := Ground.phase }, { on := 15, ground := Ground.phase }, { on := 16, ground := Ground.phase }], guard := none }) rfl (fun K hK => ?_) AllReadyH.nil
              have hL := HT.out.1.below HV29.out
              have p0 := hL.q.c.cell 0
              have p1 := hL.q.c.cell 1
              have p2 := hL.q.c.cell 2
              simp at p0 p1 p2
              have g0 := hL.q.c.froz 0
              have g1 := hL.q.c.froz 1
              have g2 := hL.q.c.froz 2
              have z0 := hL.q.c.lt
              have hP := hL.put (p' := ⟨(F i).2.empty || q.2.empty, (F i).2.first ++ q.2.first, (F i).2.last ++ q.2.last⟩) (e := true) (by omega) (by rw [HPE.out]; rfl) HY29.out HX29.out
              have hend := HJ.out _ _ _ hP
              have HEND := Lib.hid hend
              have hq3 := (((((HT.out.2.1.c.on HV29.out)))))
              have hkq : (w.heap.size + 1 + 1) ≠ qp := by omega
              clear hL hP hend
              go_simp
              refine hK.out _ _ (show Cells _ qp 101 #[.bool q.2.empty, .slice Af q.2.first.length cf, .slice Al q.2.last.length cl] from (Below.heap_setCell _ _ _ _ (by first | exact hkq | exact hkq.symm)).trans ((Below.heap_setCell _ _ _ _ (by first | exact hkq | exact hkq.symm)).trans ((Below.heap_setCell _ _ _ _ (by first | exact hkq | exact hkq.symm)).trans hq3))) (fun hH => ?_)
              clear hK K p0 p1 p2 g0 g1 g2 z0 hq3
              try simp only [Act.put, List.setIfInBounds_toArray, List.set_cons_zero, List.set_cons_succ]
              refine wpAnyH_done (by kernel_rfl) ?_ _
              refine NoPanic.normal ?_
              go_wp2_with fail
              go_roundw
              case rel => exact HEND.out
              case measure => simp [RowKit.intOf]; omega
            ·
              have pl := (HT.out.1.below HVd.out).q.c.cell 1
              simp at pl
              go_simp
              refine hK.out _ _ (HT.out.2.1.c.on HVd.out) (fun hH => ?_)
              clear hK K pl
              try simp only [Act.put, List.setIfInBounds_toArray, List.set_cons_zero, List.set_cons_succ]
              refine wpAnyH_ready (rs := [1]) (by kernel_rfl) (by simp) ?_
              refine (AllReadyH.cons (o := { dst := some 73, op := Op.load 4 (Operand.tmp 72), type := 4, pos := "ref.go:41", after := #[{ on := 0, ground := Ground.data }], guard := none }) rfl (fun K hK => ?_) AllReadyH.nil)
              have pl := (HT.out.1.below HVd.out).q.c.cell 0
              rw [HPE.out] at pl
              simp at pl
              go_simp
              refine hK.out _ _ (HT.out.2.1.c.on HVd.out) (fun hH => ?_)
              clear hK K pl
              try simp only [Act.put, List.setIfInBounds_toArray, List.set_cons_zero, List.set_cons_succ]
              refine wpAnyH_take (i := 2) (oi := { dst := some 74, op := Op.move (Operand.tmp 73), type := 4, pos := "ref.go:41", after := #[{ on := 1, ground := Ground.data }], guard := none }) (v := ?_) rfl (by kernel_rfl) (by kernel_rfl) (by kernel_rfl) (fun _ _ _ h => h) (Or.inl ⟨by rfl, ?_⟩) (by exact hH) ?_
              rotate_left
              · intro W hSw
                go_simp
                try with_reducible rfl
              try simp only [Act.put, List.setIfInBounds_toArray, List.set_cons_zero, List.set_cons_succ]
              refine wpAnyH_take (i := 3) (oi := { dst := some 75, op := Op.fieldAddr 101 (Operand.tmp 10) 0, type := 0, pos := "ref.go:41", after := #[{ on := 2, ground := Ground.guard }], guard := some (2, false) }) (v := undef) rfl (by kernel_rfl) (by kernel_rfl) (by kernel_rfl) (fun _ _ _ h => h) (Or.inr ⟨by rfl, rfl⟩) (by exact hH) ?_
              try simp only [Act.put, List.setIfInBounds_toArray, List.set_cons_zero, List.set_cons_succ]
              refine wpAnyH_take (i := 4) (oi := { dst := some 76, op := Op.load 4 (Operand.tmp 75), type := 4, pos := "ref.go:41", after := #[{ on := 3, ground := Ground.data }, { on := 2, ground := Ground.guard }], guard := some (2, false) }) (v := undef) rfl (by kernel_rfl) (by kernel_rfl) (by kernel_rfl) (fun _ _ _ h => h) (Or.inr ⟨by rfl, rfl⟩) (by exact hH) ?_
              try simp only [Act.put, List.setIfInBounds_toArray, List.set_cons_zero, List.set_cons_succ]
              refine wpAnyH_take (i := 5) (oi := { dst := some 77, op := Op.pick (Operand.tmp 74) (Operand.const (Value.bool true)) (Operand.tmp 76), type := 4, pos := "ref.go:41", after := #[{ on := 2, ground := Ground.data }, { on := 4, ground := Ground.data }], guard := none }) (v := ?_) rfl (by kernel_rfl) (by kernel_rfl) (by kernel_rfl) (fun _ _ _ h => h) (Or.inl ⟨by rfl, ?_⟩) (by exact hH) ?_
              rotate_left
              · intro W hSw
                go_simp
                try with_reducible rfl
              try simp only [Act.put, List.setIfInBounds_toArray, List.set_cons_zero, List.set_cons_succ]
              refine wpAnyH_ready (rs := [10]) (by kernel_rfl) (by simp) ?_
              refine (AllReadyH.cons (o := { dst := some 82, op := Op.call { callee := Callee.value (Operand.func 53), args := #[Operand.tmp 79, Operand.tmp 81], argTypes := #[23, 23] }, type := 23, pos := "ref.go:41", after := #[{ on := 7, ground := Ground.data }, { on := 9, ground := Ground.data }, { on := 2, ground := Ground.chain }], guard := none }) rfl (fun K hK => ?_) AllReadyH.nil)
              go_simp
              go_at_call 53
              refine (join_look (HT.out.1.below HVd.out).f (HT.out.2.2.1.mv (LkMv.of_below _ _ _ HVd.out)) (by have := HK.out.2.2; omega)).mono ?_
              rintro e V32 ⟨J1, J1c, rfl, ho, hbk⟩
              have hx32 : SlX V32 (Xs b x1 x2 x5 ((w.heap.size + 1 + 1) + 1)) ((F i).2.first ++ q.2.first) (.slice J1 ((F i).2.first.length + q.2.first.length) J1c) := (slx_ofI ho (fun y hy => by rcases List.mem_append.1 hy with e | e; exact slx_ints (HT.out.1.f) y e; exact slx_ints HT.out.2.2.1 y e) (fun g hg => (HT.out.1.below HVd.out).a.fresh hg)).lower (n' := (w.heap.size + 1 + 1) + 1) (by have := (HT.out.1.below HVd.out).q.c.lt; omega)
              have HV32 := Lib.hid (HVd.out.trans (hbk.mono HVd.out.size))
              have HX32 := Lib.hid hx32
              clear hx32 ho hbk
              try go_wp2_with fail
              refine hK.out _ _ (HT.out.2.1.c.on HV32.out) (fun hH => ?_)
              clear hK K
              try simp only [Act.put, List.setIfInBounds_toArray, List.set_cons_zero, List.set_cons_succ]
              refine wpAnyH_ready (rs := [15]) (by kernel_rfl) (by simp) ?_
              refine (AllReadyH.cons (o := { dst := some 87, op := Op.call { callee := Callee.value (Operand.func 53), args := #[Operand.tmp 84, Operand.tmp 86], argTypes := #[23, 23] }, type := 23, pos := "ref.go:41", after := #[{ on := 12, ground := Ground.data }, { on := 14, ground := Ground.data }, { on := 10, ground := Ground.chain }], guard := none }) rfl (fun K hK => ?_) AllReadyH.nil)
              go_simp
              go_at_call 53
              refine (join_look (HT.out.1.below HV32.out).l (HT.out.2.2.2.1.mv (LkMv.of_below _ _ _ HV32.out)) (by have := HK.out.2.2; omega)).mono ?_
              rintro e V33 ⟨J2, J2c, rfl, ho, hbk⟩
              have hx33 : SlX V33 (Xs b x1 x2 x5 ((w.heap.size + 1 + 1) + 1)) ((F i).2.last ++ q.2.last) (.slice J2 ((F i).2.last.length + q.2.last.length) J2c) := (slx_ofI ho (fun y hy => by rcases List.mem_append.1 hy with e | e; exact slx_ints (HT.out.1.l) y e; exact slx_ints HT.out.2.2.2.1 y e) (fun g hg => (HT.out.1.below HV32.out).a.fresh hg)).lower (n' := (w.heap.size + 1 + 1) + 1) (by have := (HT.out.1.below HV32.out).q.c.lt; omega)
              have HV33 := Lib.hid (HV32.out.trans (hbk.mono HV32.out.size))
              have hy33 := HX32.out.mv (LkMv.of_below x1 x2 x5 hbk)
              have HY33 := Lib.hid hy33
              clear hy33
              have HX33 := Lib.hid hx33
              clear hx33 ho hbk
              try go_wp2_with fail
              refine hK.out _ _ (HT.out.2.1.c.on HV33.out) (fun hH => ?_)
              clear hK K
              try simp only [Act.put, List.setIfInBounds_toArray, List.set_cons_zero, List.set_cons_succ]
              refine wpAnyH_take (i := 16) (oi := { dst := some 88, op := Op.build 101 #[(0, Operand.tmp 77), (1, Operand.tmp 82), (2, Operand.tmp 87)], type := 101, pos := "ref.go:41", after := #[{ on := 5, ground := Ground.data }, { on := 10, ground := Ground.data }, { on := 15, ground := Ground.data }], guard := none }) (v := ?_) rfl (by kernel_rfl) (by kernel_rfl) (by kernel_rfl) (fun _ _ _ h => h) (Or.inl ⟨by rfl, ?_⟩) (by exact hH) ?_
              rotate_left
              · intro W hSw
                go_simp
                try with_reducible rfl
              try simp only [Act.put, List.setIfInBounds_toArray, List.set_cons_zero, List.set_cons_succ]
              refine wpAnyH_ready (rs := [17]) (by kernel_rfl) (by simp) ?_
              refine AllReadyH.cons (o := { dst := none, op := Op.store 101 (Operand.tmp 8) (Operand.tmp 88), type := 0, pos := "ref.go:41", after := #[{ on := 16, ground := Ground.data }, { on := 15, ground := Ground.chain }, { on := 0, ground := Ground.phase }, { on := 1, ground := Ground.phase }, { on := 2, ground := Ground.phase }, { on := 3, ground := Ground.phase }, { on := 4, ground := Ground.phase }, { on := 5, ground := Ground.phase }, { on := 6, ground := Ground.phase }, { on := 7, ground := Ground.phase }, { on := 8, ground := Ground.phase }, { on := 9, ground := Ground.phase }, { on := 10, ground := Ground.phase }, { on := 11, ground := Ground.phase }, { on := 12, ground := Ground.phase }, { on := 13, ground := Ground.phase }, { on := 14, ground := Ground.phase }, { on := 15, ground := Ground.phase }, { on := 16, ground := Ground.phase }], guard := none }) rfl (fun K hK => ?_) AllReadyH.nil
              have hL := HT.out.1.below HV33.out
              have p0 := hL.q.c.cell 0
              have p1 := hL.q.c.cell 1
              have p2 := hL.q.c.cell 2
              simp at p0 p1 p2
              have g0 := hL.q.c.froz 0
              have g1 := hL.q.c.froz 1
              have g2 := hL.q.c.froz 2
              have z0 := hL.q.c.lt
              have hP := hL.put (p' := ⟨(F i).2.empty || q.2.empty, (F i).2.first ++ q.2.first, (F i).2.last ++ q.2.last⟩) (e := true) (by omega) (by rw [HPE.out]; rfl) HY33.out HX33.out
              have hend := HJ.out _ _ _ hP
              have HEND := Lib.hid hend
              have hq3 := (((((HT.out.2.1.c.on HV33.out)))))
              have hkq : (w.heap.size + 1 + 1) ≠ qp := by omega
              clear hL hP hend
              go_simp
              refine hK.out _ _ (show Cells _ qp 101 #[.bool q.2.empty, .slice Af q.2.first.length cf, .slice Al q.2.last.length cl] from (Below.heap_setCell _ _ _ _ (by first | exact hkq | exact hkq.symm)).trans ((Below.heap_setCell _ _ _ _ (by first | exact hkq | exact hkq.symm)).trans ((Below.heap_setCell _ _ _ _ (by first | exact hkq | exact hkq.symm)).trans hq3))) (fun hH => ?_)
              clear hK K p0 p1 p2 g0 g1 g2 z0 hq3
              try simp only [Act.put, List.setIfInBounds_toArray, List.set_cons_zero, List.set_cons_succ]
              refine wpAnyH_done (by kernel_rfl) ?_ _
              refine NoPanic.normal ?_
              go_wp2_with fail
              go_roundw
              case rel => exact HEND.out
              case measure => simp [RowKit.intOf]; omega
        | false =>
          have HPE := Lib.hid hpe
          clear hpe
          refine wp_region_noPanic ?_
          refine wp_region_held_drew (S := fun W => Cells W qp 101 #[.bool q.2.empty, .slice Af q.2.first.length cf, .slice Al q.2.last.length cl]) (by kernel_rfl) HS0.out (fun hH => ?_)
          rw [HWD.out]
          have hH := HSd.out
          refine wpAnyH_take (i := 0) (oi := { dst := some 72, op := Op.fieldAddr 101 (Operand.tmp 8) 0, type := 0, pos := "ref.go:41", after := #[], guard := none }) (v := ?_) rfl (by kernel_rfl) (by kernel_rfl) (by kernel_rfl) (fun _ _ _ h => h) (Or.inl ⟨by rfl, ?_⟩) (by exact hH) ?_
          rotate_left
          · intro W hSw
            go_simp
            try with_reducible rfl
          try simp only [Act.put, List.setIfInBounds_toArray, List.set_cons_zero, List.set_cons_succ]
          refine wpAnyH_take (i := 6) (oi := { dst := some 78, op := Op.fieldAddr 101 (Operand.tmp 8) 1, type := 0, pos := "ref.go:41", after := #[], guard := none }) (v := ?_) rfl (by kernel_rfl) (by kernel_rfl) (by kernel_rfl) (fun _ _ _ h => h) (Or.inl ⟨by rfl, ?_⟩) (by exact hH) ?_
          rotate_left
          · intro W hSw
            go_simp
            try with_reducible rfl
          try simp only [Act.put, List.setIfInBounds_toArray, List.set_cons_zero, List.set_cons_succ]
          refine wpAnyH_take (i := 8) (oi := { dst := some 80, op := Op.fieldAddr 101 (Operand.tmp 10) 1, type := 0, pos := "ref.go:41", after := #[], guard := none }) (v := ?_) rfl (by kernel_rfl) (by kernel_rfl) (by kernel_rfl) (fun _ _ _ h => h) (Or.inl ⟨by rfl, ?_⟩) (by exact hH) ?_
          rotate_left
          · intro W hSw
            go_simp
            try with_reducible rfl
          try simp only [Act.put, List.setIfInBounds_toArray, List.set_cons_zero, List.set_cons_succ]
          refine wpAnyH_take (i := 9) (oi := { dst := some 81, op := Op.load 23 (Operand.tmp 80), type := 23, pos := "ref.go:41", after := #[{ on := 8, ground := Ground.data }], guard := none }) (v := ?_) rfl (by kernel_rfl) (by kernel_rfl) (by kernel_rfl) (fun _ _ _ h => h) (Or.inl ⟨by rfl, ?_⟩) (by exact hH) ?_
          rotate_left
          · intro W hSw
            have p := hSw.cell 1
            simp at p
            go_simp
            try with_reducible rfl
          try simp only [Act.put, List.setIfInBounds_toArray, List.set_cons_zero, List.set_cons_succ]
          refine wpAnyH_take (i := 11) (oi := { dst := some 83, op := Op.fieldAddr 101 (Operand.tmp 8) 2, type := 0, pos := "ref.go:41", after := #[], guard := none }) (v := ?_) rfl (by kernel_rfl) (by kernel_rfl) (by kernel_rfl) (fun _ _ _ h => h) (Or.inl ⟨by rfl, ?_⟩) (by exact hH) ?_
          rotate_left
          · intro W hSw
            go_simp
            try with_reducible rfl
          try simp only [Act.put, List.setIfInBounds_toArray, List.set_cons_zero, List.set_cons_succ]
          refine wpAnyH_take (i := 13) (oi := { dst := some 85, op := Op.fieldAddr 101 (Operand.tmp 10) 2, type := 0, pos := "ref.go:41", after := #[], guard := none }) (v := ?_) rfl (by kernel_rfl) (by kernel_rfl) (by kernel_rfl) (fun _ _ _ h => h) (Or.inl ⟨by rfl, ?_⟩) (by exact hH) ?_
          rotate_left
          · intro W hSw
            go_simp
            try with_reducible rfl
          try simp only [Act.put, List.setIfInBounds_toArray, List.set_cons_zero, List.set_cons_succ]
          refine wpAnyH_take (i := 14) (oi := { dst := some 86, op := Op.load 23 (Operand.tmp 85), type := 23, pos := "ref.go:41", after := #[{ on := 13, ground := Ground.data }], guard := none }) (v := ?_) rfl (by kernel_rfl) (by kernel_rfl) (by kernel_rfl) (fun _ _ _ h => h) (Or.inl ⟨by rfl, ?_⟩) (by exact hH) ?_
          rotate_left
          · intro W hSw
            have p := hSw.cell 2
            simp at p
            go_simp
            try with_reducible rfl
          try simp only [Act.put, List.setIfInBounds_toArray, List.set_cons_zero, List.set_cons_succ]
          refine wpAnyH_ready (rs := [1, 7, 12]) (by kernel_rfl) (by simp) ?_
          refine (AllReadyH.cons (o := { dst := some 73, op := Op.load 4 (Operand.tmp 72), type := 4, pos := "ref.go:41", after := #[{ on := 0, ground := Ground.data }], guard := none }) rfl (fun K hK => ?_) (AllReadyH.cons (o := { dst := some 79, op := Op.load 23 (Operand.tmp 78), type := 23, pos := "ref.go:41", after := #[{ on := 6, ground := Ground.data }], guard := none }) rfl (fun K hK => ?_) (AllReadyH.cons (o := { dst := some 84, op := Op.load 23 (Operand.tmp 83), type := 23, pos := "ref.go:41", after := #[{ on := 11, ground := Ground.data }], guard := none }) rfl (fun K hK => ?_) AllReadyH.nil)))
          ·
            have pl := (HT.out.1.below HVd.out).q.c.cell 0
            rw [HPE.out] at pl
            simp at pl
            go_simp
            refine hK.out _ _ (HT.out.2.1.c.on HVd.out) (fun hH => ?_)
            clear hK K pl
            try simp only [Act.put, List.setIfInBounds_toArray, List.set_cons_zero, List.set_cons_succ]
            refine wpAnyH_take (i := 2) (oi := { dst := some 74, op := Op.move (Operand.tmp 73), type := 4, pos := "ref.go:41", after := #[{ on := 1, ground := Ground.data }], guard := none }) (v := ?_) rfl (by kernel_rfl) (by kernel_rfl) (by kernel_rfl) (fun _ _ _ h => h) (Or.inl ⟨by rfl, ?_⟩) (by exact hH) ?_
            rotate_left
            · intro W hSw
              go_simp
              try with_reducible rfl
            try simp only [Act.put, List.setIfInBounds_toArray, List.set_cons_zero, List.set_cons_succ]
            refine wpAnyH_take (i := 3) (oi := { dst := some 75, op := Op.fieldAddr 101 (Operand.tmp 10) 0, type := 0, pos := "ref.go:41", after := #[{ on := 2, ground := Ground.guard }], guard := some (2, false) }) (v := ?_) rfl (by kernel_rfl) (by kernel_rfl) (by kernel_rfl) (fun _ _ _ h => h) (Or.inl ⟨by rfl, ?_⟩) (by exact hH) ?_
            rotate_left
            · intro W hSw
              go_simp
              try with_reducible rfl
            try simp only [Act.put, List.setIfInBounds_toArray, List.set_cons_zero, List.set_cons_succ]
            refine wpAnyH_take (i := 4) (oi := { dst := some 76, op := Op.load 4 (Operand.tmp 75), type := 4, pos := "ref.go:41", after := #[{ on := 3, ground := Ground.data }, { on := 2, ground := Ground.guard }], guard := some (2, false) }) (v := ?_) rfl (by kernel_rfl) (by kernel_rfl) (by kernel_rfl) (fun _ _ _ h => h) (Or.inl ⟨by rfl, ?_⟩) (by exact hH) ?_
            rotate_left
            · intro W hSw
              have p := hSw.cell 0
              simp at p
              go_simp
              try with_reducible rfl
            try simp only [Act.put, List.setIfInBounds_toArray, List.set_cons_zero, List.set_cons_succ]
            refine wpAnyH_take (i := 5) (oi := { dst := some 77, op := Op.pick (Operand.tmp 74) (Operand.const (Value.bool true)) (Operand.tmp 76), type := 4, pos := "ref.go:41", after := #[{ on := 2, ground := Ground.data }, { on := 4, ground := Ground.data }], guard := none }) (v := ?_) rfl (by kernel_rfl) (by kernel_rfl) (by kernel_rfl) (fun _ _ _ h => h) (Or.inl ⟨by rfl, ?_⟩) (by exact hH) ?_
            rotate_left
            · intro W hSw
              go_simp
              try with_reducible rfl
            try simp only [Act.put, List.setIfInBounds_toArray, List.set_cons_zero, List.set_cons_succ]
            refine wpAnyH_ready (rs := [7, 12]) (by kernel_rfl) (by simp) ?_
            refine (AllReadyH.cons (o := { dst := some 79, op := Op.load 23 (Operand.tmp 78), type := 23, pos := "ref.go:41", after := #[{ on := 6, ground := Ground.data }], guard := none }) rfl (fun K hK => ?_) (AllReadyH.cons (o := { dst := some 84, op := Op.load 23 (Operand.tmp 83), type := 23, pos := "ref.go:41", after := #[{ on := 11, ground := Ground.data }], guard := none }) rfl (fun K hK => ?_) AllReadyH.nil))
            ·
              have pl := (HT.out.1.below HVd.out).q.c.cell 1
              simp at pl
              go_simp
              refine hK.out _ _ (HT.out.2.1.c.on HVd.out) (fun hH => ?_)
              clear hK K pl
              try simp only [Act.put, List.setIfInBounds_toArray, List.set_cons_zero, List.set_cons_succ]
              refine wpAnyH_ready (rs := [10, 12]) (by kernel_rfl) (by simp) ?_
              refine (AllReadyH.cons (o := { dst := some 82, op := Op.call { callee := Callee.value (Operand.func 53), args := #[Operand.tmp 79, Operand.tmp 81], argTypes := #[23, 23] }, type := 23, pos := "ref.go:41", after := #[{ on := 7, ground := Ground.data }, { on := 9, ground := Ground.data }, { on := 2, ground := Ground.chain }], guard := none }) rfl (fun K hK => ?_) (AllReadyH.cons (o := { dst := some 84, op := Op.load 23 (Operand.tmp 83), type := 23, pos := "ref.go:41", after := #[{ on := 11, ground := Ground.data }], guard := none }) rfl (fun K hK => ?_) AllReadyH.nil))
              ·
                go_simp
                go_at_call 53
                refine (join_look (HT.out.1.below HVd.out).f (HT.out.2.2.1.mv (LkMv.of_below _ _ _ HVd.out)) (by have := HK.out.2.2; omega)).mono ?_
                rintro e V3 ⟨J1, J1c, rfl, ho, hbk⟩
                have hx3 : SlX V3 (Xs b x1 x2 x5 ((w.heap.size + 1 + 1) + 1)) ((F i).2.first ++ q.2.first) (.slice J1 ((F i).2.first.length + q.2.first.length) J1c) := (slx_ofI ho (fun y hy => by rcases List.mem_append.1 hy with e | e; exact slx_ints (HT.out.1.f) y e; exact slx_ints HT.out.2.2.1 y e) (fun g hg => (HT.out.1.below HVd.out).a.fresh hg)).lower (n' := (w.heap.size + 1 + 1) + 1) (by have := (HT.out.1.below HVd.out).q.c.lt; omega)
                have HV3 := Lib.hid (HVd.out.trans (hbk.mono HVd.out.size))
                have HX3 := Lib.hid hx3
                clear hx3 ho hbk
                try go_wp2_with fail
                refine hK.out _ _ (HT.out.2.1.c.on HV3.out) (fun hH => ?_)
                clear hK K
                try simp only [Act.put, List.setIfInBounds_toArray, List.set_cons_zero, List.set_cons_succ]
                refine wpAnyH_ready (rs := [12]) (by kernel_rfl) (by simp) ?_
                refine (AllReadyH.cons (o := { dst := some 84, op := Op.load 23 (Operand.tmp 83), type := 23, pos := "ref.go:41", after := #[{ on := 11, ground := Ground.data }], guard := none }) rfl (fun K hK => ?_) AllReadyH.nil)
                have pl := (HT.out.1.below HV3.out).q.c.cell 2
                simp at pl
                go_simp
                refine hK.out _ _ (HT.out.2.1.c.on HV3.out) (fun hH => ?_)
                clear hK K pl
                try simp only [Act.put, List.setIfInBounds_toArray, List.set_cons_zero, List.set_cons_succ]
                refine wpAnyH_ready (rs := [15]) (by kernel_rfl) (by simp) ?_
                refine (AllReadyH.cons (o := { dst := some 87, op := Op.call { callee := Callee.value (Operand.func 53), args := #[Operand.tmp 84, Operand.tmp 86], argTypes := #[23, 23] }, type := 23, pos := "ref.go:41", after := #[{ on := 12, ground := Ground.data }, { on := 14, ground := Ground.data }, { on := 10, ground := Ground.chain }], guard := none }) rfl (fun K hK => ?_) AllReadyH.nil)
                go_simp
                go_at_call 53
                refine (join_look (HT.out.1.below HV3.out).l (HT.out.2.2.2.1.mv (LkMv.of_below _ _ _ HV3.out)) (by have := HK.out.2.2; omega)).mono ?_
                rintro e V5 ⟨J2, J2c, rfl, ho, hbk⟩
                have hx5 : SlX V5 (Xs b x1 x2 x5 ((w.heap.size + 1 + 1) + 1)) ((F i).2.last ++ q.2.last) (.slice J2 ((F i).2.last.length + q.2.last.length) J2c) := (slx_ofI ho (fun y hy => by rcases List.mem_append.1 hy with e | e; exact slx_ints (HT.out.1.l) y e; exact slx_ints HT.out.2.2.2.1 y e) (fun g hg => (HT.out.1.below HV3.out).a.fresh hg)).lower (n' := (w.heap.size + 1 + 1) + 1) (by have := (HT.out.1.below HV3.out).q.c.lt; omega)
                have HV5 := Lib.hid (HV3.out.trans (hbk.mono HV3.out.size))
                have hy5 := HX3.out.mv (LkMv.of_below x1 x2 x5 hbk)
                have HY5 := Lib.hid hy5
                clear hy5
                have HX5 := Lib.hid hx5
                clear hx5 ho hbk
                try go_wp2_with fail
                refine hK.out _ _ (HT.out.2.1.c.on HV5.out) (fun hH => ?_)
                clear hK K
                try simp only [Act.put, List.setIfInBounds_toArray, List.set_cons_zero, List.set_cons_succ]
                refine wpAnyH_take (i := 16) (oi := { dst := some 88, op := Op.build 101 #[(0, Operand.tmp 77), (1, Operand.tmp 82), (2, Operand.tmp 87)], type := 101, pos := "ref.go:41", after := #[{ on := 5, ground := Ground.data }, { on := 10, ground := Ground.data }, { on := 15, ground := Ground.data }], guard := none }) (v := ?_) rfl (by kernel_rfl) (by kernel_rfl) (by kernel_rfl) (fun _ _ _ h => h) (Or.inl ⟨by rfl, ?_⟩) (by exact hH) ?_
                rotate_left
                · intro W hSw
                  go_simp
                  try with_reducible rfl
                try simp only [Act.put, List.setIfInBounds_toArray, List.set_cons_zero, List.set_cons_succ]
                refine wpAnyH_ready (rs := [17]) (by kernel_rfl) (by simp) ?_
                refine AllReadyH.cons (o := { dst := none, op := Op.store 101 (Operand.tmp 8) (Operand.tmp 88), type := 0, pos := "ref.go:41", after := #[{ on := 16, ground := Ground.data }, { on := 15, ground := Ground.chain }, { on := 0, ground := Ground.phase }, { on := 1, ground := Ground.phase }, { on := 2, ground := Ground.phase }, { on := 3, ground := Ground.phase }, { on := 4, ground := Ground.phase }, { on := 5, ground := Ground.phase }, { on := 6, ground := Ground.phase }, { on := 7, ground := Ground.phase }, { on := 8, ground := Ground.phase }, { on := 9, ground := Ground.phase }, { on := 10, ground := Ground.phase }, { on := 11, ground := Ground.phase }, { on := 12, ground := Ground.phase }, { on := 13, ground := Ground.phase }, { on := 14, ground := Ground.phase }, { on := 15, ground := Ground.phase }, { on := 16, ground := Ground.phase }], guard := none }) rfl (fun K hK => ?_) AllReadyH.nil
                have hL := HT.out.1.below HV5.out
                have p0 := hL.q.c.cell 0
                have p1 := hL.q.c.cell 1
                have p2 := hL.q.c.cell 2
                simp at p0 p1 p2
                have g0 := hL.q.c.froz 0
                have g1 := hL.q.c.froz 1
                have g2 := hL.q.c.froz 2
                have z0 := hL.q.c.lt
                have hP := hL.put (p' := ⟨(F i).2.empty || q.2.empty, (F i).2.first ++ q.2.first, (F i).2.last ++ q.2.last⟩) (e := q.2.empty) (by omega) (by rw [HPE.out]; rfl) HY5.out HX5.out
                have hend := HJ.out _ _ _ hP
                have HEND := Lib.hid hend
                have hq3 := (((((HT.out.2.1.c.on HV5.out)))))
                have hkq : (w.heap.size + 1 + 1) ≠ qp := by omega
                clear hL hP hend
                go_simp
                refine hK.out _ _ (show Cells _ qp 101 #[.bool q.2.empty, .slice Af q.2.first.length cf, .slice Al q.2.last.length cl] from (Below.heap_setCell _ _ _ _ (by first | exact hkq | exact hkq.symm)).trans ((Below.heap_setCell _ _ _ _ (by first | exact hkq | exact hkq.symm)).trans ((Below.heap_setCell _ _ _ _ (by first | exact hkq | exact hkq.symm)).trans hq3))) (fun hH => ?_)
                clear hK K p0 p1 p2 g0 g1 g2 z0 hq3
                try simp only [Act.put, List.setIfInBounds_toArray, List.set_cons_zero, List.set_cons_succ]
                refine wpAnyH_done (by kernel_rfl) ?_ _
                refine NoPanic.normal ?_
                go_wp2_with fail
                go_roundw
                case rel => exact HEND.out
                case measure => simp [RowKit.intOf]; omega
              ·
                have pl := (HT.out.1.below HVd.out).q.c.cell 2
                simp at pl
                go_simp
                refine hK.out _ _ (HT.out.2.1.c.on HVd.out) (fun hH => ?_)
                clear hK K pl
                try simp only [Act.put, List.setIfInBounds_toArray, List.set_cons_zero, List.set_cons_succ]
                refine wpAnyH_ready (rs := [10]) (by kernel_rfl) (by simp) ?_
                refine (AllReadyH.cons (o := { dst := some 82, op := Op.call { callee := Callee.value (Operand.func 53), args := #[Operand.tmp 79, Operand.tmp 81], argTypes := #[23, 23] }, type := 23, pos := "ref.go:41", after := #[{ on := 7, ground := Ground.data }, { on := 9, ground := Ground.data }, { on := 2, ground := Ground.chain }], guard := none }) rfl (fun K hK => ?_) AllReadyH.nil)
                go_simp
                go_at_call 53
                refine (join_look (HT.out.1.below HVd.out).f (HT.out.2.2.1.mv (LkMv.of_below _ _ _ HVd.out)) (by have := HK.out.2.2; omega)).mono ?_
                rintro e V7 ⟨J1, J1c, rfl, ho, hbk⟩
                have hx7 : SlX V7 (Xs b x1 x2 x5 ((w.heap.size + 1 + 1) + 1)) ((F i).2.first ++ q.2.first) (.slice J1 ((F i).2.first.length + q.2.first.length) J1c) := (slx_ofI ho (fun y hy => by rcases List.mem_append.1 hy with e | e; exact slx_ints (HT.out.1.f) y e; exact slx_ints HT.out.2.2.1 y e) (fun g hg => (HT.out.1.below HVd.out).a.fresh hg)).lower (n' := (w.heap.size + 1 + 1) + 1) (by have := (HT.out.1.below HVd.out).q.c.lt; omega)
                have HV7 := Lib.hid (HVd.out.trans (hbk.mono HVd.out.size))
                have HX7 := Lib.hid hx7
                clear hx7 ho hbk
                try go_wp2_with fail
                refine hK.out _ _ (HT.out.2.1.c.on HV7.out) (fun hH => ?_)
                clear hK K
                try simp only [Act.put, List.setIfInBounds_toArray, List.set_cons_zero, List.set_cons_succ]
                refine wpAnyH_ready (rs := [15]) (by kernel_rfl) (by simp) ?_
                refine (AllReadyH.cons (o := { dst := some 87, op := Op.call { callee := Callee.value (Operand.func 53), args := #[Operand.tmp 84, Operand.tmp 86], argTypes := #[23, 23] }, type := 23, pos := "ref.go:41", after := #[{ on := 12, ground := Ground.data }, { on := 14, ground := Ground.data }, { on := 10, ground := Ground.chain }], guard := none }) rfl (fun K hK => ?_) AllReadyH.nil)
                go_simp
                go_at_call 53
                refine (join_look (HT.out.1.below HV7.out).l (HT.out.2.2.2.1.mv (LkMv.of_below _ _ _ HV7.out)) (by have := HK.out.2.2; omega)).mono ?_
                rintro e V8 ⟨J2, J2c, rfl, ho, hbk⟩
                have hx8 : SlX V8 (Xs b x1 x2 x5 ((w.heap.size + 1 + 1) + 1)) ((F i).2.last ++ q.2.last) (.slice J2 ((F i).2.last.length + q.2.last.length) J2c) := (slx_ofI ho (fun y hy => by rcases List.mem_append.1 hy with e | e; exact slx_ints (HT.out.1.l) y e; exact slx_ints HT.out.2.2.2.1 y e) (fun g hg => (HT.out.1.below HV7.out).a.fresh hg)).lower (n' := (w.heap.size + 1 + 1) + 1) (by have := (HT.out.1.below HV7.out).q.c.lt; omega)
                have HV8 := Lib.hid (HV7.out.trans (hbk.mono HV7.out.size))
                have hy8 := HX7.out.mv (LkMv.of_below x1 x2 x5 hbk)
                have HY8 := Lib.hid hy8
                clear hy8
                have HX8 := Lib.hid hx8
                clear hx8 ho hbk
                try go_wp2_with fail
                refine hK.out _ _ (HT.out.2.1.c.on HV8.out) (fun hH => ?_)
                clear hK K
                try simp only [Act.put, List.setIfInBounds_toArray, List.set_cons_zero, List.set_cons_succ]
                refine wpAnyH_take (i := 16) (oi := { dst := some 88, op := Op.build 101 #[(0, Operand.tmp 77), (1, Operand.tmp 82), (2, Operand.tmp 87)], type := 101, pos := "ref.go:41", after := #[{ on := 5, ground := Ground.data }, { on := 10, ground := Ground.data }, { on := 15, ground := Ground.data }], guard := none }) (v := ?_) rfl (by kernel_rfl) (by kernel_rfl) (by kernel_rfl) (fun _ _ _ h => h) (Or.inl ⟨by rfl, ?_⟩) (by exact hH) ?_
                rotate_left
                · intro W hSw
                  go_simp
                  try with_reducible rfl
                try simp only [Act.put, List.setIfInBounds_toArray, List.set_cons_zero, List.set_cons_succ]
                refine wpAnyH_ready (rs := [17]) (by kernel_rfl) (by simp) ?_
                refine AllReadyH.cons (o := { dst := none, op := Op.store 101 (Operand.tmp 8) (Operand.tmp 88), type := 0, pos := "ref.go:41", after := #[{ on := 16, ground := Ground.data }, { on := 15, ground := Ground.chain }, { on := 0, ground := Ground.phase }, { on := 1, ground := Ground.phase }, { on := 2, ground := Ground.phase }, { on := 3, ground := Ground.phase }, { on := 4, ground := Ground.phase }, { on := 5, ground := Ground.phase }, { on := 6, ground := Ground.phase }, { on := 7, ground := Ground.phase }, { on := 8, ground := Ground.phase }, { on := 9, ground := Ground.phase }, { on := 10, ground := Ground.phase }, { on := 11, ground := Ground.phase }, { on := 12, ground := Ground.phase }, { on := 13, ground := Ground.phase }, { on := 14, ground := Ground.phase }, { on := 15, ground := Ground.phase }, { on := 16, ground := Ground.phase }], guard := none }) rfl (fun K hK => ?_) AllReadyH.nil
                have hL := HT.out.1.below HV8.out
                have p0 := hL.q.c.cell 0
                have p1 := hL.q.c.cell 1
                have p2 := hL.q.c.cell 2
                simp at p0 p1 p2
                have g0 := hL.q.c.froz 0
                have g1 := hL.q.c.froz 1
                have g2 := hL.q.c.froz 2
                have z0 := hL.q.c.lt
                have hP := hL.put (p' := ⟨(F i).2.empty || q.2.empty, (F i).2.first ++ q.2.first, (F i).2.last ++ q.2.last⟩) (e := q.2.empty) (by omega) (by rw [HPE.out]; rfl) HY8.out HX8.out
                have hend := HJ.out _ _ _ hP
                have HEND := Lib.hid hend
                have hq3 := (((((HT.out.2.1.c.on HV8.out)))))
                have hkq : (w.heap.size + 1 + 1) ≠ qp := by omega
                clear hL hP hend
                go_simp
                refine hK.out _ _ (show Cells _ qp 101 #[.bool q.2.empty, .slice Af q.2.first.length cf, .slice Al q.2.last.length cl] from (Below.heap_setCell _ _ _ _ (by first | exact hkq | exact hkq.symm)).trans ((Below.heap_setCell _ _ _ _ (by first | exact hkq | exact hkq.symm)).trans ((Below.heap_setCell _ _ _ _ (by first | exact hkq | exact hkq.symm)).trans hq3))) (fun hH => ?_)
                clear hK K p0 p1 p2 g0 g1 g2 z0 hq3
                try simp only [Act.put, List.setIfInBounds_toArray, List.set_cons_zero, List.set_cons_succ]
                refine wpAnyH_done (by kernel_rfl) ?_ _
                refine NoPanic.normal ?_
                go_wp2_with fail
                go_roundw
                case rel => exact HEND.out
                case measure => simp [RowKit.intOf]; omega
            ·
              have pl := (HT.out.1.below HVd.out).q.c.cell 2
              simp at pl
              go_simp
              refine hK.out _ _ (HT.out.2.1.c.on HVd.out) (fun hH => ?_)
              clear hK K pl
              try simp only [Act.put, List.setIfInBounds_toArray, List.set_cons_zero, List.set_cons_succ]
              refine wpAnyH_ready (rs := [7]) (by kernel_rfl) (by simp) ?_
              refine (AllReadyH.cons (o := { dst := some 79, op := Op.load 23 (Operand.tmp 78), type := 23, pos := "ref.go:41", after := #[{ on := 6, ground := Ground.data }], guard := none }) rfl (fun K hK => ?_) AllReadyH.nil)
              have pl := (HT.out.1.below HVd.out).q.c.cell 1
              simp at pl
              go_simp
              refine hK.out _ _ (HT.out.2.1.c.on HVd.out) (fun hH => ?_)
              clear hK K pl
              try simp only [Act.put, List.setIfInBounds_toArray, List.set_cons_zero, List.set_cons_succ]
              refine wpAnyH_ready (rs := [10]) (by kernel_rfl) (by simp) ?_
              refine (AllReadyH.cons (o := { dst := some 82, op := Op.call { callee := Callee.value (Operand.func 53), args := #[Operand.tmp 79, Operand.tmp 81], argTypes := #[23, 23] }, type := 23, pos := "ref.go:41", after := #[{ on := 7, ground := Ground.data }, { on := 9, ground := Ground.data }, { on := 2, ground := Ground.chain }], guard := none }) rfl (fun K hK => ?_) AllReadyH.nil)
              go_simp
              go_at_call 53
              refine (join_look (HT.out.1.below HVd.out).f (HT.out.2.2.1.mv (LkMv.of_below _ _ _ HVd.out)) (by have := HK.out.2.2; omega)).mono ?_
              rintro e V11 ⟨J1, J1c, rfl, ho, hbk⟩
              have hx11 : SlX V11 (Xs b x1 x2 x5 ((w.heap.size + 1 + 1) + 1)) ((F i).2.first ++ q.2.first) (.slice J1 ((F i).2.first.length + q.2.first.length) J1c) := (slx_ofI ho (fun y hy => by rcases List.mem_append.1 hy with e | e; exact slx_ints (HT.out.1.f) y e; exact slx_ints HT.out.2.2.1 y e) (fun g hg => (HT.out.1.below HVd.out).a.fresh hg)).lower (n' := (w.heap.size + 1 + 1) + 1) (by have := (HT.out.1.below HVd.out).q.c.lt; omega)
              have HV11 := Lib.hid (HVd.out.trans (hbk.mono HVd.out.size))
              have HX11 := Lib.hid hx11
              clear hx11 ho hbk
              try go_wp2_with fail
              refine hK.out _ _ (HT.out.2.1.c.on HV11.out) (fun hH => ?_)
              clear hK K
              try simp only [Act.put, List.setIfInBounds_toArray, List.set_cons_zero, List.set_cons_succ]
              refine wpAnyH_ready (rs := [15]) (by kernel_rfl) (by simp) ?_
              refine (AllReadyH.cons (o := { dst := some 87, op := Op.call { callee := Callee.value (Operand.func 53), args := #[Operand.tmp 84, Operand.tmp 86], argTypes := #[23, 23] }, type := 23, pos := "ref.go:41", after := #[{ on := 12, ground := Ground.data }, { on := 14, ground := Ground.data }, { on := 10, ground := Ground.chain }], guard := none }) rfl (fun K hK => ?_) AllReadyH.nil)
              go_simp
              go_at_call 53
              refine (join_look (HT.out.1.below HV11.out).l (HT.out.2.2.2.1.mv (LkMv.of_below _ _ _ HV11.out)) (by have := HK.out.2.2; omega)).mono ?_
              rintro e V12 ⟨J2, J2c, rfl, ho, hbk⟩
              have hx12 : SlX V12 (Xs b x1 x2 x5 ((w.heap.size + 1 + 1) + 1)) ((F i).2.last ++ q.2.last) (.slice J2 ((F i).2.last.length + q.2.last.length) J2c) := (slx_ofI ho (fun y hy => by rcases List.mem_append.1 hy with e | e; exact slx_ints (HT.out.1.l) y e; exact slx_ints HT.out.2.2.2.1 y e) (fun g hg => (HT.out.1.below HV11.out).a.fresh hg)).lower (n' := (w.heap.size + 1 + 1) + 1) (by have := (HT.out.1.below HV11.out).q.c.lt; omega)
              have HV12 := Lib.hid (HV11.out.trans (hbk.mono HV11.out.size))
              have hy12 := HX11.out.mv (LkMv.of_below x1 x2 x5 hbk)
              have HY12 := Lib.hid hy12
              clear hy12
              have HX12 := Lib.hid hx12
              clear hx12 ho hbk
              try go_wp2_with fail
              refine hK.out _ _ (HT.out.2.1.c.on HV12.out) (fun hH => ?_)
              clear hK K
              try simp only [Act.put, List.setIfInBounds_toArray, List.set_cons_zero, List.set_cons_succ]
              refine wpAnyH_take (i := 16) (oi := { dst := some 88, op := Op.build 101 #[(0, Operand.tmp 77), (1, Operand.tmp 82), (2, Operand.tmp 87)], type := 101, pos := "ref.go:41", after := #[{ on := 5, ground := Ground.data }, { on := 10, ground := Ground.data }, { on := 15, ground := Ground.data }], guard := none }) (v := ?_) rfl (by kernel_rfl) (by kernel_rfl) (by kernel_rfl) (fun _ _ _ h => h) (Or.inl ⟨by rfl, ?_⟩) (by exact hH) ?_
              rotate_left
              · intro W hSw
                go_simp
                try with_reducible rfl
              try simp only [Act.put, List.setIfInBounds_toArray, List.set_cons_zero, List.set_cons_succ]
              refine wpAnyH_ready (rs := [17]) (by kernel_rfl) (by simp) ?_
              refine AllReadyH.cons (o := { dst := none, op := Op.store 101 (Operand.tmp 8) (Operand.tmp 88), type := 0, pos := "ref.go:41", after := #[{ on := 16, ground := Ground.data }, { on := 15, ground := Ground.chain }, { on := 0, ground := Ground.phase }, { on := 1, ground := Ground.phase }, { on := 2, ground := Ground.phase }, { on := 3, ground := Ground.phase }, { on := 4, ground := Ground.phase }, { on := 5, ground := Ground.phase }, { on := 6, ground := Ground.phase }, { on := 7, ground := Ground.phase }, { on := 8, ground := Ground.phase }, { on := 9, ground := Ground.phase }, { on := 10, ground := Ground.phase }, { on := 11, ground := Ground.phase }, { on := 12, ground := Ground.phase }, { on := 13, ground := Ground.phase }, { on := 14, ground := Ground.phase }, { on := 15, ground := Ground.phase }, { on := 16, ground := Ground.phase }], guard := none }) rfl (fun K hK => ?_) AllReadyH.nil
              have hL := HT.out.1.below HV12.out
              have p0 := hL.q.c.cell 0
              have p1 := hL.q.c.cell 1
              have p2 := hL.q.c.cell 2
              simp at p0 p1 p2
              have g0 := hL.q.c.froz 0
              have g1 := hL.q.c.froz 1
              have g2 := hL.q.c.froz 2
              have z0 := hL.q.c.lt
              have hP := hL.put (p' := ⟨(F i).2.empty || q.2.empty, (F i).2.first ++ q.2.first, (F i).2.last ++ q.2.last⟩) (e := q.2.empty) (by omega) (by rw [HPE.out]; rfl) HY12.out HX12.out
              have hend := HJ.out _ _ _ hP
              have HEND := Lib.hid hend
              have hq3 := (((((HT.out.2.1.c.on HV12.out)))))
              have hkq : (w.heap.size + 1 + 1) ≠ qp := by omega
              clear hL hP hend
              go_simp
              refine hK.out _ _ (show Cells _ qp 101 #[.bool q.2.empty, .slice Af q.2.first.length cf, .slice Al q.2.last.length cl] from (Below.heap_setCell _ _ _ _ (by first | exact hkq | exact hkq.symm)).trans ((Below.heap_setCell _ _ _ _ (by first | exact hkq | exact hkq.symm)).trans ((Below.heap_setCell _ _ _ _ (by first | exact hkq | exact hkq.symm)).trans hq3))) (fun hH => ?_)
              clear hK K p0 p1 p2 g0 g1 g2 z0 hq3
              try simp only [Act.put, List.setIfInBounds_toArray, List.set_cons_zero, List.set_cons_succ]
              refine wpAnyH_done (by kernel_rfl) ?_ _
              refine NoPanic.normal ?_
              go_wp2_with fail
              go_roundw
              case rel => exact HEND.out
              case measure => simp [RowKit.intOf]; omega
          ·
            have pl := (HT.out.1.below HVd.out).q.c.cell 1
            simp at pl
            go_simp
            refine hK.out _ _ (HT.out.2.1.c.on HVd.out) (fun hH => ?_)
            clear hK K pl
            try simp only [Act.put, List.setIfInBounds_toArray, List.set_cons_zero, List.set_cons_succ]
            refine wpAnyH_ready (rs := [1, 12]) (by kernel_rfl) (by simp) ?_
            refine (AllReadyH.cons (o := { dst := some 73, op := Op.load 4 (Operand.tmp 72), type := 4, pos := "ref.go:41", after := #[{ on := 0, ground := Ground.data }], guard := none }) rfl (fun K hK => ?_) (AllReadyH.cons (o := { dst := some 84, op := Op.load 23 (Operand.tmp 83), type := 23, pos := "ref.go:41", after := #[{ on := 11, ground := Ground.data }], guard := none }) rfl (fun K hK => ?_) AllReadyH.nil))
            ·
              have pl := (HT.out.1.below HVd.out).q.c.cell 0
              rw [HPE.out] at pl
              simp at pl
              go_simp
              refine hK.out _ _ (HT.out.2.1.c.on HVd.out) (fun hH => ?_)
              clear hK K pl
              try simp only [Act.put, List.setIfInBounds_toArray, List.set_cons_zero, List.set_cons_succ]
              refine wpAnyH_take (i := 2) (oi := { dst := some 74, op := Op.move (Operand.tmp 73), type := 4, pos := "ref.go:41", after := #[{ on := 1, ground := Ground.data }], guard := none }) (v := ?_) rfl (by kernel_rfl) (by kernel_rfl) (by kernel_rfl) (fun _ _ _ h => h) (Or.inl ⟨by rfl, ?_⟩) (by exact hH) ?_
              rotate_left
              · intro W hSw
                go_simp
                try with_reducible rfl
              try simp only [Act.put, List.setIfInBounds_toArray, List.set_cons_zero, List.set_cons_succ]
              refine wpAnyH_take (i := 3) (oi := { dst := some 75, op := Op.fieldAddr 101 (Operand.tmp 10) 0, type := 0, pos := "ref.go:41", after := #[{ on := 2, ground := Ground.guard }], guard := some (2, false) }) (v := ?_) rfl (by kernel_rfl) (by kernel_rfl) (by kernel_rfl) (fun _ _ _ h => h) (Or.inl ⟨by rfl, ?_⟩) (by exact hH) ?_
              rotate_left
              · intro W hSw
                go_simp
                try with_reducible rfl
              try simp only [Act.put, List.setIfInBounds_toArray, List.set_cons_zero, List.set_cons_succ]
              refine wpAnyH_take (i := 4) (oi := { dst := some 76, op := Op.load 4 (Operand.tmp 75), type := 4, pos := "ref.go:41", after := #[{ on := 3, ground := Ground.data }, { on := 2, ground := Ground.guard }], guard := some (2, false) }) (v := ?_) rfl (by kernel_rfl) (by kernel_rfl) (by kernel_rfl) (fun _ _ _ h => h) (Or.inl ⟨by rfl, ?_⟩) (by exact hH) ?_
              rotate_left
              · intro W hSw
                have p := hSw.cell 0
                simp at p
                go_simp
                try with_reducible rfl
              try simp only [Act.put, List.setIfInBounds_toArray, List.set_cons_zero, List.set_cons_succ]
              refine wpAnyH_take (i := 5) (oi := { dst := some 77, op := Op.pick (Operand.tmp 74) (Operand.const (Value.bool true)) (Operand.tmp 76), type := 4, pos := "ref.go:41", after := #[{ on := 2, ground := Ground.data }, { on := 4, ground := Ground.data }], guard := none }) (v := ?_) rfl (by kernel_rfl) (by kernel_rfl) (by kernel_rfl) (fun _ _ _ h => h) (Or.inl ⟨by rfl, ?_⟩) (by exact hH) ?_
              rotate_left
              · intro W hSw
                go_simp
                try with_reducible rfl
              try simp only [Act.put, List.setIfInBounds_toArray, List.set_cons_zero, List.set_cons_succ]
              refine wpAnyH_ready (rs := [10, 12]) (by kernel_rfl) (by simp) ?_
              refine (AllReadyH.cons (o := { dst := some 82, op := Op.call { callee := Callee.value (Operand.func 53), args := #[Operand.tmp 79, Operand.tmp 81], argTypes := #[23, 23] }, type := 23, pos := "ref.go:41", after := #[{ on := 7, ground := Ground.data }, { on := 9, ground := Ground.data }, { on := 2, ground := Ground.chain }], guard := none }) rfl (fun K hK => ?_) (AllReadyH.cons (o := { dst := some 84, op := Op.load 23 (Operand.tmp 83), type := 23, pos := "ref.go:41", after := #[{ on := 11, ground := Ground.data }], guard := none }) rfl (fun K hK => ?_) AllReadyH.nil))
              ·
                go_simp
                go_at_call 53
                refine (join_look (HT.out.1.below HVd.out).f (HT.out.2.2.1.mv (LkMv.of_below _ _ _ HVd.out)) (by have := HK.out.2.2; omega)).mono ?_
                rintro e V15 ⟨J1, J1c, rfl, ho, hbk⟩
                have hx15 : SlX V15 (Xs b x1 x2 x5 ((w.heap.size + 1 + 1) + 1)) ((F i).2.first ++ q.2.first) (.slice J1 ((F i).2.first.length + q.2.first.length) J1c) := (slx_ofI ho (fun y hy => by rcases List.mem_append.1 hy with e | e; exact slx_ints (HT.out.1.f) y e; exact slx_ints HT.out.2.2.1 y e) (fun g hg => (HT.out.1.below HVd.out).a.fresh hg)).lower (n' := (w.heap.size + 1 + 1) + 1) (by have := (HT.out.1.below HVd.out).q.c.lt; omega)
                have HV15 := Lib.hid (HVd.out.trans (hbk.mono HVd.out.size))
                have HX15 := Lib.hid hx15
                clear hx15 ho hbk
                try go_wp2_with fail
                refine hK.out _ _ (HT.out.2.1.c.on HV15.out) (fun hH => ?_)
                clear hK K
                try simp only [Act.put, List.setIfInBounds_toArray, List.set_cons_zero, List.set_cons_succ]
                refine wpAnyH_ready (rs := [12]) (by kernel_rfl) (by simp) ?_
                refine (AllReadyH.cons (o := { dst := some 84, op := Op.load 23 (Operand.tmp 83), type := 23, pos := "ref.go:41", after := #[{ on := 11, ground := Ground.data }], guard := none }) rfl (fun K hK => ?_) AllReadyH.nil)
                have pl := (HT.out.1.below HV15.out).q.c.cell 2
                simp at pl
                go_simp
                refine hK.out _ _ (HT.out.2.1.c.on HV15.out) (fun hH => ?_)
                clear hK K pl
                try simp only [Act.put, List.setIfInBounds_toArray, List.set_cons_zero, List.set_cons_succ]
                refine wpAnyH_ready (rs := [15]) (by kernel_rfl) (by simp) ?_
                refine (AllReadyH.cons (o := { dst := some 87, op := Op.call { callee := Callee.value (Operand.func 53), args := #[Operand.tmp 84, Operand.tmp 86], argTypes := #[23, 23] }, type := 23, pos := "ref.go:41", after := #[{ on := 12, ground := Ground.data }, { on := 14, ground := Ground.data }, { on := 10, ground := Ground.chain }], guard := none }) rfl (fun K hK => ?_) AllReadyH.nil)
                go_simp
                go_at_call 53
                refine (join_look (HT.out.1.below HV15.out).l (HT.out.2.2.2.1.mv (LkMv.of_below _ _ _ HV15.out)) (by have := HK.out.2.2; omega)).mono ?_
                rintro e V17 ⟨J2, J2c, rfl, ho, hbk⟩
                have hx17 : SlX V17 (Xs b x1 x2 x5 ((w.heap.size + 1 + 1) + 1)) ((F i).2.last ++ q.2.last) (.slice J2 ((F i).2.last.length + q.2.last.length) J2c) := (slx_ofI ho (fun y hy => by rcases List.mem_append.1 hy with e | e; exact slx_ints (HT.out.1.l) y e; exact slx_ints HT.out.2.2.2.1 y e) (fun g hg => (HT.out.1.below HV15.out).a.fresh hg)).lower (n' := (w.heap.size + 1 + 1) + 1) (by have := (HT.out.1.below HV15.out).q.c.lt; omega)
                have HV17 := Lib.hid (HV15.out.trans (hbk.mono HV15.out.size))
                have hy17 := HX15.out.mv (LkMv.of_below x1 x2 x5 hbk)
                have HY17 := Lib.hid hy17
                clear hy17
                have HX17 := Lib.hid hx17
                clear hx17 ho hbk
                try go_wp2_with fail
                refine hK.out _ _ (HT.out.2.1.c.on HV17.out) (fun hH => ?_)
                clear hK K
                try simp only [Act.put, List.setIfInBounds_toArray, List.set_cons_zero, List.set_cons_succ]
                refine wpAnyH_take (i := 16) (oi := { dst := some 88, op := Op.build 101 #[(0, Operand.tmp 77), (1, Operand.tmp 82), (2, Operand.tmp 87)], type := 101, pos := "ref.go:41", after := #[{ on := 5, ground := Ground.data }, { on := 10, ground := Ground.data }, { on := 15, ground := Ground.data }], guard := none }) (v := ?_) rfl (by kernel_rfl) (by kernel_rfl) (by kernel_rfl) (fun _ _ _ h => h) (Or.inl ⟨by rfl, ?_⟩) (by exact hH) ?_
                rotate_left
                · intro W hSw
                  go_simp
                  try with_reducible rfl
                try simp only [Act.put, List.setIfInBounds_toArray, List.set_cons_zero, List.set_cons_succ]
                refine wpAnyH_ready (rs := [17]) (by kernel_rfl) (by simp) ?_
                refine AllReadyH.cons (o := { dst := none, op := Op.store 101 (Operand.tmp 8) (Operand.tmp 88), type := 0, pos := "ref.go:41", after := #[{ on := 16, ground := Ground.data }, { on := 15, ground := Ground.chain }, { on := 0, ground := Ground.phase }, { on := 1, ground := Ground.phase }, { on := 2, ground := Ground.phase }, { on := 3, ground := Ground.phase }, { on := 4, ground := Ground.phase }, { on := 5, ground := Ground.phase }, { on := 6, ground := Ground.phase }, { on := 7, ground := Ground.phase }, { on := 8, ground := Ground.phase }, { on := 9, ground := Ground.phase }, { on := 10, ground := Ground.phase }, { on := 11, ground := Ground.phase }, { on := 12, ground := Ground.phase }, { on := 13, ground := Ground.phase }, { on := 14, ground := Ground.phase }, { on := 15, ground := Ground.phase }, { on := 16, ground := Ground.phase }], guard := none }) rfl (fun K hK => ?_) AllReadyH.nil
                have hL := HT.out.1.below HV17.out
                have p0 := hL.q.c.cell 0
                have p1 := hL.q.c.cell 1
                have p2 := hL.q.c.cell 2
                simp at p0 p1 p2
                have g0 := hL.q.c.froz 0
                have g1 := hL.q.c.froz 1
                have g2 := hL.q.c.froz 2
                have z0 := hL.q.c.lt
                have hP := hL.put (p' := ⟨(F i).2.empty || q.2.empty, (F i).2.first ++ q.2.first, (F i).2.last ++ q.2.last⟩) (e := q.2.empty) (by omega) (by rw [HPE.out]; rfl) HY17.out HX17.out
                have hend := HJ.out _ _ _ hP
                have HEND := Lib.hid hend
                have hq3 := (((((HT.out.2.1.c.on HV17.out)))))
                have hkq : (w.heap.size + 1 + 1) ≠ qp := by omega
                clear hL hP hend
                go_simp
                refine hK.out _ _ (show Cells _ qp 101 #[.bool q.2.empty, .slice Af q.2.first.length cf, .slice Al q.2.last.length cl] from (Below.heap_setCell _ _ _ _ (by first | exact hkq | exact hkq.symm)).trans ((Below.heap_setCell _ _ _ _ (by first | exact hkq | exact hkq.symm)).trans ((Below.heap_setCell _ _ _ _ (by first | exact hkq | exact hkq.symm)).trans hq3))) (fun hH => ?_)
                clear hK K p0 p1 p2 g0 g1 g2 z0 hq3
                try simp only [Act.put, List.setIfInBounds_toArray, List.set_cons_zero, List.set_cons_succ]
                refine wpAnyH_done (by kernel_rfl) ?_ _
                refine NoPanic.normal ?_
                go_wp2_with fail
                go_roundw
                case rel => exact HEND.out
                case measure => simp [RowKit.intOf]; omega
              ·
                have pl := (HT.out.1.below HVd.out).q.c.cell 2
                simp at pl
                go_simp
                refine hK.out _ _ (HT.out.2.1.c.on HVd.out) (fun hH => ?_)
                clear hK K pl
                try simp only [Act.put, List.setIfInBounds_toArray, List.set_cons_zero, List.set_cons_succ]
                refine wpAnyH_ready (rs := [10]) (by kernel_rfl) (by simp) ?_
                refine (AllReadyH.cons (o := { dst := some 82, op := Op.call { callee := Callee.value (Operand.func 53), args := #[Operand.tmp 79, Operand.tmp 81], argTypes := #[23, 23] }, type := 23, pos := "ref.go:41", after := #[{ on := 7, ground := Ground.data }, { on := 9, ground := Ground.data }, { on := 2, ground := Ground.chain }], guard := none }) rfl (fun K hK => ?_) AllReadyH.nil)
                go_simp
                go_at_call 53
                refine (join_look (HT.out.1.below HVd.out).f (HT.out.2.2.1.mv (LkMv.of_below _ _ _ HVd.out)) (by have := HK.out.2.2; omega)).mono ?_
                rintro e V19 ⟨J1, J1c, rfl, ho, hbk⟩
                have hx19 : SlX V19 (Xs b x1 x2 x5 ((w.heap.size + 1 + 1) + 1)) ((F i).2.first ++ q.2.first) (.slice J1 ((F i).2.first.length + q.2.first.length) J1c) := (slx_ofI ho (fun y hy => by rcases List.mem_append.1 hy with e | e; exact slx_ints (HT.out.1.f) y e; exact slx_ints HT.out.2.2.1 y e) (fun g hg => (HT.out.1.below HVd.out).a.fresh hg)).lower (n' := (w.heap.size + 1 + 1) + 1) (by have := (HT.out.1.below HVd.out).q.c.lt; omega)
                have HV19 := Lib.hid (HVd.out.trans (hbk.mono HVd.out.size))
                have HX19 := Lib.hid hx19
                clear hx19 ho hbk
                try go_wp2_with fail
                refine hK.out _ _ (HT.out.2.1.c.on HV19.out) (fun hH => ?_)
                clear hK K
                try simp only [Act.put, List.setIfInBounds_toArray, List.set_cons_zero, List.set_cons_succ]
                refine wpAnyH_ready (rs := [15]) (by kernel_rfl) (by simp) ?_
                refine (AllReadyH.cons (o := { dst := some 87, op := Op.call { callee := Callee.value (Operand.func 53), args := #[Operand.tmp 84, Operand.tmp 86], argTypes := #[23, 23] }, type := 23, pos := "ref.go:41", after := #[{ on := 12, ground := Ground.data }, { on := 14, ground := Ground.data }, { on := 10, ground := Ground.chain }], guard := none }) rfl (fun K hK => ?_) AllReadyH.nil)
                go_simp
                go_at_call 53
                refine (join_look (HT.out.1.below HV19.out).l (HT.out.2.2.2.1.mv (LkMv.of_below _ _ _ HV19.out)) (by have := HK.out.2.2; omega)).mono ?_
                rintro e V20 ⟨J2, J2c, rfl, ho, hbk⟩
                have hx20 : SlX V20 (Xs b x1 x2 x5 ((w.heap.size + 1 + 1) + 1)) ((F i).2.last ++ q.2.last) (.slice J2 ((F i).2.last.length + q.2.last.length) J2c) := (slx_ofI ho (fun y hy => by rcases List.mem_append.1 hy with e | e; exact slx_ints (HT.out.1.l) y e; exact slx_ints HT.out.2.2.2.1 y e) (fun g hg => (HT.out.1.below HV19.out).a.fresh hg)).lower (n' := (w.heap.size + 1 + 1) + 1) (by have := (HT.out.1.below HV19.out).q.c.lt; omega)
                have HV20 := Lib.hid (HV19.out.trans (hbk.mono HV19.out.size))
                have hy20 := HX19.out.mv (LkMv.of_below x1 x2 x5 hbk)
                have HY20 := Lib.hid hy20
                clear hy20
                have HX20 := Lib.hid hx20
                clear hx20 ho hbk
                try go_wp2_with fail
                refine hK.out _ _ (HT.out.2.1.c.on HV20.out) (fun hH => ?_)
                clear hK K
                try simp only [Act.put, List.setIfInBounds_toArray, List.set_cons_zero, List.set_cons_succ]
                refine wpAnyH_take (i := 16) (oi := { dst := some 88, op := Op.build 101 #[(0, Operand.tmp 77), (1, Operand.tmp 82), (2, Operand.tmp 87)], type := 101, pos := "ref.go:41", after := #[{ on := 5, ground := Ground.data }, { on := 10, ground := Ground.data }, { on := 15, ground := Ground.data }], guard := none }) (v := ?_) rfl (by kernel_rfl) (by kernel_rfl) (by kernel_rfl) (fun _ _ _ h => h) (Or.inl ⟨by rfl, ?_⟩) (by exact hH) ?_
                rotate_left
                · intro W hSw
                  go_simp
                  try with_reducible rfl
                try simp only [Act.put, List.setIfInBounds_toArray, List.set_cons_zero, List.set_cons_succ]
                refine wpAnyH_ready (rs := [17]) (by kernel_rfl) (by simp) ?_
                refine AllReadyH.cons (o := { dst := none, op := Op.store 101 (Operand.tmp 8) (Operand.tmp 88), type := 0, pos := "ref.go:41", after := #[{ on := 16, ground := Ground.data }, { on := 15, ground := Ground.chain }, { on := 0, ground := Ground.phase }, { on := 1, ground := Ground.phase }, { on := 2, ground := Ground.phase }, { on := 3, ground := Ground.phase }, { on := 4, ground := Ground.phase }, { on := 5, ground := Ground.phase }, { on := 6, ground := Ground.phase }, { on := 7, ground := Ground.phase }, { on := 8, ground := Ground.phase }, { on := 9, ground := Ground.phase }, { on := 10, ground := Ground.phase }, { on := 11, ground := Ground.phase }, { on := 12, ground := Ground.phase }, { on := 13, ground := Ground.phase }, { on := 14, ground := Ground.phase }, { on := 15, ground := Ground.phase }, { on := 16, ground := Ground.phase }], guard := none }) rfl (fun K hK => ?_) AllReadyH.nil
                have hL := HT.out.1.below HV20.out
                have p0 := hL.q.c.cell 0
                have p1 := hL.q.c.cell 1
                have p2 := hL.q.c.cell 2
                simp at p0 p1 p2
                have g0 := hL.q.c.froz 0
                have g1 := hL.q.c.froz 1
                have g2 := hL.q.c.froz 2
                have z0 := hL.q.c.lt
                have hP := hL.put (p' := ⟨(F i).2.empty || q.2.empty, (F i).2.first ++ q.2.first, (F i).2.last ++ q.2.last⟩) (e := q.2.empty) (by omega) (by rw [HPE.out]; rfl) HY20.out HX20.out
                have hend := HJ.out _ _ _ hP
                have HEND := Lib.hid hend
                have hq3 := (((((HT.out.2.1.c.on HV20.out)))))
                have hkq : (w.heap.size + 1 + 1) ≠ qp := by omega
                clear hL hP hend
                go_simp
                refine hK.out _ _ (show Cells _ qp 101 #[.bool q.2.empty, .slice Af q.2.first.length cf, .slice Al q.2.last.length cl] from (Below.heap_setCell _ _ _ _ (by first | exact hkq | exact hkq.symm)).trans ((Below.heap_setCell _ _ _ _ (by first | exact hkq | exact hkq.symm)).trans ((Below.heap_setCell _ _ _ _ (by first | exact hkq | exact hkq.symm)).trans hq3))) (fun hH => ?_)
                clear hK K p0 p1 p2 g0 g1 g2 z0 hq3
                try simp only [Act.put, List.setIfInBounds_toArray, List.set_cons_zero, List.set_cons_succ]
                refine wpAnyH_done (by kernel_rfl) ?_ _
                refine NoPanic.normal ?_
                go_wp2_with fail
                go_roundw
                case rel => exact HEND.out
                case measure => simp [RowKit.intOf]; omega
            ·
              have pl := (HT.out.1.below HVd.out).q.c.cell 2
              simp at pl
              go_simp
              refine hK.out _ _ (HT.out.2.1.c.on HVd.out) (fun hH => ?_)
              clear hK K pl
              try simp only [Act.put, List.setIfInBounds_toArray, List.set_cons_zero, List.set_cons_succ]
              refine wpAnyH_ready (rs := [1]) (by kernel_rfl) (by simp) ?_
              refine (AllReadyH.cons (o := { dst := some 73, op := Op.load 4 (Operand.tmp 72), type := 4, pos := "ref.go:41", after := #[{ on := 0, ground := Ground.data }], guard := none }) rfl (fun K hK => ?_) AllReadyH.nil)
              have pl := (HT.out.1.below HVd.out).q.c.cell 0
              rw [HPE.out] at pl
              simp at pl
              go_simp
              refine hK.out _ _ (HT.out.2.1.c.on HVd.out) (fun hH => ?_)
              clear hK K pl
              try simp only [Act.put, List.setIfInBounds_toArray, List.set_cons_zero, List.set_cons_succ]
              refine wpAnyH_take (i := 2) (oi := { dst := some 74, op := Op.move (Operand.tmp 73), type := 4, pos := "ref.go:41", after := #[{ on := 1, ground := Ground.data }], guard := none }) (v := ?_) rfl (by kernel_rfl) (by kernel_rfl) (by kernel_rfl) (fun _ _ _ h => h) (Or.inl ⟨by rfl, ?_⟩) (by exact hH) ?_
              rotate_left
              · intro W hSw
                go_simp
                try with_reducible rfl
              try simp only [Act.put, List.setIfInBounds_toArray, List.set_cons_zero, List.set_cons_succ]
              refine wpAnyH_take (i := 3) (oi := { dst := some 75, op := Op.fieldAddr 101 (Operand.tmp 10) 0, type := 0, pos := "ref.go:41", after := #[{ on := 2, ground := Ground.guard }], guard := some (2, false) }) (v := ?_) rfl (by kernel_rfl) (by kernel_rfl) (by kernel_rfl) (fun _ _ _ h => h) (Or.inl ⟨by rfl, ?_⟩) (by exact hH) ?_
              rotate_left
              · intro W hSw
                go_simp
                try with_reducible rfl
              try simp only [Act.put, List.setIfInBounds_toArray, List.set_cons_zero, List.set_cons_succ]
              refine wpAnyH_take (i := 4) (oi := { dst := some 76, op := Op.load 4 (Operand.tmp 75), type := 4, pos := "ref.go:41", after := #[{ on := 3, ground := Ground.data }, { on := 2, ground := Ground.guard }], guard := some (2, false) }) (v := ?_) rfl (by kernel_rfl) (by kernel_rfl) (by kernel_rfl) (fun _ _ _ h => h) (Or.inl ⟨by rfl, ?_⟩) (by exact hH) ?_
              rotate_left
              · intro W hSw
                have p := hSw.cell 0
                simp at p
                go_simp
                try with_reducible rfl
              try simp only [Act.put, List.setIfInBounds_toArray, List.set_cons_zero, List.set_cons_succ]
              refine wpAnyH_take (i := 5) (oi := { dst := some 77, op := Op.pick (Operand.tmp 74) (Operand.const (Value.bool true)) (Operand.tmp 76), type := 4, pos := "ref.go:41", after := #[{ on := 2, ground := Ground.data }, { on := 4, ground := Ground.data }], guard := none }) (v := ?_) rfl (by kernel_rfl) (by kernel_rfl) (by kernel_rfl) (fun _ _ _ h => h) (Or.inl ⟨by rfl, ?_⟩) (by exact hH) ?_
              rotate_left
              · intro W hSw
                go_simp
                try with_reducible rfl
              try simp only [Act.put, List.setIfInBounds_toArray, List.set_cons_zero, List.set_cons_succ]
              refine wpAnyH_ready (rs := [10]) (by kernel_rfl) (by simp) ?_
              refine (AllReadyH.cons (o := { dst := some 82, op := Op.call { callee := Callee.value (Operand.func 53), args := #[Operand.tmp 79, Operand.tmp 81], argTypes := #[23, 23] }, type := 23, pos := "ref.go:41", after := #[{ on := 7, ground := Ground.data }, { on := 9, ground := Ground.data }, { on := 2, ground := Ground.chain }], guard := none }) rfl (fun K hK => ?_) AllReadyH.nil)
              go_simp
              go_at_call 53
              refine (join_look (HT.out.1.below HVd.out).f (HT.out.2.2.1.mv (LkMv.of_below _ _ _ HVd.out)) (by have := HK.out.2.2; omega)).mono ?_
              rintro e V23 ⟨J1, J1c, rfl, ho, hbk⟩
              have hx23 : SlX V23 (Xs b x1 x2 x5 ((w.heap.size + 1 + 1) + 1)) ((F i).2.first ++ q.2.first) (.slice J1 ((F i).2.first.length + q.2.first.length) J1c) := (slx_ofI ho (fun y hy => by rcases List.mem_append.1 hy with e | e; exact slx_ints (HT.out.1.f) y e; exact slx_ints HT.out.2.2.1 y e) (fun g hg => (HT.out.1.below HVd.out).a.fresh hg)).lower (n' := (w.heap.size + 1 + 1) + 1) (by have := (HT.out.1.below HVd.out).q.c.lt; omega)
              have HV23 := Lib.hid (HVd.out.trans (hbk.mono HVd.out.size))
              have HX23 := Lib.hid hx23
              clear hx23 ho hbk
              try go_wp2_with fail
              refine hK.out _ _ (HT.out.2.1.c.on HV23.out) (fun hH => ?_)
              clear hK K
              try simp only [Act.put, List.setIfInBounds_toArray, List.set_cons_zero, List.set_cons_succ]
              refine wpAnyH_ready (rs := [15]) (by kernel_rfl) (by simp) ?_
              refine (AllReadyH.cons (o := { dst := some 87, op := Op.call { callee := Callee.value (Operand.func 53), args := #[Operand.tmp 84, Operand.tmp 86], argTypes := #[23, 23] }, type := 23, pos := "ref.go:41", after := #[{ on := 12, ground := Ground.data }, { on := 14, ground := Ground.data }, { on := 10, ground := Ground.chain }], guard := none }) rfl (fun K hK => ?_) AllReadyH.nil)
              go_simp
              go_at_call 53
              refine (join_look (HT.out.1.below HV23.out).l (HT.out.2.2.2.1.mv (LkMv.of_below _ _ _ HV23.out)) (by have := HK.out.2.2; omega)).mono ?_
              rintro e V24 ⟨J2, J2c, rfl, ho, hbk⟩
              have hx24 : SlX V24 (Xs b x1 x2 x5 ((w.heap.size + 1 + 1) + 1)) ((F i).2.last ++ q.2.last) (.slice J2 ((F i).2.last.length + q.2.last.length) J2c) := (slx_ofI ho (fun y hy => by rcases List.mem_append.1 hy with e | e; exact slx_ints (HT.out.1.l) y e; exact slx_ints HT.out.2.2.2.1 y e) (fun g hg => (HT.out.1.below HV23.out).a.fresh hg)).lower (n' := (w.heap.size + 1 + 1) + 1) (by have := (HT.out.1.below HV23.out).q.c.lt; omega)
              have HV24 := Lib.hid (HV23.out.trans (hbk.mono HV23.out.size))
              have hy24 := HX23.out.mv (LkMv.of_below x1 x2 x5 hbk)
              have HY24 := Lib.hid hy24
              clear hy24
              have HX24 := Lib.hid hx24
              clear hx24 ho hbk
              try go_wp2_with fail
              refine hK.out _ _ (HT.out.2.1.c.on HV24.out) (fun hH => ?_)
              clear hK K
              try simp only [Act.put, List.setIfInBounds_toArray, List.set_cons_zero, List.set_cons_succ]
              refine wpAnyH_take (i := 16) (oi := { dst := some 88, op := Op.build 101 #[(0, Operand.tmp 77), (1, Operand.tmp 82), (2, Operand.tmp 87)], type := 101, pos := "ref.go:41", after := #[{ on := 5, ground := Ground.data }, { on := 10, ground := Ground.data }, { on := 15, ground := Ground.data }], guard := none }) (v := ?_) rfl (by kernel_rfl) (by kernel_rfl) (by kernel_rfl) (fun _ _ _ h => h) (Or.inl ⟨by rfl, ?_⟩) (by exact hH) ?_
              rotate_left
              · intro W hSw
                go_simp
                try with_reducible rfl
              try simp only [Act.put, List.setIfInBounds_toArray, List.set_cons_zero, List.set_cons_succ]
              refine wpAnyH_ready (rs := [17]) (by kernel_rfl) (by simp) ?_
              refine AllReadyH.cons (o := { dst := none, op := Op.store 101 (Operand.tmp 8) (Operand.tmp 88), type := 0, pos := "ref.go:41", after := #[{ on := 16, ground := Ground.data }, { on := 15, ground := Ground.chain }, { on := 0, ground := Ground.phase }, { on := 1, ground := Ground.phase }, { on := 2, ground := Ground.phase }, { on := 3, ground := Ground.phase }, { on := 4, ground := Ground.phase }, { on := 5, ground := Ground.phase }, { on := 6, ground := Ground.phase }, { on := 7, ground := Ground.phase }, { on := 8, ground := Ground.phase }, { on := 9, ground := Ground.phase }, { on := 10, ground := Ground.phase }, { on := 11, ground := Ground.phase }, { on := 12, ground := Ground.phase }, { on := 13, ground := Ground.phase }, { on := 14, ground := Ground.phase }, { on := 15, ground := Ground.phase }, { on := 16, ground := Ground.phase }], guard := none }) rfl (fun K hK => ?_) AllReadyH.nil
              have hL := HT.out.1.below HV24.out
              have p0 := hL.q.c.cell 0
              have p1 := hL.q.c.cell 1
              have p2 := hL.q.c.cell 2
              simp at p0 p1 p2
              have g0 := hL.q.c.froz 0
              have g1 := hL.q.c.froz 1
              have g2 := hL.q.c.froz 2
              have z0 := hL.q.c.lt
              have hP := hL.put (p' := ⟨(F i).2.empty || q.2.empty, (F i).2.first ++ q.2.first, (F i).2.last ++ q.2.last⟩) (e := q.2.empty) (by omega) (by rw [HPE.out]; rfl) HY24.out HX24.out
              have hend := HJ.out _ _ _ hP
              have HEND := Lib.hid hend
              have hq3 := (((((HT.out.2.1.c.on HV24.out)))))
              have hkq : (w.heap.size + 1 + 1) ≠ qp := by omega
              clear hL hP hend
              go_simp
              refine hK.out _ _ (show Cells _ qp 101 #[.bool q.2.empty, .slice Af q.2.first.length cf, .slice Al q.2.last.length cl] from (Below.heap_setCell _ _ _ _ (by first | exact hkq | exact hkq.symm)).trans ((Below.heap_setCell _ _ _ _ (by first | exact hkq | exact hkq.symm)).trans ((Below.heap_setCell _ _ _ _ (by first | exact hkq | exact hkq.symm)).trans hq3))) (fun hH => ?_)
              clear hK K p0 p1 p2 g0 g1 g2 z0 hq3
              try simp only [Act.put, List.setIfInBounds_toArray, List.set_cons_zero, List.set_cons_succ]
              refine wpAnyH_done (by kernel_rfl) ?_ _
              refine NoPanic.normal ?_
              go_wp2_with fail
              go_roundw
              case rel => exact HEND.out
              case measure => simp [RowKit.intOf]; omega
          ·
            have pl := (HT.out.1.below HVd.out).q.c.cell 2
            simp at pl
            go_simp
            refine hK.out _ _ (HT.out.2.1.c.on HVd.out) (fun hH => ?_)
            clear hK K pl
            try simp only [Act.put, List.setIfInBounds_toArray, List.set_cons_zero, List.set_cons_succ]
            refine wpAnyH_ready (rs := [1, 7]) (by kernel_rfl) (by simp) ?_
            refine (AllReadyH.cons (o := { dst := some 73, op := Op.load 4 (Operand.tmp 72), type := 4, pos := "ref.go:41", after := #[{ on := 0, ground := Ground.data }], guard := none }) rfl (fun K hK => ?_) (AllReadyH.cons (o := { dst := some 79, op := Op.load 23 (Operand.tmp 78), type := 23, pos := "ref.go:41", after := #[{ on := 6, ground := Ground.data }], guard := none }) rfl (fun K hK => ?_) AllReadyH.nil))
            ·
              have pl := (HT.out.1.below HVd.out).q.c.cell 0
              rw [HPE.out] at pl
              simp at pl
              go_simp
              refine hK.out _ _ (HT.out.2.1.c.on HVd.out) (fun hH => ?_)
              clear hK K pl
              try simp only [Act.put, List.setIfInBounds_toArray, List.set_cons_zero, List.set_cons_succ]
              refine wpAnyH_take (i := 2) (oi := { dst := some 74, op := Op.move (Operand.tmp 73), type := 4, pos := "ref.go:41", after := #[{ on := 1, ground := Ground.data }], guard := none }) (v := ?_) rfl (by kernel_rfl) (by kernel_rfl) (by kernel_rfl) (fun _ _ _ h => h) (Or.inl ⟨by rfl, ?_⟩) (by exact hH) ?_
              rotate_left
              · intro W hSw
                go_simp
                try with_reducible rfl
              try simp only [Act.put, List.setIfInBounds_toArray, List.set_cons_zero, List.set_cons_succ]
              refine wpAnyH_take (i := 3) (oi := { dst := some 75, op := Op.fieldAddr 101 (Operand.tmp 10) 0, type := 0, pos := "ref.go:41", after := #[{ on := 2, ground := Ground.guard }], guard := some (2, false) }) (v := ?_) rfl (by kernel_rfl) (by kernel_rfl) (by kernel_rfl) (fun _ _ _ h => h) (Or.inl ⟨by rfl, ?_⟩) (by exact hH) ?_
              rotate_left
              · intro W hSw
                go_simp
                try with_reducible rfl
              try simp only [Act.put, List.setIfInBounds_toArray, List.set_cons_zero, List.set_cons_succ]
              refine wpAnyH_take (i := 4) (oi := { dst := some 76, op := Op.load 4 (Operand.tmp 75), type := 4, pos := "ref.go:41", after := #[{ on := 3, ground := Ground.data }, { on := 2, ground := Ground.guard }], guard := some (2, false) }) (v := ?_) rfl (by kernel_rfl) (by kernel_rfl) (by kernel_rfl) (fun _ _ _ h => h) (Or.inl ⟨by rfl, ?_⟩) (by exact hH) ?_
              rotate_left
              · intro W hSw
                have p := hSw.cell 0
                simp at p
                go_simp
                try with_reducible rfl
              try simp only [Act.put, List.setIfInBounds_toArray, List.set_cons_zero, List.set_cons_succ]
              refine wpAnyH_take (i := 5) (oi := { dst := some 77, op := Op.pick (Operand.tmp 74) (Operand.const (Value.bool true)) (Operand.tmp 76), type := 4, pos := "ref.go:41", after := #[{ on := 2, ground := Ground.data }, { on := 4, ground := Ground.data }], guard := none }) (v := ?_) rfl (by kernel_rfl) (by kernel_rfl) (by kernel_rfl) (fun _ _ _ h => h) (Or.inl ⟨by rfl, ?_⟩) (by exact hH) ?_
              rotate_left
              · intro W hSw
                go_simp
                try with_reducible rfl
              try simp only [Act.put, List.setIfInBounds_toArray, List.set_cons_zero, List.set_cons_succ]
              refine wpAnyH_ready (rs := [7]) (by kernel_rfl) (by simp) ?_
              refine (AllReadyH.cons (o := { dst := some 79, op := Op.load 23 (Operand.tmp 78), type := 23, pos := "ref.go:41", after := #[{ on := 6, ground := Ground.data }], guard := none }) rfl (fun K hK => ?_) AllReadyH.nil)
              have pl := (HT.out.1.below HVd.out).q.c.cell 1
              simp at pl
              go_simp
              refine hK.out _ _ (HT.out.2.1.c.on HVd.out) (fun hH => ?_)
              clear hK K pl
              try simp only [Act.put, List.setIfInBounds_toArray, List.set_cons_zero, List.set_cons_succ]
              refine wpAnyH_ready (rs := [10]) (by kernel_rfl) (by simp) ?_
              refine (AllReadyH.cons (o := { dst := some 82, op := Op.call { callee := Callee.value (Operand.func 53), args := #[Operand.tmp 79, Operand.tmp 81], argTypes := #[23, 23] }, type := 23, pos := "ref.go:41", after := #[{ on := 7, ground := Ground.data }, { on := 9, ground := Ground.data }, { on := 2, ground := Ground.chain }], guard := none }) rfl (fun K hK => ?_) AllReadyH.nil)
              go_simp
              go_at_call 53
              refine (join_look (HT.out.1.below HVd.out).f (HT.out.2.2.1.mv (LkMv.of_below _ _ _ HVd.out)) (by have := HK.out.2.2; omega)).mono ?_
              rintro e V28 ⟨J1, J1c, rfl, ho, hbk⟩
              have hx28 : SlX V28 (Xs b x1 x2 x5 ((w.heap.size + 1 + 1) + 1)) ((F i).2.first ++ q.2.first) (.slice J1 ((F i).2.first.length + q.2.first.length) J1c) := (slx_ofI ho (fun y hy => by rcases List.mem_append.1 hy with e | e; exact slx_ints (HT.out.1.f) y e; exact slx_ints HT.out.2.2.1 y e) (fun g hg => (HT.out.1.below HVd.out).a.fresh hg)).lower (n' := (w.heap.size + 1 + 1) + 1) (by have := (HT.out.1.below HVd.out).q.c.lt; omega)
              have HV28 := Lib.hid (HVd.out.trans (hbk.mono HVd.out.size))
              have HX28 := Lib.hid hx28
              clear hx28 ho hbk
              try go_wp2_with fail
              refine hK.out _ _ (HT.out.2.1.c.on HV28.out) (fun hH => ?_)
              clear hK K
              try simp only [Act.put, List.setIfInBounds_toArray, List.set_cons_zero, List.set_cons_succ]
              refine wpAnyH_ready (rs := [15]) (by kernel_rfl) (by simp) ?_
              refine (AllReadyH.cons (o := { dst := some 87, op := Op.call { callee := Callee.value (Operand.func 53), args := #[Operand.tmp 84, Operand.tmp 86], argTypes := #[23, 23] }, type := 23, pos := "ref.go:41", after := #[{ on := 12, ground := Ground.data }, { on := 14, ground := Ground.data }, { on := 10, ground := Ground.chain }], guard := none }) rfl (fun K hK => ?_) AllReadyH.nil)
              go_simp
              go_at_call 53
              refine (join_look (HT.out.1.below HV28.out).l (HT.out.2.2.2.1.mv (LkMv.of_below _ _ _ HV28.out)) (by have := HK.out.2.2; omega)).mono ?_
              rintro e V29 ⟨J2, J2c, rfl, ho, hbk⟩
              have hx29 : SlX V29 (Xs b x1 x2 x5 ((w.heap.size + 1 + 1) + 1)) ((F i).2.last ++ q.2.last) (.slice J2 ((F i).2.last.length + q.2.last.length) J2c) := (slx_ofI ho (fun y hy => by rcases List.mem_append.1 hy with e | e; exact slx_ints (HT.out.1.l) y e; exact slx_ints HT.out.2.2.2.1 y e) (fun g hg => (HT.out.1.below HV28.out).a.fresh hg)).lower (n' := (w.heap.size + 1 + 1) + 1) (by have := (HT.out.1.below HV28.out).q.c.lt; omega)
              have HV29 := Lib.hid (HV28.out.trans (hbk.mono HV28.out.size))
              have hy29 := HX28.out.mv (LkMv.of_below x1 x2 x5 hbk)
              have HY29 := Lib.hid hy29
              clear hy29
              have HX29 := Lib.hid hx29
              clear hx29 ho hbk
              try go_wp2_with fail
              refine hK.out _ _ (HT.out.2.1.c.on HV29.out) (fun hH => ?_)
              clear hK K
              try simp only [Act.put, List.setIfInBounds_toArray, List.set_cons_zero, List.set_cons_succ]
              refine wpAnyH_take (i := 16) (oi := { dst := some 88, op := Op.build 101 #[(0, Operand.tmp 77), (1, Operand.tmp 82), (2, Operand.tmp 87)], type := 101, pos := "ref.go:41", after := #[{ on := 5, ground := Ground.data }, { on := 10, ground := Ground.data }, { on := 15, ground := Ground.data }], guard := none }) (v := ?_) rfl (by kernel_rfl) (by kernel_rfl) (by kernel_rfl) (fun _ _ _ h => h) (Or.inl ⟨by rfl, ?_⟩) (by exact hH) ?_
              rotate_left
              · intro W hSw
                go_simp
                try with_reducible rfl
              try simp only [Act.put, List.setIfInBounds_toArray, List.set_cons_zero, List.set_cons_succ]
              refine wpAnyH_ready (rs := [17]) (by kernel_rfl) (by simp) ?_
              refine AllReadyH.cons (o := { dst := none, op := Op.store 101 (Operand.tmp 8) (Operand.tmp 88), type := 0, pos := "ref.go:41", after := #[{ on := 16, ground := Ground.data }, { on := 15, ground := Ground.chain }, { on := 0, ground := Ground.phase }, { on := 1, ground := Ground.phase }, { on := 2, ground := Ground.phase }, { on := 3, ground := Ground.phase }, { on := 4, ground := Ground.phase }, { on := 5, ground := Ground.phase }, { on := 6, ground := Ground.phase }, { on := 7, ground := Ground.phase }, { on := 8, ground := Ground.phase }, { on := 9, ground := Ground.phase }, { on := 10, ground := Ground.phase }, { on := 11, ground := Ground.phase }, { on := 12, ground := Ground.phase }, { on := 13, ground := Ground.phase }, { on := 14, ground := Ground.phase }, { on := 15, ground := Ground.phase }, { on := 16, ground := Ground.phase }], guard := none }) rfl (fun K hK => ?_) AllReadyH.nil
              have hL := HT.out.1.below HV29.out
              have p0 := hL.q.c.cell 0
              have p1 := hL.q.c.cell 1
              have p2 := hL.q.c.cell 2
              simp at p0 p1 p2
              have g0 := hL.q.c.froz 0
              have g1 := hL.q.c.froz 1
              have g2 := hL.q.c.froz 2
              have z0 := hL.q.c.lt
              have hP := hL.put (p' := ⟨(F i).2.empty || q.2.empty, (F i).2.first ++ q.2.first, (F i).2.last ++ q.2.last⟩) (e := q.2.empty) (by omega) (by rw [HPE.out]; rfl) HY29.out HX29.out
              have hend := HJ.out _ _ _ hP
              have HEND := Lib.hid hend
              have hq3 := (((((HT.out.2.1.c.on HV29.out)))))
              have hkq : (w.heap.size + 1 + 1) ≠ qp := by omega
              clear hL hP hend
              go_simp
              refine hK.out _ _ (show Cells _ qp 101 #[.bool q.2.empty, .slice Af q.2.first.length cf, .slice Al q.2.last.length cl] from (Below.heap_setCell _ _ _ _ (by first | exact hkq | exact hkq.symm)).trans ((Below.heap_setCell _ _ _ _ (by first | exact hkq | exact hkq.symm)).trans ((Below.heap_setCell _ _ _ _ (by first | exact hkq | exact hkq.symm)).trans hq3))) (fun hH => ?_)
              clear hK K p0 p1 p2 g0 g1 g2 z0 hq3
              try simp only [Act.put, List.setIfInBounds_toArray, List.set_cons_zero, List.set_cons_succ]
              refine wpAnyH_done (by kernel_rfl) ?_ _
              refine NoPanic.normal ?_
              go_wp2_with fail
              go_roundw
              case rel => exact HEND.out
              case measure => simp [RowKit.intOf]; omega
            ·
              have pl := (HT.out.1.below HVd.out).q.c.cell 1
              simp at pl
              go_simp
              refine hK.out _ _ (HT.out.2.1.c.on HVd.out) (fun hH => ?_)
              clear hK K pl
              try simp only [Act.put, List.setIfInBounds_toArray, List.set_cons_zero, List.set_cons_succ]
              refine wpAnyH_ready (rs := [1]) (by kernel_rfl) (by simp) ?_
              refine (AllReadyH.cons (o := { dst := some 73, op := Op.load 4 (Operand.tmp 72), type := 4, pos := "ref.go:41", after := #[{ on := 0, ground := Ground.data }], guard := none }) rfl (fun K hK => ?_) AllReadyH.nil)
              have pl := (HT.out.1.below HVd.out).q.c.cell 0
              rw [HPE.out] at pl
              simp at pl
              go_simp
              refine hK.out _ _ (HT.out.2.1.c.on HVd.out) (fun hH => ?_)
              clear hK K pl
              try simp only [Act.put, List.setIfInBounds_toArray, List.set_cons_zero, List.set_cons_succ]
              refine wpAnyH_take (i := 2) (oi := { dst := some 74, op := Op.move (Operand.tmp 73), type := 4, pos := "ref.go:41", after := #[{ on := 1, ground := Ground.data }], guard := none }) (v := ?_) rfl (by kernel_rfl) (by kernel_rfl) (by kernel_rfl) (fun _ _ _ h => h) (Or.inl ⟨by rfl, ?_⟩) (by exact hH) ?_
              rotate_left
              · intro W hSw
                go_simp
                try with_reducible rfl
              try simp only [Act.put, List.setIfInBounds_toArray, List.set_cons_zero, List.set_cons_succ]
              refine wpAnyH_take (i := 3) (oi := { dst := some 75, op := Op.fieldAddr 101 (Operand.tmp 10) 0, type := 0, pos := "ref.go:41", after := #[{ on := 2, ground := Ground.guard }], guard := some (2, false) }) (v := ?_) rfl (by kernel_rfl) (by kernel_rfl) (by kernel_rfl) (fun _ _ _ h => h) (Or.inl ⟨by rfl, ?_⟩) (by exact hH) ?_
              rotate_left
              · intro W hSw
                go_simp
                try with_reducible rfl
              try simp only [Act.put, List.setIfInBounds_toArray, List.set_cons_zero, List.set_cons_succ]
              refine wpAnyH_take (i := 4) (oi := { dst := some 76, op := Op.load 4 (Operand.tmp 75), type := 4, pos := "ref.go:41", after := #[{ on := 3, ground := Ground.data }, { on := 2, ground := Ground.guard }], guard := some (2, false) }) (v := ?_) rfl (by kernel_rfl) (by kernel_rfl) (by kernel_rfl) (fun _ _ _ h => h) (Or.inl ⟨by rfl, ?_⟩) (by exact hH) ?_
              rotate_left
              · intro W hSw
                have p := hSw.cell 0
                simp at p
                go_simp
                try with_reducible rfl
              try simp only [Act.put, List.setIfInBounds_toArray, List.set_cons_zero, List.set_cons_succ]
              refine wpAnyH_take (i := 5) (oi := { dst := some 77, op := Op.pick (Operand.tmp 74) (Operand.const (Value.bool true)) (Operand.tmp 76), type := 4, pos := "ref.go:41", after := #[{ on := 2, ground := Ground.data }, { on := 4, ground := Ground.data }], guard := none }) (v := ?_) rfl (by kernel_rfl) (by kernel_rfl) (by kernel_rfl) (fun _ _ _ h => h) (Or.inl ⟨by rfl, ?_⟩) (by exact hH) ?_
              rotate_left
              · intro W hSw
                go_simp
                try with_reducible rfl
              try simp only [Act.put, List.setIfInBounds_toArray, List.set_cons_zero, List.set_cons_succ]
              refine wpAnyH_ready (rs := [10]) (by kernel_rfl) (by simp) ?_
              refine (AllReadyH.cons (o := { dst := some 82, op := Op.call { callee := Callee.value (Operand.func 53), args := #[Operand.tmp 79, Operand.tmp 81], argTypes := #[23, 23] }, type := 23, pos := "ref.go:41", after := #[{ on := 7, ground := Ground.data }, { on := 9, ground := Ground.data }, { on := 2, ground := Ground.chain }], guard := none }) rfl (fun K hK => ?_) AllReadyH.nil)
              go_simp
              go_at_call 53
              refine (join_look (HT.out.1.below HVd.out).f (HT.out.2.2.1.mv (LkMv.of_below _ _ _ HVd.out)) (by have := HK.out.2.2; omega)).mono ?_
              rintro e V32 ⟨J1, J1c, rfl, ho, hbk⟩
              have hx32 : SlX V32 (Xs b x1 x2 x5 ((w.heap.size + 1 + 1) + 1)) ((F i).2.first ++ q.2.first) (.slice J1 ((F i).2.first.length + q.2.first.length) J1c) := (slx_ofI ho (fun y hy => by rcases List.mem_append.1 hy with e | e; exact slx_ints (HT.out.1.f) y e; exact slx_ints HT.out.2.2.1 y e) (fun g hg => (HT.out.1.below HVd.out).a.fresh hg)).lower (n' := (w.heap.size + 1 + 1) + 1) (by have := (HT.out.1.below HVd.out).q.c.lt; omega)
              have HV32 := Lib.hid (HVd.out.trans (hbk.mono HVd.out.size))
              have HX32 := Lib.hid hx32
              clear hx32 ho hbk
              try go_wp2_with fail
              refine hK.out _ _ (HT.out.2.1.c.on HV32.out) (fun hH => ?_)
              clear hK K
              try simp only [Act.put, List.setIfInBounds_toArray, List.set_cons_zero, List.set_cons_succ]
              refine wpAnyH_ready (rs := [15]) (by kernel_rfl) (by simp) ?_
              refine (AllReadyH.cons (o := { dst := some 87, op := Op.call { callee := Callee.value (Operand.func 53), args := #[Operand.tmp 84, Operand.tmp 86], argTypes := #[23, 23] }, type := 23, pos := "ref.go:41", after := #[{ on := 12, ground := Ground.data }, { on := 14, ground := Ground.data }, { on := 10, ground := Ground.chain }], guard := none }) rfl (fun K hK => ?_) AllReadyH.nil)
              go_simp
              go_at_call 53
              refine (join_look (HT.out.1.below HV32.out).l (HT.out.2.2.2.1.mv (LkMv.of_below _ _ _ HV32.out)) (by have := HK.out.2.2; omega)).mono ?_
              rintro e V33 ⟨J2, J2c, rfl, ho, hbk⟩
              have hx33 : SlX V33 (Xs b x1 x2 x5 ((w.heap.size + 1 + 1) + 1)) ((F i).2.last ++ q.2.last) (.slice J2 ((F i).2.last.length + q.2.last.length) J2c) := (slx_ofI ho (fun y hy => by rcases List.mem_append.1 hy with e | e; exact slx_ints (HT.out.1.l) y e; exact slx_ints HT.out.2.2.2.1 y e) (fun g hg => (HT.out.1.below HV32.out).a.fresh hg)).lower (n' := (w.heap.size + 1 + 1) + 1) (by have := (HT.out.1.below HV32.out).q.c.lt; omega)
              have HV33 := Lib.hid (HV32.out.trans (hbk.mono HV32.out.size))
              have hy33 := HX32.out.mv (LkMv.of_below x1 x2 x5 hbk)
              have HY33 := Lib.hid hy33
              clear hy33
              have HX33 := Lib.hid hx33
              clear hx33 ho hbk
              try go_wp2_with fail
              refine hK.out _ _ (HT.out.2.1.c.on HV33.out) (fun hH => ?_)
              clear hK K
              try simp only [Act.put, List.setIfInBounds_toArray, List.set_cons_zero, List.set_cons_succ]
              refine wpAnyH_take (i := 16) (oi := { dst := some 88, op := Op.build 101 #[(0, Operand.tmp 77), (1, Operand.tmp 82), (2, Operand.tmp 87)], type := 101, pos := "ref.go:41", after := #[{ on := 5, ground := Ground.data }, { on := 10, ground := Ground.data }, { on := 15, ground := Ground.data }], guard := none }) (v := ?_) rfl (by kernel_rfl) (by kernel_rfl) (by kernel_rfl) (fun _ _ _ h => h) (Or.inl ⟨by rfl, ?_⟩) (by exact hH) ?_
              rotate_left
              · intro W hSw
                go_simp
                try with_reducible rfl
              try simp only [Act.put, List.setIfInBounds_toArray, List.set_cons_zero, List.set_cons_succ]
              refine wpAnyH_ready (rs := [17]) (by kernel_rfl) (by simp) ?_
              refine AllReadyH.cons (o := { dst := none, op := Op.store 101 (Operand.tmp 8) (Operand.tmp 88), type := 0, pos := "ref.go:41", after := #[{ on := 16, ground := Ground.data }, { on := 15, ground := Ground.chain }, { on := 0, ground := Ground.phase }, { on := 1, ground := Ground.phase }, { on := 2, ground := Ground.phase }, { on := 3, ground := Ground.phase }, { on := 4, ground := Ground.phase }, { on := 5, ground := Ground.phase }, { on := 6, ground := Ground.phase }, { on := 7, ground := Ground.phase }, { on := 8, ground := Ground.phase }, { on := 9, ground := Ground.phase }, { on := 10, ground := Ground.phase }, { on := 11, ground := Ground.phase }, { on := 12, ground := Ground.phase }, { on := 13, ground := Ground.phase }, { on := 14, ground := Ground.phase }, { on := 15, ground := Ground.phase }, { on := 16, ground := Ground.phase }], guard := none }) rfl (fun K hK => ?_) AllReadyH.nil
              have hL := HT.out.1.below HV33.out
              have p0 := hL.q.c.cell 0
              have p1 := hL.q.c.cell 1
              have p2 := hL.q.c.cell 2
              simp at p0 p1 p2
              have g0 := hL.q.c.froz 0
              have g1 := hL.q.c.froz 1
              have g2 := hL.q.c.froz 2
              have z0 := hL.q.c.lt
              have hP := hL.put (p' := ⟨(F i).2.empty || q.2.empty, (F i).2.first ++ q.2.first, (F i).2.last ++ q.2.last⟩) (e := q.2.empty) (by omega) (by rw [HPE.out]; rfl) HY33.out HX33.out
              have hend := HJ.out _ _ _ hP
              have HEND := Lib.hid hend
              have hq3 := (((((HT.out.2.1.c.on HV33.out)))))
              have hkq : (w.heap.size + 1 + 1) ≠ qp := by omega
              clear hL hP hend
              go_simp
              refine hK.out _ _ (show Cells _ qp 101 #[.bool q.2.empty, .slice Af q.2.first.length cf, .slice Al q.2.last.length cl] from (Below.heap_setCell _ _ _ _ (by first | exact hkq | exact hkq.symm)).trans ((Below.heap_setCell _ _ _ _ (by first | exact hkq | exact hkq.symm)).trans ((Below.heap_setCell _ _ _ _ (by first | exact hkq | exact hkq.symm)).trans hq3))) (fun hH => ?_)
              clear hK K p0 p1 p2 g0 g1 g2 z0 hq3
              try simp only [Act.put, List.setIfInBounds_toArray, List.set_cons_zero, List.set_cons_succ]
              refine wpAnyH_done (by kernel_rfl) ?_ _
              refine NoPanic.normal ?_
              go_wp2_with fail
              go_roundw
              case rel => exact HEND.out
              case measure => simp [RowKit.intOf]; omega
    · obtain rfl : i = n := by omega
      have i1 : ¬ (i : Int) < (i : Int) := by omega
      obtain ⟨Ax, cx, rfl⟩ := slx_form hS.f
      obtain ⟨Ay, cy, rfl⟩ := slx_form hS.l
      have hkr := H.out.2.2.1.mv hS.m
      have HS := Lib.hid (And.intro hS (And.intro hkr kbw))
      clear hS hkr kbw
      cases hpe : (F i).2.empty with
      | true =>
        by_cases h6 : k = 6
        · have j6 : (k == 6) = true := by simpa using h6
          have j7 : (k == 7) = false := by rw [h6]; rfl
          have j8 : (k == 8) = false := by rw [h6]; rfl
          have hsp : (⟨true, (F i).2.first, (F i).2.last⟩ : Pt) = pN := by rw [← HR.out.2, hpe, j6, j8]; rfl
          have hss : (F i).1.pair (F i).2.last (F i).2.first = sN := by rw [← HR.out.1]; exact (if_pos (.inl h6)).symm
          have HHS := Lib.hid (And.intro hss hsp)
          have HPE := Lib.hid hpe
          clear hss hsp hpe h6
          have hfl := H.out.2.2.2.2.2.2.1
          have hmul := mul_le2 hfl.2.1 hfl.1
          have C := pair_look HS.out.1.a HS.out.1.l HS.out.1.f (by omega)
          have HC := Lib.hid C
          have o1 := HS.out.1.q.c.cell 1
          have o2 := HS.out.1.q.c.cell 2
          have x0 := HS.out.2.2.c.cell 0
          simp at o1 o2
          simp at x0
          clear C hmul hfl
          go_wp2_with fail
          refine HC.out.mono ?_
          rintro r w6 ⟨rfl, z5, ha6, hm6⟩
          have hS6 := HS.out.1.on ha6 hm6
          have hk6 := HS.out.2.1.mv hm6
          have hb6 := HS.out.2.2.mv hm6
          have HS6 := Lib.hid (And.intro hS6 (And.intro hk6 hb6))
          clear hS6 hk6 hb6 ha6 hm6 o1 o2 x0 e0 e2
          have o0 := HS6.out.1.q.c.cell 0
          have o1 := HS6.out.1.q.c.cell 1
          have o2 := HS6.out.1.q.c.cell 2
          have x0 := HS6.out.2.2.c.cell 0
          have x1 := HS6.out.2.1.c.cell 0
          have x2 := HS6.out.2.1.c.cell 1
          have x3 := HS6.out.2.1.c.cell 2
          have g0 := HS6.out.1.q.c.froz 0
          have g1 := HS6.out.1.q.c.froz 1
          have g2 := HS6.out.1.q.c.froz 2
          have z0 := HS6.out.1.q.c.lt
          have f0 := HS6.out.2.1.c.froz 0
          have f1 := HS6.out.2.1.c.froz 1
          have f2 := HS6.out.2.1.c.froz 2
          have zr := HS6.out.2.1.c.lt
          simp at x0
          rw [HPE.out] at o0
          simp at o0 o1 o2
          simp [part0] at x1 x2 x3
          obtain ⟨WF, hWF, hc, hP⟩ := LoS.fin (e := true) HS6.out.1 (w := w) (r := w.heap.size + 1) (by omega) H.out.2.2.2.2.2.2.2.2.2.1 (by omega) HS6.out.2.1
          rw [HHS.out.1, HHS.out.2] at hP
          have HF := Lib.hid (And.intro hWF (And.intro hc hP))
          clear hWF hc hP
          go_wp2_with fail
          rw [HF.out.1]
          exact bodyPost_ret (v := .agg #[.bool true, .slice Ax (F i).2.first.length cx, .slice Ay (F i).2.last.length cy]) (results_one rfl _ _ (w.heap.size + 1) _ rfl HF.out.2.1 info101) rfl HF.out.2.2
        have j6 : (k == 6) = false := by simpa using h6
        by_cases h7 : k = 7
        · have j7 : (k == 7) = true := by simpa using h7
          have j8 : (k == 8) = false := by rw [h7]; rfl
          have hsp : (⟨true, (F i).2.first, (F i).2.last⟩ : Pt) = pN := by rw [← HR.out.2, hpe, j6, j8]; rfl
          have hss : (F i).1.pair (F i).2.last (F i).2.first = sN := by rw [← HR.out.1]; exact (if_pos (.inr h7)).symm
          have HHS := Lib.hid (And.intro hss hsp)
          have HPE := Lib.hid hpe
          clear hss hsp hpe h7 h6
          have hfl := H.out.2.2.2.2.2.2.1
          have hmul := mul_le2 hfl.2.1 hfl.1
          have C := pair_look HS.out.1.a HS.out.1.l HS.out.1.f (by omega)
          have HC := Lib.hid C
          have o1 := HS.out.1.q.c.cell 1
          have o2 := HS.out.1.q.c.cell 2
          have x0 := HS.out.2.2.c.cell 0
          simp at o1 o2
          simp at x0
          clear C hmul hfl
          go_wp2_with fail
          refine HC.out.mono ?_
          rintro r w6 ⟨rfl, z5, ha6, hm6⟩
          have hS6 := HS.out.1.on ha6 hm6
          have hk6 := HS.out.2.1.mv hm6
          have hb6 := HS.out.2.2.mv hm6
          have HS6 := Lib.hid (And.intro hS6 (And.intro hk6 hb6))
          clear hS6 hk6 hb6 ha6 hm6 o1 o2 x0 e0 e2
          have o0 := HS6.out.1.q.c.cell 0
          have o1 := HS6.out.1.q.c.cell 1
          have o2 := HS6.out.1.q.c.cell 2
          have x0 := HS6.out.2.2.c.cell 0
          have x1 := HS6.out.2.1.c.cell 0
          have x2 := HS6.out.2.1.c.cell 1
          have x3 := HS6.out.2.1.c.cell 2
          have g0 := HS6.out.1.q.c.froz 0
          have g1 := HS6.out.1.q.c.froz 1
          have g2 := HS6.out.1.q.c.froz 2
          have z0 := HS6.out.1.q.c.lt
          have f0 := HS6.out.2.1.c.froz 0
          have f1 := HS6.out.2.1.c.froz 1
          have f2 := HS6.out.2.1.c.froz 2
          have zr := HS6.out.2.1.c.lt
          simp at x0
          rw [HPE.out] at o0
          simp at o0 o1 o2
          simp [part0] at x1 x2 x3
          obtain ⟨WF, hWF, hc, hP⟩ := LoS.fin (e := true) HS6.out.1 (w := w) (r := w.heap.size + 1) (by omega) H.out.2.2.2.2.2.2.2.2.2.1 (by omega) HS6.out.2.1
          rw [HHS.out.1, HHS.out.2] at hP
          have HF := Lib.hid (And.intro hWF (And.intro hc hP))
          clear hWF hc hP
          go_wp2_with fail
          rw [HF.out.1]
          exact bodyPost_ret (v := .agg #[.bool true, .slice Ax (F i).2.first.length cx, .slice Ay (F i).2.last.length cy]) (results_one rfl _ _ (w.heap.size + 1) _ rfl HF.out.2.1 info101) rfl HF.out.2.2
        have j7 : (k == 7) = false := by simpa using h7
        by_cases h8 : k = 8
        · have j8 : (k == 8) = true := by simpa using h8
          have hsp : (⟨true, (F i).2.first, (F i).2.last⟩ : Pt) = pN := by rw [← HR.out.2, hpe, j6, j8]; rfl
          have hss : (F i).1 = sN := by rw [← HR.out.1]; exact (if_neg (by rintro (e | e); exact h6 e; exact h7 e)).symm
          have HHS := Lib.hid (And.intro hss hsp)
          have HPE := Lib.hid hpe
          clear hss hsp hpe h8 h7 h6
          have o0 := HS.out.1.q.c.cell 0
          have o1 := HS.out.1.q.c.cell 1
          have o2 := HS.out.1.q.c.cell 2
          have x0 := HS.out.2.2.c.cell 0
          have x1 := HS.out.2.1.c.cell 0
          have x2 := HS.out.2.1.c.cell 1
          have x3 := HS.out.2.1.c.cell 2
          have g0 := HS.out.1.q.c.froz 0
          have g1 := HS.out.1.q.c.froz 1
          have g2 := HS.out.1.q.c.froz 2
          have z0 := HS.out.1.q.c.lt
          have f0 := HS.out.2.1.c.froz 0
          have f1 := HS.out.2.1.c.froz 1
          have f2 := HS.out.2.1.c.froz 2
          have zr := HS.out.2.1.c.lt
          simp at x0
          rw [HPE.out] at o0
          simp at o0 o1 o2
          simp [part0] at x1 x2 x3
          obtain ⟨WF, hWF, hc, hP⟩ := LoS.fin (e := true) HS.out.1 (w := w) (r := w.heap.size + 1) (by omega) H.out.2.2.2.2.2.2.2.2.2.1 (by omega) HS.out.2.1
          rw [HHS.out.1, HHS.out.2] at hP
          have HF := Lib.hid (And.intro hWF (And.intro hc hP))
          clear hWF hc hP
          go_wp2_with fail
          rw [HF.out.1]
          exact bodyPost_ret (v := .agg #[.bool true, .slice Ax (F i).2.first.length cx, .slice Ay (F i).2.last.length cy]) (results_one rfl _ _ (w.heap.size + 1) _ rfl HF.out.2.1 info101) rfl HF.out.2.2
        have j8 : (k == 8) = false := by simpa using h8
        have hsp : (⟨true, (F i).2.first, (F i).2.last⟩ : Pt) = pN := by rw [← HR.out.2, hpe, j6, j8]; rfl
        have hss : (F i).1 = sN := by rw [← HR.out.1]; exact (if_neg (by rintro (e | e); exact h6 e; exact h7 e)).symm
        have HHS := Lib.hid (And.intro hss hsp)
        have HPE := Lib.hid hpe
        clear hss hsp hpe h8 h7 h6
        have o0 := HS.out.1.q.c.cell 0
        have o1 := HS.out.1.q.c.cell 1
        have o2 := HS.out.1.q.c.cell 2
        have x0 := HS.out.2.2.c.cell 0
        have x1 := HS.out.2.1.c.cell 0
        have x2 := HS.out.2.1.c.cell 1
        have x3 := HS.out.2.1.c.cell 2
        have g0 := HS.out.1.q.c.froz 0
        have g1 := HS.out.1.q.c.froz 1
        have g2 := HS.out.1.q.c.froz 2
        have z0 := HS.out.1.q.c.lt
        have f0 := HS.out.2.1.c.froz 0
        have f1 := HS.out.2.1.c.froz 1
        have f2 := HS.out.2.1.c.froz 2
        have zr := HS.out.2.1.c.lt
        simp at x0
        rw [HPE.out] at o0
        simp at o0 o1 o2
        simp [part0] at x1 x2 x3
        obtain ⟨WF, hWF, hc, hP⟩ := LoS.fin (e := true) HS.out.1 (w := w) (r := w.heap.size + 1) (by omega) H.out.2.2.2.2.2.2.2.2.2.1 (by omega) HS.out.2.1
        rw [HHS.out.1, HHS.out.2] at hP
        have HF := Lib.hid (And.intro hWF (And.intro hc hP))
        clear hWF hc hP
        go_wp2_with fail
        rw [HF.out.1]
        exact bodyPost_ret (v := .agg #[.bool true, .slice Ax (F i).2.first.length cx, .slice Ay (F i).2.last.length cy]) (results_one rfl _ _ (w.heap.size + 1) _ rfl HF.out.2.1 info101) rfl HF.out.2.2
      | false =>
        by_cases h6 : k = 6
        · have j6 : (k == 6) = true := by simpa using h6
          have j7 : (k == 7) = false := by rw [h6]; rfl
          have j8 : (k == 8) = false := by rw [h6]; rfl
          have hsp : (⟨true, (F i).2.first, (F i).2.last⟩ : Pt) = pN := by rw [← HR.out.2, hpe, j6, j8]; rfl
          have hss : (F i).1.pair (F i).2.last (F i).2.first = sN := by rw [← HR.out.1]; exact (if_pos (.inl h6)).symm
          have HHS := Lib.hid (And.intro hss hsp)
          have HPE := Lib.hid hpe
          clear hss hsp hpe h6
          have hfl := H.out.2.2.2.2.2.2.1
          have hmul := mul_le2 hfl.2.1 hfl.1
          have C := pair_look HS.out.1.a HS.out.1.l HS.out.1.f (by omega)
          have HC := Lib.hid C
          have o1 := HS.out.1.q.c.cell 1
          have o2 := HS.out.1.q.c.cell 2
          have x0 := HS.out.2.2.c.cell 0
          simp at o1 o2
          simp at x0
          clear C hmul hfl
          go_wp2_with fail
          refine HC.out.mono ?_
          rintro r w6 ⟨rfl, z5, ha6, hm6⟩
          have hS6 := HS.out.1.on ha6 hm6
          have hk6 := HS.out.2.1.mv hm6
          have hb6 := HS.out.2.2.mv hm6
          have HS6 := Lib.hid (And.intro hS6 (And.intro hk6 hb6))
          clear hS6 hk6 hb6 ha6 hm6 o1 o2 x0 e0 e2
          have o0 := HS6.out.1.q.c.cell 0
          have o1 := HS6.out.1.q.c.cell 1
          have o2 := HS6.out.1.q.c.cell 2
          have x0 := HS6.out.2.2.c.cell 0
          have x1 := HS6.out.2.1.c.cell 0
          have x2 := HS6.out.2.1.c.cell 1
          have x3 := HS6.out.2.1.c.cell 2
          have g0 := HS6.out.1.q.c.froz 0
          have g1 := HS6.out.1.q.c.froz 1
          have g2 := HS6.out.1.q.c.froz 2
          have z0 := HS6.out.1.q.c.lt
          have f0 := HS6.out.2.1.c.froz 0
          have f1 := HS6.out.2.1.c.froz 1
          have f2 := HS6.out.2.1.c.froz 2
          have zr := HS6.out.2.1.c.lt
          simp at x0
          rw [HPE.out] at o0
          simp at o0 o1 o2
          simp [part0] at x1 x2 x3
          obtain ⟨WF, hWF, hc, hP⟩ := LoS.fin (e := true) HS6.out.1 (w := w) (r := w.heap.size + 1) (by omega) H.out.2.2.2.2.2.2.2.2.2.1 (by omega) HS6.out.2.1
          rw [HHS.out.1, HHS.out.2] at hP
          have HF := Lib.hid (And.intro hWF (And.intro hc hP))
          clear hWF hc hP
          go_wp2_with fail
          rw [HF.out.1]
          exact bodyPost_ret (v := .agg #[.bool true, .slice Ax (F i).2.first.length cx, .slice Ay (F i).2.last.length cy]) (results_one rfl _ _ (w.heap.size + 1) _ rfl HF.out.2.1 info101) rfl HF.out.2.2
        have j6 : (k == 6) = false := by simpa using h6
        by_cases h7 : k = 7
        · have j7 : (k == 7) = true := by simpa using h7
          have j8 : (k == 8) = false := by rw [h7]; rfl
          have hsp : (⟨false, (F i).2.first, (F i).2.last⟩ : Pt) = pN := by rw [← HR.out.2, hpe, j6, j8]; rfl
          have hss : (F i).1.pair (F i).2.last (F i).2.first = sN := by rw [← HR.out.1]; exact (if_pos (.inr h7)).symm
          have HHS := Lib.hid (And.intro hss hsp)
          have HPE := Lib.hid hpe
          clear hss hsp hpe h7 h6
          have hfl := H.out.2.2.2.2.2.2.1
          have hmul := mul_le2 hfl.2.1 hfl.1
          have C := pair_look HS.out.1.a HS.out.1.l HS.out.1.f (by omega)
          have HC := Lib.hid C
          have o1 := HS.out.1.q.c.cell 1
          have o2 := HS.out.1.q.c.cell 2
          have x0 := HS.out.2.2.c.cell 0
          simp at o1 o2
          simp at x0
          clear C hmul hfl
          go_wp2_with fail
          refine HC.out.mono ?_
          rintro r w6 ⟨rfl, z5, ha6, hm6⟩
          have hS6 := HS.out.1.on ha6 hm6
          have hk6 := HS.out.2.1.mv hm6
          have hb6 := HS.out.2.2.mv hm6
          have HS6 := Lib.hid (And.intro hS6 (And.intro hk6 hb6))
          clear hS6 hk6 hb6 ha6 hm6 o1 o2 x0 e0 e2
          have o0 := HS6.out.1.q.c.cell 0
          have o1 := HS6.out.1.q.c.cell 1
          have o2 := HS6.out.1.q.c.cell 2
          have x0 := HS6.out.2.2.c.cell 0
          have x1 := HS6.out.2.1.c.cell 0
          have x2 := HS6.out.2.1.c.cell 1
          have x3 := HS6.out.2.1.c.cell 2
          have g0 := HS6.out.1.q.c.froz 0
          have g1 := HS6.out.1.q.c.froz 1
          have g2 := HS6.out.1.q.c.froz 2
          have z0 := HS6.out.1.q.c.lt
          have f0 := HS6.out.2.1.c.froz 0
          have f1 := HS6.out.2.1.c.froz 1
          have f2 := HS6.out.2.1.c.froz 2
          have zr := HS6.out.2.1.c.lt
          simp at x0
          rw [HPE.out] at o0
          simp at o0 o1 o2
          simp [part0] at x1 x2 x3
          obtain ⟨WF, hWF, hc, hP⟩ := LoS.fin (e := false) HS6.out.1 (w := w) (r := w.heap.size + 1) (by omega) H.out.2.2.2.2.2.2.2.2.2.1 (by omega) HS6.out.2.1
          rw [HHS.out.1, HHS.out.2] at hP
          have HF := Lib.hid (And.intro hWF (And.intro hc hP))
          clear hWF hc hP
          go_wp2_with fail
          rw [HF.out.1]
          exact bodyPost_ret (v := .agg #[.bool false, .slice Ax (F i).2.first.length cx, .slice Ay (F i).2.last.length cy]) (results_one rfl _ _ (w.heap.size + 1) _ rfl HF.out.2.1 info101) rfl HF.out.2.2
        have j7 : (k == 7) = false := by simpa using h7
        by_cases h8 : k = 8
        · have j8 : (k == 8) = true := by simpa using h8
          have hsp : (⟨true, (F i).2.first, (F i).2.last⟩ : Pt) = pN := by rw [← HR.out.2, hpe, j6, j8]; rfl
          have hss : (F i).1 = sN := by rw [← HR.out.1]; exact (if_neg (by rintro (e | e); exact h6 e; exact h7 e)).symm
          have HHS := Lib.hid (And.intro hss hsp)
          have HPE := Lib.hid hpe
          clear hss hsp hpe h8 h7 h6
          have o0 := HS.out.1.q.c.cell 0
          have o1 := HS.out.1.q.c.cell 1
          have o2 := HS.out.1.q.c.cell 2
          have x0 := HS.out.2.2.c.cell 0
          have x1 := HS.out.2.1.c.cell 0
          have x2 := HS.out.2.1.c.cell 1
          have x3 := HS.out.2.1.c.cell 2
          have g0 := HS.out.1.q.c.froz 0
          have g1 := HS.out.1.q.c.froz 1
          have g2 := HS.out.1.q.c.froz 2
          have z0 := HS.out.1.q.c.lt
          have f0 := HS.out.2.1.c.froz 0
          have f1 := HS.out.2.1.c.froz 1
          have f2 := HS.out.2.1.c.froz 2
          have zr := HS.out.2.1.c.lt
          simp at x0
          rw [HPE.out] at o0
          simp at o0 o1 o2
          simp [part0] at x1 x2 x3
          obtain ⟨WF, hWF, hc, hP⟩ := LoS.fin (e := true) HS.out.1 (w := w) (r := w.heap.size + 1) (by omega) H.out.2.2.2.2.2.2.2.2.2.1 (by omega) HS.out.2.1
          rw [HHS.out.1, HHS.out.2] at hP
          have HF := Lib.hid (And.intro hWF (And.intro hc hP))
          clear hWF hc hP
          go_wp2_with fail
          rw [HF.out.1]
          exact bodyPost_ret (v := .agg #[.bool true, .slice Ax (F i).2.first.length cx, .slice Ay (F i).2.last.length cy]) (results_one rfl _ _ (w.heap.size + 1) _ rfl HF.out.2.1 info101) rfl HF.out.2.2
        have j8 : (k == 8) = false := by simpa using h8
        have hsp : (⟨false, (F i).2.first, (F i).2.last⟩ : Pt) = pN := by rw [← HR.out.2, hpe, j6, j8]; rfl
        have hss : (F i).1 = sN := by rw [← HR.out.1]; exact (if_neg (by rintro (e | e); exact h6 e; exact h7 e)).symm
        have HHS := Lib.hid (And.intro hss hsp)
        have HPE := Lib.hid hpe
        clear hss hsp hpe h8 h7 h6
        have o0 := HS.out.1.q.c.cell 0
        have o1 := HS.out.1.q.c.cell 1
        have o2 := HS.out.1.q.c.cell 2
        have x0 := HS.out.2.2.c.cell 0
        have x1 := HS.out.2.1.c.cell 0
        have x2 := HS.out.2.1.c.cell 1
        have x3 := HS.out.2.1.c.cell 2
        have g0 := HS.out.1.q.c.froz 0
        have g1 := HS.out.1.q.c.froz 1
        have g2 := HS.out.1.q.c.froz 2
        have z0 := HS.out.1.q.c.lt
        have f0 := HS.out.2.1.c.froz 0
        have f1 := HS.out.2.1.c.froz 1
        have f2 := HS.out.2.1.c.froz 2
        have zr := HS.out.2.1.c.lt
        simp at x0
        rw [HPE.out] at o0
        simp at o0 o1 o2
        simp [part0] at x1 x2 x3
        obtain ⟨WF, hWF, hc, hP⟩ := LoS.fin (e := false) HS.out.1 (w := w) (r := w.heap.size + 1) (by omega) H.out.2.2.2.2.2.2.2.2.2.1 (by omega) HS.out.2.1
        rw [HHS.out.1, HHS.out.2] at hP
        have HF := Lib.hid (And.intro hWF (And.intro hc hP))
        clear hWF hc hP
        go_wp2_with fail
        rw [HF.out.1]
        exact bodyPost_ret (v := .agg #[.bool false, .slice Ax (F i).2.first.length cx, .slice Ay (F i).2.last.length cy]) (results_one rfl _ _ (w.heap.size + 1) _ rfl HF.out.2.1 info101) rfl HF.out.2.2
end Go.Proofs.YtmldgfplnacecaaDoor

