/-
  Contracts: the document's Right of a meaning.
-/
import Derived.Test.YtegkogadceodlaaRis
namespace Go.Proofs.Ytegkogadceodlaa
open Go.RowKit Go.Shelf Go.Lib

theorem right_good9 {e : E} (h : rightE e = true) : goodE e = true ∨ (e.k = 9 ∧ e.ks = []) := by
  by_cases h9 : e.k = 9
  · refine .inr ⟨h9, ?_⟩
    unfold rightE at h
    rw [if_pos h9, h9] at h
    unfold shapedK at h
    simp at h
    exact h.2
  · rw [rightE_good h9] at h
    simp only [Bool.and_eq_true] at h
    exact .inl h.1
theorem wrong_fault {e : E} (h : rightE e = true) : wrongE e = faultE e := by
  unfold wrongE faultE longR lgRef
  rw [h]
  cases noneE [3] e <;> cases noneE [6, 7] e
  · rfl
  · rfl
  · simp
  · simp only [Bool.true_and, if_true, Bool.not_true, Bool.false_or, Bool.false_eq_true, if_false]
    by_cases hl : 4 < lgE e
    · rw [if_pos (.inr (by omega)), decide_eq_true hl]; rfl
    · rw [if_neg (by omega), decide_eq_false hl]; rfl
theorem rule_take {rs : List Ru} {i : Nat} {x : Ru} (h : rs[i]? = some x) : (rs.take (i + 1)).all rightR = ((rs.take i).all rightR && rightR x) := by
  rw [List.take_add_one, h, List.all_append]
  simp
theorem rule_stop {rs : List Ru} {i : Nat} (h : (rs.take i).all rightR = false) : rs.all rightR = false := by
  have := List.all_append (f := rightR) (xs := rs.take i) (ys := rs.drop i)
  rw [List.take_append_drop, h] at this
  simpa using this

/-- What one rule's round comes to. -/
def ruleR (x : Ru) : Bool := rightR x
set_option maxHeartbeats 8000000 in
theorem refRightT_any (t : Tx) (v : Value) (w : World) (h : TxV w w.heap.size t v) : Calls Try.prog 50 #[v] w fun r w' => r = .returned (.bool (rightT t)) ∧ Below w.heap.size w w' := by
  obtain ⟨A1, c1, A2, c2, A3, c3, rfl, h1, h2, h3⟩ := h
  obtain ⟨W0, hW0⟩ : ∃ W0, w.alloc (.cells #[.slice A1 t.ig.length c1, .slice A2 t.kp.length c2, .slice A3 t.rs.length c3] 50) = W0 := ⟨_, rfl⟩
  have hb0 : Below w.heap.size w W0 := by rw [← hW0]; exact below_new _ _
  have hbx : Cells W0 w.heap.size 50 #[.slice A1 t.ig.length c1, .slice A2 t.kp.length c2, .slice A3 t.rs.length c3] := by rw [← hW0]; exact World.alloc_heap_new _ _
  have C1 := Lib.hid (refRises_any t.ig A1 c1 W0 (h1.on hb0))
  have C2 := Lib.hid (fun W (hb : Below W0.heap.size W0 W) => refRises_any t.kp A2 c2 W ((h2.on hb0).on hb))
  have l1 := h1.len
  have l2 := h2.len
  have l3 := h3.len
  have h3' := h3.on hb0
  have hR : rightT t = (decide (t.rs.length ≤ 40) && (rises t.ig && (rises t.kp && t.rs.all rightR))) := rfl
  obtain ⟨R, hRR⟩ : ∃ R, rightT t = R := ⟨_, rfl⟩
  rw [hRR] at hR ⊢
  have HR := Lib.hid hR
  have HW := Lib.hid hW0
  have HB := Lib.hid (And.intro hb0 hbx)
  generalize rises t.ig = b1 at *
  generalize rises t.kp = b2 at *
  generalize t.ig.length = n1 at *
  generalize t.kp.length = n2 at *
  generalize t.rs = rs at *
  obtain ⟨n3, hn3⟩ : ∃ n, rs.length = n := ⟨_, rfl⟩
  rw [hn3] at HW hbx l3 ⊢
  have HN := Lib.hid hn3
  have H3 := Lib.hid h3'
  have hz0 := hbx.lt
  have x2 : W0.cell? ⟨w.heap.size, 2, none⟩ = some (.slice A3 n3 c3) := by have := hbx.cell 2; simpa using this
  have x0 : W0.cell? ⟨w.heap.size, 0, none⟩ = some (.slice A1 n1 c1) := by have := hbx.cell 0; simpa using this
  have x1 : W0.cell? ⟨w.heap.size, 1, none⟩ = some (.slice A2 n2 c2) := by have := hbx.cell 1; simpa using this
  -- the loop, from whatever flag
  have tail : True := trivial
  clear h1 h2 h3 h3' hW0 hb0 hR hRR hbx hn3
  by_cases h40 : n3 ≤ 40
  · have i40 : ((n3 : Int) ≤ 40) := by omega
    have hR2 : R = (b1 && (b2 && rs.all rightR)) := by rw [HR.out, HN.out, decide_eq_true h40, Bool.true_and]
    have HR2 := Lib.hid hR2
    clear hR2 HR h40
    go_enter Try.func50, Try.ntmps50
    go_wp2_with fail
    rw [HW.out]
    refine C1.out.mono ?_
    rintro r w1 ⟨rfl, hb1⟩
    have x0' := (hb1.cell (p := ⟨w.heap.size, 0, none⟩) hz0).trans x0
    have x1' := (hb1.cell (p := ⟨w.heap.size, 1, none⟩) hz0).trans x1
    have x2' := (hb1.cell (p := ⟨w.heap.size, 2, none⟩) hz0).trans x2
    have HB1 := Lib.hid hb1
    have D2 := Lib.hid (C2.out w1 hb1)
    clear hb1
    cases b1
    · obtain rfl : R = false := HR2.out
      have HBL := Lib.hid HB1.out
      go_wp2_with fail
      go_loopw [3, 4, 5] (fun ok i _ wr => ok = .bool false ∧ i = .int .i64 0 ∧ Below W0.heap.size W0 wr) (fun _ _ _ _ => 0)
      case atStart => exact ⟨rfl, rfl, HBL.out⟩
      case round =>
        obtain ⟨rfl, rfl, hb⟩ := hrel
        have y2 := (hb.cell (p := ⟨w.heap.size, 2, none⟩) hz0).trans x2
        have HZ := Lib.hid (HB.out.1.trans (hb.mono HB.out.1.size))
        clear hb
        by_cases hn0 : 0 < n3
        · have j0 : (0 : Int) < (n3 : Int) := by omega
          go_wp2
          go_ret
          exact ⟨rfl, HZ.out⟩
        · have j0 : decide ((0 : Int) < (n3 : Int)) = false := by simp; omega
          go_wp2
          go_ret
          exact ⟨rfl, HZ.out⟩
    go_wp2_with fail
    refine D2.out.mono ?_
    rintro r w2 ⟨rfl, hb⟩
    have HBL := Lib.hid (HB1.out.trans (hb.mono HB1.out.size))
    have z2' := (hb.cell (p := ⟨w.heap.size, 2, none⟩) (by have := HB1.out.size; show w.heap.size < w1.heap.size; omega)).trans x2'
    clear hb x0' x1' x2'
    cases b2
    · obtain rfl : R = false := HR2.out
      go_wp2_with fail
      go_loopw [3, 4, 5] (fun ok i _ wr => ok = .bool false ∧ i = .int .i64 0 ∧ Below W0.heap.size W0 wr) (fun _ _ _ _ => 0)
      case atStart => exact ⟨rfl, rfl, HBL.out⟩
      case round =>
        obtain ⟨rfl, rfl, hb⟩ := hrel
        have y2 := (hb.cell (p := ⟨w.heap.size, 2, none⟩) hz0).trans x2
        have HZ := Lib.hid (HB.out.1.trans (hb.mono HB.out.1.size))
        clear hb
        by_cases hn0 : 0 < n3
        · have j0 : (0 : Int) < (n3 : Int) := by omega
          go_wp2
          go_ret
          exact ⟨rfl, HZ.out⟩
        · have j0 : decide ((0 : Int) < (n3 : Int)) = false := by simp; omega
          go_wp2
          go_ret
          exact ⟨rfl, HZ.out⟩
    have HR3 := Lib.hid (show R = rs.all rightR from HR2.out)
    go_wp2_with fail
    go_loopw [3, 4, 5] (fun ok i _ wr => ∃ k : Nat, i = .int .i64 k ∧ k ≤ n3 ∧ ok = .bool ((rs.take k).all rightR) ∧ Below W0.heap.size W0 wr) (fun _ i _ _ => n3 - (RowKit.intOf i).toNat)
    case atStart => exact ⟨0, rfl, Nat.zero_le _, by rw [List.take_zero]; rfl, HBL.out⟩
    case round =>
      obtain ⟨k, rfl, hkn, rfl, hb⟩ := hrel
      have y2 := (hb.cell (p := ⟨w.heap.size, 2, none⟩) hz0).trans x2
      obtain ⟨q, hq⟩ : ∃ q, (rs.take k).all rightR = q := ⟨_, rfl⟩
      rw [hq]
      by_cases hlt : k < n3
      · have i1 : (k : Int) < (n3 : Int) := by omega
        cases q
        · obtain rfl : R = false := by rw [HR3.out]; exact rule_stop hq
          have HZ := Lib.hid (HB.out.1.trans (hb.mono HB.out.1.size))
          clear hb hq z2'
          go_wp2
          go_ret
          exact ⟨rfl, HZ.out⟩
        obtain ⟨x, hx⟩ : ∃ x, rs[k]? = some x := ⟨rs[k]'(by rw [HN.out]; exact hlt), List.getElem?_eq_getElem _⟩
        have hs := rule_take hx
        rw [hq, Bool.true_and] at hs
        obtain ⟨b, o, rfl, hbl, hr⟩ := (H3.out.on hb).r (by rintro rfl; simp at hx)
        obtain ⟨B1, e1, B2, e2, ⟨k0, k1, k2, k3, k4, k5, k6⟩, hv⟩ := hr k x hx
        obtain ⟨B1', e1', B2', e2', he, hl1, hl2⟩ := hv
        obtain ⟨wr', hwr'⟩ : ∃ W, wr.alloc (.cells #[.int .i64 x.l.k, .int .i64 x.l.c, .slice B1 x.l.ks.length e1, .int .i64 x.r.k, .int .i64 x.r.c, .slice B2 x.r.ks.length e2, .bool x.b] 106) = W := ⟨_, rfl⟩
        have he' : B1 = B1' ∧ e1 = e1' ∧ B2 = B2' ∧ e2 = e2' := by simp at he; exact ⟨he.1.1, he.1.2, he.2.1, he.2.2⟩
        obtain ⟨rfl, rfl, rfl, rfl⟩ := he'
        have hbw : Below wr.heap.size wr wr' := by rw [← hwr']; exact below_new _ _
        have hbox : Cells wr' wr.heap.size 106 #[.int .i64 x.l.k, .int .i64 x.l.c, .slice B1 x.l.ks.length e1, .int .i64 x.r.k, .int .i64 x.r.c, .slice B2 x.r.ks.length e2, .bool x.b] := by rw [← hwr']; exact World.alloc_heap_new _ _
        have K1 := Lib.hid (refRight_any x.l _ wr' (hl1.on hbw))
        have K2 := Lib.hid (fun W (hB : Below wr'.heap.size wr' W) => refRight_any x.r _ W ((hl2.on hbw).on hB))
        have K3 := Lib.hid (fun (hrr : rightE x.r = true) W (hB : Below wr'.heap.size wr' W) => wrong_any x.r (by have := right_size hrr; omega) (right_good9 hrr) _ W ((hl2.on hbw).on hB))
        have hRX : rightR x = (rightE x.l && (rightE x.r && decide (faultE x.r = 0))) := rfl
        have hWF := @wrong_fault x.r
        rw [hRX] at hs
        have hbz : Below W0.heap.size W0 wr' := hb.trans (hbw.mono hb.size)
        have HS := Lib.hid hs
        have HBX := Lib.hid (And.intro hbox (And.intro hbz hlt))
        have HWR := Lib.hid hwr'
        have HWF := Lib.hid hWF
        generalize rightE x.l = g1 at *
        generalize rightE x.r = g2 at *
        generalize faultE x.r = ft at *
        generalize wrongE x.r = wt at *
        generalize x.l.ks.length = m1 at *
        generalize x.r.ks.length = m2 at *
        generalize x.l.k = f1 at *
        generalize x.r.k = f2 at *
        generalize x.l.c = f3 at *
        generalize x.r.c = f4 at *
        generalize x.b = f5 at *
        clear hs hbox hbz hwr' hWF hRX hl1 hl2 he hr hbl hb hbw hx hq z2'
        go_wp2_with fail
        rw [HWR.out]
        refine K1.out.mono ?_
        rintro r u1 ⟨rfl, hu⟩
        have HU1 := Lib.hid hu
        have d := cells_below HBX.out.1 hu
        have HD := Lib.hid d
        have v3 := d.cell 3
        have v4 := d.cell 4
        have v5 := d.cell 5
        simp only [List.getElem?_toArray, List.getElem?_cons_zero, List.getElem?_cons_succ] at v3 v4 v5
        clear hu d k0 k1 k2 k3 k4 k5 k6
        cases g1
        · have HE := Lib.hid (And.intro HS.out (HBX.out.2.1.trans (HU1.out.mono HBX.out.2.1.size)))
          go_wp2
          go_roundw
          case rel => exact ⟨k + 1, by go_num, by have := HBX.out.2.2; omega, by rw [HE.out.1]; rfl, HE.out.2⟩
          case measure => have := HBX.out.2.2; simp [RowKit.intOf]; omega
        go_wp2_with fail
        refine (K2.out u1 HU1.out).mono ?_
        rintro r u2 ⟨rfl, hu⟩
        have HU2 := Lib.hid (HU1.out.trans (hu.mono HU1.out.size))
        have d := cells_below HD.out hu
        clear v3 v4 v5
        have v3 := d.cell 3
        have v4 := d.cell 4
        have v5 := d.cell 5
        simp only [List.getElem?_toArray, List.getElem?_cons_zero, List.getElem?_cons_succ] at v3 v4 v5
        clear hu d
        cases g2
        · have HE := Lib.hid (And.intro HS.out (HBX.out.2.1.trans (HU2.out.mono HBX.out.2.1.size)))
          go_wp2
          go_roundw
          case rel => exact ⟨k + 1, by go_num, by have := HBX.out.2.2; omega, by rw [HE.out.1]; rfl, HE.out.2⟩
          case measure => have := HBX.out.2.2; simp [RowKit.intOf]; omega
        have K4 := Lib.hid (K3.out (by first | rfl | trivial) u2 HU2.out)
        have hwf := HWF.out (by first | rfl | trivial)
        subst hwf
        go_wp2_with fail
        refine K4.out.mono ?_
        rintro r u3 ⟨rfl, hu⟩
        have hu3 := HU2.out.trans (hu.mono HU2.out.size)
        have HE := Lib.hid (And.intro HS.out (HBX.out.2.1.trans (hu3.mono HBX.out.2.1.size)))
        clear hu hu3
        by_cases hf : wt = 0
        · subst hf
          go_wp2
          go_roundw
          case rel => exact ⟨k + 1, by go_num, by have := HBX.out.2.2; omega, by rw [HE.out.1]; rfl, HE.out.2⟩
          case measure => have := HBX.out.2.2; simp [RowKit.intOf]; omega
        · have qf : (wt == 0) = false := by simpa using hf
          go_wp2
          go_roundw
          case rel => exact ⟨k + 1, by go_num, by have := HBX.out.2.2; omega, by rw [HE.out.1, decide_eq_false hf]; rfl, HE.out.2⟩
          case measure => have := HBX.out.2.2; simp [RowKit.intOf]; omega
      · have hkn : k = n3 := by omega
        subst hkn
        have i1 : ¬ (k : Int) < (k : Int) := by omega
        have ht : rs.take k = rs := by rw [← HN.out, List.take_length]
        rw [ht, ← HR3.out] at hq
        subst hq
        have HZ := Lib.hid (HB.out.1.trans (hb.mono HB.out.1.size))
        clear hb ht z2'
        go_wp2
        go_ret
        exact ⟨rfl, HZ.out⟩
  · have i40 : decide ((n3 : Int) ≤ 40) = false := by simp; omega
    obtain rfl : R = false := by rw [HR.out, HN.out, decide_eq_false h40, Bool.false_and]
    clear h40
    go_enter Try.func50, Try.ntmps50
    go_wp2_with fail
    rw [HW.out]
    have HBL := Lib.hid (Below.refl W0.heap.size W0)
    go_loopw [3, 4, 5] (fun ok i _ wr => ok = .bool false ∧ i = .int .i64 0 ∧ Below W0.heap.size W0 wr) (fun _ _ _ _ => 0)
    case atStart => exact ⟨rfl, rfl, HBL.out⟩
    case round =>
      obtain ⟨rfl, rfl, hb⟩ := hrel
      have y2 := (hb.cell (p := ⟨w.heap.size, 2, none⟩) hz0).trans x2
      have HZ := Lib.hid (HB.out.1.trans (hb.mono HB.out.1.size))
      clear hb
      by_cases hn0 : 0 < n3
      · have j0 : (0 : Int) < (n3 : Int) := by omega
        go_wp2
        go_ret
        exact ⟨rfl, HZ.out⟩
      · have j0 : decide ((0 : Int) < (n3 : Int)) = false := by simp; omega
        go_wp2
        go_ret
        exact ⟨rfl, HZ.out⟩
end Go.Proofs.Ytegkogadceodlaa
