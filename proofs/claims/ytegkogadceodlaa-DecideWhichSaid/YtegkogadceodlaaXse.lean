/-
  Contracts: the document's Right of a meaning.
  Contracts: the document's Known, Class, in; decide.class.
  Contract: reading.add; what a reading is in memory.
-/
import Derived.Test.YtegkogadceodlaaXsd
import Derived.Deep.AppendLies
import Derived.Maps.OwnOps
import Derived.Test.YtegkogadceodlaaXsc
namespace Go.Proofs.Ytegkogadceodlaa
open Go.RowKit Go.Shelf Go.Lib

theorem right_good9 {e : E} (h : rightE e = true) : goodE e = true ∨ (e.k = 9 ∧ e.ks = []) := by
  by_cases h9 : e.k = 9
  · refine .inr ⟨h9, ?_⟩
    unfold rightE at h
    rw [if_pos h9, h9] at h
    unfold shapedK at h
    simp at h
    exact h.2
  · rw [rightE_good h9] at h
    simp only [Bool.and_eq_true] at h
    exact .inl h.1
theorem wrong_fault {e : E} (h : rightE e = true) : wrongE e = faultE e := by
  unfold wrongE faultE longR lgRef
  rw [h]
  cases noneE [3] e <;> cases noneE [6, 7] e
  · rfl
  · rfl
  · simp
  · simp only [Bool.true_and, if_true, Bool.not_true, Bool.false_or, Bool.false_eq_true, if_false]
    by_cases hl : 4 < lgE e
    · rw [if_pos (.inr (by omega)), decide_eq_true hl]; rfl
    · rw [if_neg (by omega), decide_eq_false hl]; rfl
theorem rule_take {rs : List Ru} {i : Nat} {x : Ru} (h : rs[i]? = some x) : (rs.take (i + 1)).all rightR = ((rs.take i).all rightR && rightR x) := by
  rw [List.take_add_one, h, List.all_append]
  simp
theorem rule_stop {rs : List Ru} {i : Nat} (h : (rs.take i).all rightR = false) : rs.all rightR = false := by
  have := List.all_append (f := rightR) (xs := rs.take i) (ys := rs.drop i)
  rw [List.take_append_drop, h] at this
  simpa using this

/-- What one rule's round comes to. -/
def ruleR (x : Ru) : Bool := rightR x
set_option maxHeartbeats 8000000 in
theorem refRightT_any (t : Tx) (v : Value) (w : World) (h : TxV w w.heap.size t v) : Calls Try.prog 50 #[v] w fun r w' => r = .returned (.bool (rightT t)) ∧ Below w.heap.size w w' := by
  obtain ⟨A1, c1, A2, c2, A3, c3, rfl, h1, h2, h3⟩ := h
  obtain ⟨W0, hW0⟩ : ∃ W0, w.alloc (.cells #[.slice A1 t.ig.length c1, .slice A2 t.kp.length c2, .slice A3 t.rs.length c3] 50) = W0 := ⟨_, rfl⟩
  have hb0 : Below w.heap.size w W0 := by rw [← hW0]; exact below_new _ _
  have hbx : Cells W0 w.heap.size 50 #[.slice A1 t.ig.length c1, .slice A2 t.kp.length c2, .slice A3 t.rs.length c3] := by rw [← hW0]; exact World.alloc_heap_new _ _
  have C1 := Lib.hid (refRises_any t.ig A1 c1 W0 (h1.on hb0))
  have C2 := Lib.hid (fun W (hb : Below W0.heap.size W0 W) => refRises_any t.kp A2 c2 W ((h2.on hb0).on hb))
  have l1 := h1.len
  have l2 := h2.len
  have l3 := h3.len
  have h3' := h3.on hb0
  have hR : rightT t = (decide (t.rs.length ≤ 40) && (rises t.ig && (rises t.kp && t.rs.all rightR))) := rfl
  obtain ⟨R, hRR⟩ : ∃ R, rightT t = R := ⟨_, rfl⟩
  rw [hRR] at hR ⊢
  have HR := Lib.hid hR
  have HW := Lib.hid hW0
  have HB := Lib.hid (And.intro hb0 hbx)
  generalize rises t.ig = b1 at *
  generalize rises t.kp = b2 at *
  generalize t.ig.length = n1 at *
  generalize t.kp.length = n2 at *
  generalize t.rs = rs at *
  obtain ⟨n3, hn3⟩ : ∃ n, rs.length = n := ⟨_, rfl⟩
  rw [hn3] at HW hbx l3 ⊢
  have HN := Lib.hid hn3
  have H3 := Lib.hid h3'
  have hz0 := hbx.lt
  have x2 : W0.cell? ⟨w.heap.size, 2, none⟩ = some (.slice A3 n3 c3) := by have := hbx.cell 2; simpa using this
  have x0 : W0.cell? ⟨w.heap.size, 0, none⟩ = some (.slice A1 n1 c1) := by have := hbx.cell 0; simpa using this
  have x1 : W0.cell? ⟨w.heap.size, 1, none⟩ = some (.slice A2 n2 c2) := by have := hbx.cell 1; simpa using this
  -- the loop, from whatever flag
  have tail : True := trivial
  clear h1 h2 h3 h3' hW0 hb0 hR hRR hbx hn3
  by_cases h40 : n3 ≤ 40
  · have i40 : ((n3 : Int) ≤ 40) := by omega
    have hR2 : R = (b1 && (b2 && rs.all rightR)) := by rw [HR.out, HN.out, decide_eq_true h40, Bool.true_and]
    have HR2 := Lib.hid hR2
    clear hR2 HR h40
    go_enter Try.func50, Try.ntmps50
    go_wp2_with fail
    rw [HW.out]
    refine C1.out.mono ?_
    rintro r w1 ⟨rfl, hb1⟩
    have x0' := (hb1.cell (p := ⟨w.heap.size, 0, none⟩) hz0).trans x0
    have x1' := (hb1.cell (p := ⟨w.heap.size, 1, none⟩) hz0).trans x1
    have x2' := (hb1.cell (p := ⟨w.heap.size, 2, none⟩) hz0).trans x2
    have HB1 := Lib.hid hb1
    have D2 := Lib.hid (C2.out w1 hb1)
    clear hb1
    cases b1
    · obtain rfl : R = false := HR2.out
      have HBL := Lib.hid HB1.out
      go_wp2_with fail
      go_loopw [3, 4, 5] (fun ok i _ wr => ok = .bool false ∧ i = .int .i64 0 ∧ Below W0.heap.size W0 wr) (fun _ _ _ _ => 0)
      case atStart => exact ⟨rfl, rfl, HBL.out⟩
      case round =>
        obtain ⟨rfl, rfl, hb⟩ := hrel
        have y2 := (hb.cell (p := ⟨w.heap.size, 2, none⟩) hz0).trans x2
        have HZ := Lib.hid (HB.out.1.trans (hb.mono HB.out.1.size))
        clear hb
        by_cases hn0 : 0 < n3
        · have j0 : (0 : Int) < (n3 : Int) := by omega
          go_wp2
          go_ret
          exact ⟨rfl, HZ.out⟩
        · have j0 : decide ((0 : Int) < (n3 : Int)) = false := by simp; omega
          go_wp2
          go_ret
          exact ⟨rfl, HZ.out⟩
    go_wp2_with fail
    refine D2.out.mono ?_
    rintro r w2 ⟨rfl, hb⟩
    have HBL := Lib.hid (HB1.out.trans (hb.mono HB1.out.size))
    have z2' := (hb.cell (p := ⟨w.heap.size, 2, none⟩) (by have := HB1.out.size; show w.heap.size < w1.heap.size; omega)).trans x2'
    clear hb x0' x1' x2'
    cases b2
    · obtain rfl : R = false := HR2.out
      go_wp2_with fail
      go_loopw [3, 4, 5] (fun ok i _ wr => ok = .bool false ∧ i = .int .i64 0 ∧ Below W0.heap.size W0 wr) (fun _ _ _ _ => 0)
      case atStart => exact ⟨rfl, rfl, HBL.out⟩
      case round =>
        obtain ⟨rfl, rfl, hb⟩ := hrel
        have y2 := (hb.cell (p := ⟨w.heap.size, 2, none⟩) hz0).trans x2
        have HZ := Lib.hid (HB.out.1.trans (hb.mono HB.out.1.size))
        clear hb
        by_cases hn0 : 0 < n3
        · have j0 : (0 : Int) < (n3 : Int) := by omega
          go_wp2
          go_ret
          exact ⟨rfl, HZ.out⟩
        · have j0 : decide ((0 : Int) < (n3 : Int)) = false := by simp; omega
          go_wp2
          go_ret
          exact ⟨rfl, HZ.out⟩
    have HR3 := Lib.hid (show R = rs.all rightR from HR2.out)
    go_wp2_with fail
    go_loopw [3, 4, 5] (fun ok i _ wr => ∃ k : Nat, i = .int .i64 k ∧ k ≤ n3 ∧ ok = .bool ((rs.take k).all rightR) ∧ Below W0.heap.size W0 wr) (fun _ i _ _ => n3 - (RowKit.intOf i).toNat)
    case atStart => exact ⟨0, rfl, Nat.zero_le _, by rw [List.take_zero]; rfl, HBL.out⟩
    case round =>
      obtain ⟨k, rfl, hkn, rfl, hb⟩ := hrel
      have y2 := (hb.cell (p := ⟨w.heap.size, 2, none⟩) hz0).trans x2
      obtain ⟨q, hq⟩ : ∃ q, (rs.take k).all rightR = q := ⟨_, rfl⟩
      rw [hq]
      by_cases hlt : k < n3
      · have i1 : (k : Int) < (n3 : Int) := by omega
        cases q
        · obtain rfl : R = false := by rw [HR3.out]; exact rule_stop hq
          have HZ := Lib.hid (HB.out.1.trans (hb.mono HB.out.1.size))
          clear hb hq z2'
          go_wp2
          go_ret
          exact ⟨rfl, HZ.out⟩
        obtain ⟨x, hx⟩ : ∃ x, rs[k]? = some x := ⟨rs[k]'(by rw [HN.out]; exact hlt), List.getElem?_eq_getElem _⟩
        have hs := rule_take hx
        rw [hq, Bool.true_and] at hs
        obtain ⟨b, o, rfl, hbl, hr⟩ := (H3.out.on hb).r (by rintro rfl; simp at hx)
        obtain ⟨B1, e1, B2, e2, ⟨k0, k1, k2, k3, k4, k5, k6⟩, hv⟩ := hr k x hx
        obtain ⟨B1', e1', B2', e2', he, hl1, hl2⟩ := hv
        obtain ⟨wr', hwr'⟩ : ∃ W, wr.alloc (.cells #[.int .i64 x.l.k, .int .i64 x.l.c, .slice B1 x.l.ks.length e1, .int .i64 x.r.k, .int .i64 x.r.c, .slice B2 x.r.ks.length e2, .bool x.b] 106) = W := ⟨_, rfl⟩
        have he' : B1 = B1' ∧ e1 = e1' ∧ B2 = B2' ∧ e2 = e2' := by simp at he; exact ⟨he.1.1, he.1.2, he.2.1, he.2.2⟩
        obtain ⟨rfl, rfl, rfl, rfl⟩ := he'
        have hbw : Below wr.heap.size wr wr' := by rw [← hwr']; exact below_new _ _
        have hbox : Cells wr' wr.heap.size 106 #[.int .i64 x.l.k, .int .i64 x.l.c, .slice B1 x.l.ks.length e1, .int .i64 x.r.k, .int .i64 x.r.c, .slice B2 x.r.ks.length e2, .bool x.b] := by rw [← hwr']; exact World.alloc_heap_new _ _
        have K1 := Lib.hid (refRight_any x.l _ wr' (hl1.on hbw))
        have K2 := Lib.hid (fun W (hB : Below wr'.heap.size wr' W) => refRight_any x.r _ W ((hl2.on hbw).on hB))
        have K3 := Lib.hid (fun (hrr : rightE x.r = true) W (hB : Below wr'.heap.size wr' W) => wrong_any x.r (by have := right_size hrr; omega) (right_good9 hrr) _ W ((hl2.on hbw).on hB))
        have hRX : rightR x = (rightE x.l && (rightE x.r && decide (faultE x.r = 0))) := rfl
        have hWF := @wrong_fault x.r
        rw [hRX] at hs
        have hbz : Below W0.heap.size W0 wr' := hb.trans (hbw.mono hb.size)
        have HS := Lib.hid hs
        have HBX := Lib.hid (And.intro hbox (And.intro hbz hlt))
        have HWR := Lib.hid hwr'
        have HWF := Lib.hid hWF
        generalize rightE x.l = g1 at *
        generalize rightE x.r = g2 at *
        generalize faultE x.r = ft at *
        generalize wrongE x.r = wt at *
        generalize x.l.ks.length = m1 at *
        generalize x.r.ks.length = m2 at *
        generalize x.l.k = f1 at *
        generalize x.r.k = f2 at *
        generalize x.l.c = f3 at *
        generalize x.r.c = f4 at *
        generalize x.b = f5 at *
        clear hs hbox hbz hwr' hWF hRX hl1 hl2 he hr hbl hb hbw hx hq z2'
        go_wp2_with fail
        rw [HWR.out]
        refine K1.out.mono ?_
        rintro r u1 ⟨rfl, hu⟩
        have HU1 := Lib.hid hu
        have d := cells_below HBX.out.1 hu
        have HD := Lib.hid d
        have v3 := d.cell 3
        have v4 := d.cell 4
        have v5 := d.cell 5
        simp only [List.getElem?_toArray, List.getElem?_cons_zero, List.getElem?_cons_succ] at v3 v4 v5
        clear hu d k0 k1 k2 k3 k4 k5 k6
        cases g1
        · have HE := Lib.hid (And.intro HS.out (HBX.out.2.1.trans (HU1.out.mono HBX.out.2.1.size)))
          go_wp2
          go_roundw
          case rel => exact ⟨k + 1, by go_num, by have := HBX.out.2.2; omega, by rw [HE.out.1]; rfl, HE.out.2⟩
          case measure => have := HBX.out.2.2; simp [RowKit.intOf]; omega
        go_wp2_with fail
        refine (K2.out u1 HU1.out).mono ?_
        rintro r u2 ⟨rfl, hu⟩
        have HU2 := Lib.hid (HU1.out.trans (hu.mono HU1.out.size))
        have d := cells_below HD.out hu
        clear v3 v4 v5
        have v3 := d.cell 3
        have v4 := d.cell 4
        have v5 := d.cell 5
        simp only [List.getElem?_toArray, List.getElem?_cons_zero, List.getElem?_cons_succ] at v3 v4 v5
        clear hu d
        cases g2
        · have HE := Lib.hid (And.intro HS.out (HBX.out.2.1.trans (HU2.out.mono HBX.out.2.1.size)))
          go_wp2
          go_roundw
          case rel => exact ⟨k + 1, by go_num, by have := HBX.out.2.2; omega, by rw [HE.out.1]; rfl, HE.out.2⟩
          case measure => have := HBX.out.2.2; simp [RowKit.intOf]; omega
        have K4 := Lib.hid (K3.out (by first | rfl | trivial) u2 HU2.out)
        have hwf := HWF.out (by first | rfl | trivial)
        subst hwf
        go_wp2_with fail
        refine K4.out.mono ?_
        rintro r u3 ⟨rfl, hu⟩
        have hu3 := HU2.out.trans (hu.mono HU2.out.size)
        have HE := Lib.hid (And.intro HS.out (HBX.out.2.1.trans (hu3.mono HBX.out.2.1.size)))
        clear hu hu3
        by_cases hf : wt = 0
        · subst hf
          go_wp2
          go_roundw
          case rel => exact ⟨k + 1, by go_num, by have := HBX.out.2.2; omega, by rw [HE.out.1]; rfl, HE.out.2⟩
          case measure => have := HBX.out.2.2; simp [RowKit.intOf]; omega
        · have qf : (wt == 0) = false := by simpa using hf
          go_wp2
          go_roundw
          case rel => exact ⟨k + 1, by go_num, by have := HBX.out.2.2; omega, by rw [HE.out.1, decide_eq_false hf]; rfl, HE.out.2⟩
          case measure => have := HBX.out.2.2; simp [RowKit.intOf]; omega
      · have hkn : k = n3 := by omega
        subst hkn
        have i1 : ¬ (k : Int) < (k : Int) := by omega
        have ht : rs.take k = rs := by rw [← HN.out, List.take_length]
        rw [ht, ← HR3.out] at hq
        subst hq
        have HZ := Lib.hid (HB.out.1.trans (hb.mono HB.out.1.size))
        clear hb ht z2'
        go_wp2
        go_ret
        exact ⟨rfl, HZ.out⟩
  · have i40 : decide ((n3 : Int) ≤ 40) = false := by simp; omega
    obtain rfl : R = false := by rw [HR.out, HN.out, decide_eq_false h40, Bool.false_and]
    clear h40
    go_enter Try.func50, Try.ntmps50
    go_wp2_with fail
    rw [HW.out]
    have HBL := Lib.hid (Below.refl W0.heap.size W0)
    go_loopw [3, 4, 5] (fun ok i _ wr => ok = .bool false ∧ i = .int .i64 0 ∧ Below W0.heap.size W0 wr) (fun _ _ _ _ => 0)
    case atStart => exact ⟨rfl, rfl, HBL.out⟩
    case round =>
      obtain ⟨rfl, rfl, hb⟩ := hrel
      have y2 := (hb.cell (p := ⟨w.heap.size, 2, none⟩) hz0).trans x2
      have HZ := Lib.hid (HB.out.1.trans (hb.mono HB.out.1.size))
      clear hb
      by_cases hn0 : 0 < n3
      · have j0 : (0 : Int) < (n3 : Int) := by omega
        go_wp2
        go_ret
        exact ⟨rfl, HZ.out⟩
      · have j0 : decide ((0 : Int) < (n3 : Int)) = false := by simp; omega
        go_wp2
        go_ret
        exact ⟨rfl, HZ.out⟩
end Go.Proofs.Ytegkogadceodlaa

namespace Go.Proofs.Ytegkogadceodlaa
open Go.RowKit Go.Shelf Go.Lib

/-- A number's class. -/
def clsI (n : Int) : Int := if n < 0 ∨ 35 < n then 0 else n
theorem refClass_any (n : Int) (w : World) : Calls Try.prog 52 #[.int .i64 n] w fun r w' => r = .returned (.int .i64 (clsI n)) ∧ w' = w := by
  obtain ⟨R, hR⟩ : ∃ R, clsI n = R := ⟨_, rfl⟩
  rw [hR]
  by_cases h0 : n < 0
  · obtain rfl : R = 0 := by rw [← hR]; unfold clsI; rw [if_pos (.inl h0)]
    clear hR
    go_enter Try.func52, Try.ntmps52
    go_wp2
    go_ret
    exact ⟨rfl, rfl⟩
  · have h0' : decide (n < 0) = false := by simp; omega
    by_cases h1 : 35 < n
    · obtain rfl : R = 0 := by rw [← hR]; unfold clsI; rw [if_pos (.inr h1)]
      clear hR
      go_enter Try.func52, Try.ntmps52
      go_wp2
      go_ret
      exact ⟨rfl, rfl⟩
    · have h1' : decide (35 < n) = false := by simp; omega
      obtain rfl : R = n := by rw [← hR]; unfold clsI; rw [if_neg (by omega)]
      clear hR
      go_enter Try.func52, Try.ntmps52
      go_wp2
      go_ret
      exact ⟨rfl, rfl⟩
theorem class_any (n : Int) (w : World) : Calls Try.prog 78 #[.int .i64 n] w fun r w' => r = .returned (.int .i64 (clsI n)) ∧ w' = w := by
  obtain ⟨R, hR⟩ : ∃ R, clsI n = R := ⟨_, rfl⟩
  rw [hR]
  by_cases h0 : n < 0
  · obtain rfl : R = 0 := by rw [← hR]; unfold clsI; rw [if_pos (.inl h0)]
    clear hR
    go_enter Try.func78, Try.ntmps78
    go_wp2
    go_ret
    exact ⟨rfl, rfl⟩
  · have h0' : decide (n < 0) = false := by simp; omega
    by_cases h1 : 36 ≤ n
    · obtain rfl : R = 0 := by rw [← hR]; unfold clsI; rw [if_pos (.inr (by omega))]
      clear hR
      go_enter Try.func78, Try.ntmps78
      go_wp2
      go_ret
      exact ⟨rfl, rfl⟩
    · have h1' : decide (36 ≤ n) = false := by simp; omega
      obtain rfl : R = n := by rw [← hR]; unfold clsI; rw [if_neg (by omega)]
      clear hR
      go_enter Try.func78, Try.ntmps78
      go_wp2
      go_ret
      exact ⟨rfl, rfl⟩

set_option maxHeartbeats 2000000 in
theorem in_any (xs : List Int) (v : Int) (A : Option Addr) (cap : Nat) (w : World) (h : IS w w.heap.size xs A cap) :
    Calls Try.prog 53 #[.slice A xs.length cap, .int .i64 v] w fun r w' => r = .returned (.bool (xs.contains v)) ∧ w' = w := by
  have hl := h.len
  obtain ⟨R, hR⟩ : ∃ R, xs.contains v = R := ⟨_, rfl⟩
  obtain ⟨n, hn⟩ : ∃ n, xs.length = n := ⟨_, rfl⟩
  rw [hn] at hl ⊢
  rw [hR]
  have HR := Lib.hid hR
  have HK := Lib.hid h
  have HN := Lib.hid hn
  clear h hn hR
  go_enter Try.func53, Try.ntmps53
  go_wp2_with fail
  go_loopw [5] (fun i wr => ∃ k : Nat, i = .int .i64 k ∧ k ≤ n ∧ v ∉ xs.take k ∧ wr = w) (fun i _ => n - (RowKit.intOf i).toNat)
  case atStart => exact ⟨0, rfl, Nat.zero_le _, by simp, rfl⟩
  case round =>
    obtain ⟨k, rfl, hkn, hno, rfl⟩ := hrel
    by_cases hlt : k < n
    · obtain ⟨x, hx⟩ : ∃ x, xs[k]? = some x := ⟨xs[k]'(by rw [HN.out]; exact hlt), List.getElem?_eq_getElem _⟩
      have i1 : (k : Int) < (n : Int) := by omega
      obtain ⟨b, o, rfl, hbl, hr⟩ := HK.out.r (by rintro rfl; simp at hx)
      have d0 := hr k x hx
      by_cases hv : v = x
      · subst hv
        have hm := List.mem_of_getElem? hx
        obtain rfl : R = true := by rw [← HR.out]; simpa using hm
        clear hr hno hx hm
        go_wp2
        go_ret
        exact ⟨rfl, rfl⟩
      · have q1 : (x == v) = false := by simpa using fun e => hv e.symm
        have hno' : v ∉ xs.take (k + 1) := by rw [List.take_add_one, hx]; simp [hno, hv]
        have HZ := Lib.hid hno'
        clear hr hno hno' hx hv
        go_wp2
        go_roundw
        case rel => exact ⟨k + 1, by go_num, by omega, HZ.out, trivial⟩
        case measure => simp [RowKit.intOf]; omega
    · have hkn : k = n := by omega
      subst hkn
      have i1 : ¬ (k : Int) < (k : Int) := by omega
      have ht : xs.take k = xs := by rw [← HN.out, List.take_length]
      rw [ht] at hno
      obtain rfl : R = false := by rw [← HR.out]; simpa using hno
      clear hno ht
      go_wp2
      go_ret
      exact ⟨rfl, rfl⟩

theorem cells_frozen {W : World} {g t : Nat} {cs : Array Value} (h : Cells W g t cs) (i : Nat) : W.frozen? ⟨g, i, none⟩ = false := by
  simp [World.frozen?, show W.heap[g]? = _ from h]
/-- A meaning, or none. -/
def knownT (t : Tx) : Tx := if rightT t then t else ⟨[], [], []⟩
theorem tx_none (w : World) : TxV w w.heap.size ⟨[], [], []⟩ (.agg #[.slice none 0 0, .slice none 0 0, .slice none 0 0]) :=
  ⟨none, 0, none, 0, none, 0, rfl, ⟨Nat.le_refl _, by unfold maxLen; omega, fun x hx => by simp at hx, fun h => absurd rfl h⟩, ⟨Nat.le_refl _, by unfold maxLen; omega, fun x hx => by simp at hx, fun h => absurd rfl h⟩, ⟨Nat.le_refl _, by unfold maxLen; omega, fun h => absurd rfl h⟩⟩
set_option maxHeartbeats 4000000 in
theorem known_any (t : Tx) (v : Value) (w : World) (h : TxV w w.heap.size t v) :
    Calls Try.prog 30 #[v] w fun r w' => (∃ v', r = .returned v' ∧ TxV w' w'.heap.size (knownT t) v') ∧ Below w.heap.size w w' := by
  have h' := h
  obtain ⟨A1, c1, A2, c2, A3, c3, rfl, _, _, _⟩ := h'
  obtain ⟨W0, hW0⟩ : ∃ W0, (w.alloc (.cells #[.slice A1 t.ig.length c1, .slice A2 t.kp.length c2, .slice A3 t.rs.length c3] 50)).alloc (.cells #[.slice none 0 0, .slice none 0 0, .slice none 0 0] 50) = W0 := ⟨_, rfl⟩
  have hb0 : Below w.heap.size w W0 := by rw [← hW0]; exact ((Below.refl _ w).alloc (Nat.le_refl _) _).alloc (by simp) _
  have hx1 : Cells W0 w.heap.size 50 #[.slice A1 t.ig.length c1, .slice A2 t.kp.length c2, .slice A3 t.rs.length c3] := by
    rw [← hW0]; exact (Below.heap_alloc _ _ _ (by simp)).trans (World.alloc_heap_new _ _)
  have hx2 : Cells W0 (w.heap.size + 1) 50 #[.slice none 0 0, .slice none 0 0, .slice none 0 0] := by
    rw [← hW0]
    have := World.alloc_heap_new (w.alloc (.cells #[.slice A1 t.ig.length c1, .slice A2 t.kp.length c2, .slice A3 t.rs.length c3] 50)) (.cells #[.slice none 0 0, .slice none 0 0, .slice none 0 0] 50)
    rw [World.size_alloc] at this
    exact this
  have C := Lib.hid (refRightT_any t _ W0 (h.on hb0))
  have HW := Lib.hid hW0
  have HH := Lib.hid (And.intro h (And.intro hb0 (And.intro hx1 hx2)))
  have hR : knownT t = if rightT t then t else ⟨[], [], []⟩ := rfl
  have HR := Lib.hid hR
  generalize rightT t = b at *
  generalize t.ig.length = n1 at *
  generalize t.kp.length = n2 at *
  generalize t.rs.length = n3 at *
  clear h hW0 hb0 hR hx1 hx2
  go_enter Try.func30, Try.ntmps30
  go_wp2_with fail
  rw [HW.out]
  refine C.out.mono ?_
  rintro r w1 ⟨rfl, hb⟩
  have d := cells_below HH.out.2.2.1 hb
  have d' := cells_below HH.out.2.2.2 hb
  have x0 := d.cell 0
  have x1 := d.cell 1
  have x2 := d.cell 2
  have y0 := d'.cell 0
  have y1 := d'.cell 1
  have y2 := d'.cell 2
  simp only [List.getElem?_toArray, List.getElem?_cons_zero, List.getElem?_cons_succ] at x0 x1 x2 y0 y1 y2
  have z0 := cells_frozen d' 0
  have z1 := cells_frozen d' 1
  have z2 := cells_frozen d' 2
  have hbz := HH.out.2.1.trans (hb.mono HH.out.2.1.size)
  have HB := Lib.hid hbz
  clear hb d d' hbz
  cases b
  · have hk : knownT t = ⟨[], [], []⟩ := HR.out
    have HK := Lib.hid hk
    clear hk
    go_wp2
    have q0 := World.cell?_setCell_same' w1 ⟨w.heap.size + 1, 0, none⟩ (.slice none 0 0) (by rw [y0]; rfl)
    obtain ⟨F, hF⟩ : ∃ F, ((w1.setCell ⟨w.heap.size + 1, 0, none⟩ (.slice none 0 0)).setCell ⟨w.heap.size + 1, 1, none⟩ (.slice none 0 0)).setCell ⟨w.heap.size + 1, 2, none⟩ (.slice none 0 0) = F := ⟨_, rfl⟩
    have e0 : F.cell? ⟨w.heap.size + 1, 0, none⟩ = some (.slice none 0 0) := by rw [← hF, World.cell?_setCell_other _ _ _ _ (by simp), World.cell?_setCell_other _ _ _ _ (by simp)]; exact q0
    have e1 : F.cell? ⟨w.heap.size + 1, 1, none⟩ = some (.slice none 0 0) := by
      rw [← hF, World.cell?_setCell_other _ _ _ _ (by simp)]
      exact World.cell?_setCell_same' _ _ _ (by rw [World.cell?_setCell_other _ _ _ _ (by simp), y1]; rfl)
    have e2 : F.cell? ⟨w.heap.size + 1, 2, none⟩ = some (.slice none 0 0) := by
      rw [← hF]
      exact World.cell?_setCell_same' _ _ _ (by rw [World.cell?_setCell_other _ _ _ _ (by simp), World.cell?_setCell_other _ _ _ _ (by simp), y2]; rfl)
    have hbF : Below w.heap.size w F := by
      rw [← hF]
      exact ((HB.out.setCell (p := ⟨w.heap.size + 1, 0, none⟩) (by simp) _).setCell (p := ⟨w.heap.size + 1, 1, none⟩) (by simp) _).setCell (p := ⟨w.heap.size + 1, 2, none⟩) (by simp) _
    rw [hF]
    refine bodyPost_ret (v := .agg #[.slice none 0 0, .slice none 0 0, .slice none 0 0]) (by simp [results, Try.f30, go_sem, e0, e1, e2]) rfl ?_
    refine ⟨⟨_, rfl, ?_⟩, hbF⟩
    rw [HK.out]
    exact tx_none F
  · have hk : knownT t = t := HR.out
    have HK := Lib.hid hk
    clear hk
    go_wp2
    have q0 := World.cell?_setCell_same' w1 ⟨w.heap.size + 1, 0, none⟩ (.slice A1 n1 c1) (by rw [y0]; rfl)
    obtain ⟨F, hF⟩ : ∃ F, ((w1.setCell ⟨w.heap.size + 1, 0, none⟩ (.slice A1 n1 c1)).setCell ⟨w.heap.size + 1, 1, none⟩ (.slice A2 n2 c2)).setCell ⟨w.heap.size + 1, 2, none⟩ (.slice A3 n3 c3) = F := ⟨_, rfl⟩
    have e0 : F.cell? ⟨w.heap.size + 1, 0, none⟩ = some (.slice A1 n1 c1) := by rw [← hF, World.cell?_setCell_other _ _ _ _ (by simp), World.cell?_setCell_other _ _ _ _ (by simp)]; exact q0
    have e1 : F.cell? ⟨w.heap.size + 1, 1, none⟩ = some (.slice A2 n2 c2) := by
      rw [← hF, World.cell?_setCell_other _ _ _ _ (by simp)]
      exact World.cell?_setCell_same' _ _ _ (by rw [World.cell?_setCell_other _ _ _ _ (by simp), y1]; rfl)
    have e2 : F.cell? ⟨w.heap.size + 1, 2, none⟩ = some (.slice A3 n3 c3) := by
      rw [← hF]
      exact World.cell?_setCell_same' _ _ _ (by rw [World.cell?_setCell_other _ _ _ _ (by simp), World.cell?_setCell_other _ _ _ _ (by simp), y2]; rfl)
    have hbF : Below w.heap.size w F := by
      rw [← hF]
      exact ((HB.out.setCell (p := ⟨w.heap.size + 1, 0, none⟩) (by simp) _).setCell (p := ⟨w.heap.size + 1, 1, none⟩) (by simp) _).setCell (p := ⟨w.heap.size + 1, 2, none⟩) (by simp) _
    rw [hF]
    refine bodyPost_ret (v := .agg #[.slice A1 n1 c1, .slice A2 n2 c2, .slice A3 n3 c3]) (by simp [results, Try.f30, go_sem, e0, e1, e2]) rfl ?_
    refine ⟨⟨_, rfl, ?_⟩, hbF⟩
    rw [HK.out]
    exact HH.out.1.on hbF
end Go.Proofs.Ytegkogadceodlaa

namespace Go.Proofs.Ytegkogadceodlaa
open Go.RowKit Go.Shelf Go.Lib

theorem own_form {w : World} {base e n : Nat} {v : Value} {xs : List Value} (h : w.ownsRow base e 1 v n xs) : ∃ A c, v = .slice A n c := by
  rcases h.2 with ⟨h1, h2⟩ | ⟨g, cap, cur, h1, _⟩
  · exact ⟨none, 0, by rw [h1, h2]⟩
  · exact ⟨_, _, h1⟩
theorem info_1 {t b : Nat} (h : (Try.prog.info? t).map (fun i => (i.zero.map (fun z => z.cells.size), i.size, i.bytes)) = some (some 1, 1, b)) : ∃ i z, Try.prog.info? t = some i ∧ i.zero = some z ∧ i.size = 1 ∧ i.bytes = b ∧ z.cells.size = 1 := by
  cases e : Try.prog.info? t with
  | none => rw [e] at h; simp at h
  | some i =>
    rw [e] at h
    cases e2 : i.zero with
    | none => simp [e2] at h
    | some z =>
      simp [e2] at h
      exact ⟨i, z, rfl, e2, h.2.1, h.2.2, h.1⟩
theorem info4 : (Try.prog.info? 4).map (fun i => (i.zero.map (fun z => z.cells.size), i.size, i.bytes)) = some (some 1, 1, 1) := by kernel_rfl
theorem info3 : (Try.prog.info? 3).map (fun i => (i.zero.map (fun z => z.cells.size), i.size, i.bytes)) = some (some 1, 1, 8) := by kernel_rfl
/-- One element more, of one cell. -/
theorem wpList_app1 {ops : Array Oper} {rest : List Oper} {o : Oper} {a : Act} {w : World} {Q : Exit → Act → World → Prop} {e sl b : Nat} (hsl : Try.prog.underlying sl = some (.slice e))
    (hin : (Try.prog.info? e).map (fun i => (i.zero.map (fun z => z.cells.size), i.size, i.bytes)) = some (some 1, 1, b)) (hb16 : b ≤ 16) (hgd : o.guard = none) (s x : Operand)
    (ho : o.op = .call { callee := .builtin .append, args := #[s, x], argTypes := #[sl, sl] }) (base : Nat) (v : Value) (n : Nat) (l : List Value) (u : Value) (hu : u.oneCell' = true) (hs : a.eval s = v) (w0 : World) (h0 : w0.ownsRow base e 1 v n l) (hw0 : w0.alloc (.cells #[u] e) = w)
    (hx : a.eval x = .slice (some ⟨w0.heap.size, 0, none⟩) 1 1) (h63 : n ≤ 1000000) (hbase : base ≤ w0.heap.size)
    (h : ∀ g cap w', w'.ownsRow base e 1 (.slice (some ⟨g, 0, none⟩) (n + 1) cap) (n + 1) (l ++ [u]) → w0.grownBy w' v.ownBlock → (v.ownBlock = some g ∨ w0.heap.size ≤ g) → g < w'.heap.size → wpList Try.prog ops Q rest (a.put o.dst (.slice (some ⟨g, 0, none⟩) (n + 1) cap)) w') : wpList Try.prog ops Q (o :: rest) a w := by
  obtain ⟨i, z, hi, hz, hs1, hb1, hz1⟩ := info_1 hin
  subst hw0
  have al := below_new w0 (.cells #[u] e)
  have hown := ownsRow_below h0 al
  have hsz : base ≤ (w0.alloc (.cells #[u] e)).heap.size := by rw [World.size_alloc]; omega
  have hbb : (n + 1) * b ≤ 140737488355328 := Nat.le_trans (Nat.mul_le_mul (Nat.le_refl _) hb16) (by omega)
  refine wpList_append_lies _ hgd s x sl ho base e i _ 1 b hsl hi hz hs1 hb1 hz1 (by decide) v n l hs hown ⟨w0.heap.size, 0, none⟩ 1 1 [u] hx rfl (fun j y hj => ?_) (fun y hy => ?_) (by decide) (by unfold maxLen; omega) hbb hsz _ rfl ?_
  · match j, hj with
    | 0, hj =>
      simp at hj
      subst hj
      rw [add0]
      exact (cells_new w0 #[u] e).cell 0
  · simp at hy
    subst hy
    exact hu
  · intro g cap w' h1 h2 h3 h4
    refine h g cap w' h1 ⟨h2.os, h2.tape, h2.output, by have := h2.size; rw [World.size_alloc] at this; omega, fun k hk hn => (h2.block k (by rw [World.size_alloc]; omega) hn).trans (al.block k hk)⟩ ?_ h4
    rcases h3 with h3 | h3
    · exact .inl h3
    · exact .inr (by rw [h3, World.size_alloc]; omega)
def bL (l : List Bool) : List Value := l.map Value.bool
def iL (l : List Int) : List Value := l.map (Value.int .i64)
/-- A reading: the rules' row left alone (O: blocks that nothing here touches). -/
structure RdA (w : World) (base x : Nat) (O : Nat → Prop) (rv : Value) (hs : List Bool) (ms ps : List Int) (vh vm vp : Value) : Prop where
  c : Cells w x 109 #[rv, vh, vm, vp]
  bx : base ≤ x
  oh : w.ownsRow base 4 1 vh hs.length (bL hs)
  om : w.ownsRow base 3 1 vm ms.length (iL ms)
  op : w.ownsRow base 3 1 vp ps.length (iL ps)
  xh : vh.ownBlock ≠ some x
  xm : vm.ownBlock ≠ some x
  xp : vp.ownBlock ≠ some x
  hm : ∀ k, vh.ownBlock = some k → vm.ownBlock ≠ some k
  hp : ∀ k, vh.ownBlock = some k → vp.ownBlock ≠ some k
  mp : ∀ k, vm.ownBlock = some k → vp.ownBlock ≠ some k
  ap : ∀ k, O k → k ≠ x ∧ vh.ownBlock ≠ some k ∧ vm.ownBlock ≠ some k ∧ vp.ownBlock ≠ some k ∧ k < w.heap.size
  i : ∀ z ∈ ms, i64 z
theorem set_own {w : World} {base e n x j : Nat} {v u : Value} {xs : List Value} (h : w.ownsRow base e 1 v n xs) (hx : v.ownBlock ≠ some x) : (w.setCell ⟨x, j, none⟩ u).ownsRow base e 1 v n xs :=
  h.kept (row := some x) ⟨rfl, rfl, rfl, by simp, fun k _ hk => Below.heap_setCell _ _ _ _ (fun e => hk (by rw [e]))⟩ (.inr hx)
/-- The slot of one of its rows anew. -/
theorem RdA.fz {w w1 : World} {base x j : Nat} {O : Nat → Prop} {v u : Value} (hbx : base ≤ x) (hox : ¬ O x) (hbv : ∀ k, v.ownBlock = some k → base ≤ k ∧ ¬ O k) (hg : w.grownBy w1 v.ownBlock) : Fz (fun k => base ≤ k ∧ ¬ O k) w (w1.setCell ⟨x, j, none⟩ u) :=
  (Fz.of_grown hg hbv).trans (Fz.set w1 x j u ⟨hbx, hox⟩)
theorem RdA.nO {w : World} {base x : Nat} {O : Nat → Prop} {rv : Value} {hs : List Bool} {ms ps : List Int} {vh vm vp : Value} (h : RdA w base x O rv hs ms ps vh vm vp) : ¬ O x := fun ho => (h.ap x ho).1 rfl
theorem RdA.appH {w w1 : World} {base x : Nat} {O : Nat → Prop} {rv : Value} {hs : List Bool} {ms ps : List Int} {vh vm vp : Value} (h : RdA w base x O rv hs ms ps vh vm vp) {g cap : Nat} (b : Bool) (ho : w1.ownsRow base 4 1 (.slice (some ⟨g, 0, none⟩) (hs.length + 1) cap) (hs.length + 1) (bL hs ++ [.bool b])) (hg : w.grownBy w1 vh.ownBlock) (hn : vh.ownBlock = some g ∨ w.heap.size ≤ g) :
    RdA (w1.setCell ⟨x, 1, none⟩ (.slice (some ⟨g, 0, none⟩) (hs.length + 1) cap)) base x O rv (hs ++ [b]) ms ps (.slice (some ⟨g, 0, none⟩) (hs.length + 1) cap) vm vp ∧ Fz (fun k => base ≤ k ∧ ¬ O k) w (w1.setCell ⟨x, 1, none⟩ (.slice (some ⟨g, 0, none⟩) (hs.length + 1) cap)) := by
  have hxl := h.c.lt
  have hsz := hg.size
  have lv := own_block_lt h.oh
  have l1 := own_block_lt h.om
  have l2 := own_block_lt h.op
  have d1 : ∀ k, vh.ownBlock = some k → vm.ownBlock ≠ some k := h.hm
  have d2 : ∀ k, vh.ownBlock = some k → vp.ownBlock ≠ some k := h.hp
  have hgx : g ≠ x := by
    rcases hn with hn | hn
    · intro e; exact h.xh (by rw [hn, e])
    · omega
  have key : ∀ k, (Value.slice (some ⟨g, 0, none⟩) (hs.length + 1) cap).ownBlock = some k → k = g := fun k e => by simpa [Value.ownBlock, eq_comm] using e
  have hc1 : Cells w1 x 109 #[rv, vh, vm, vp] := (hg.block x hxl (fun e => h.xh e.symm)).trans h.c
  have kp : ∀ v' : Value, (∀ k, vh.ownBlock = some k → v'.ownBlock ≠ some k) → v'.ownBlock = none ∨ v'.ownBlock ≠ vh.ownBlock := fun v' hv => by
    cases e : v'.ownBlock with
    | none => exact .inl rfl
    | some k => exact .inr (fun e2 => hv k e2.symm e)
  have ng : ∀ v' : Value, (∀ k, vh.ownBlock = some k → v'.ownBlock ≠ some k) → (∀ k, v'.ownBlock = some k → base ≤ k ∧ k < w.heap.size) → v'.ownBlock ≠ some g := fun v' hv hl e => by
    rcases hn with hn | hn
    · exact hv g hn e
    · have := (hl g e).2; omega
  have nO : ∀ k, O k → k ≠ g := fun k ho e => by
    rcases hn with hn | hn
    · exact (h.ap k ho).2.1 (by rw [hn, e])
    · have := (h.ap k ho).2.2.2.2; omega
  have o1 := set_own (j := 1) (u := .slice (some ⟨g, 0, none⟩) (hs.length + 1) cap) (x := x) ho (fun e => hgx (key _ e).symm)
  have o2 := set_own (j := 1) (u := .slice (some ⟨g, 0, none⟩) (hs.length + 1) cap) (h.om.kept hg (kp _ d1)) h.xm
  have o3 := set_own (j := 1) (u := .slice (some ⟨g, 0, none⟩) (hs.length + 1) cap) (h.op.kept hg (kp _ d2)) h.xp
  have e1 := ng _ d1 l1
  have e2 := ng _ d2 l2
  refine ⟨⟨by simpa using hc1.set 1 (.slice (some ⟨g, 0, none⟩) (hs.length + 1) cap), h.bx, by unfold bL at o1 ⊢; rw [List.map_append, List.length_append]; exact o1, o2, o3, (fun e => hgx (key _ e).symm), h.xm, h.xp, fun k e => by rw [key k e]; exact e1, fun k e => by rw [key k e]; exact e2, h.mp, fun k ho => ⟨(h.ap k ho).1, fun e => nO k ho (key _ e), (h.ap k ho).2.2.1, (h.ap k ho).2.2.2.1, by have := (h.ap k ho).2.2.2.2; simp; omega⟩, h.i⟩, RdA.fz h.bx h.nO (fun k e => ⟨(lv k e).1, fun ho => (h.ap k ho).2.1 e⟩) hg⟩
theorem RdA.appM {w w1 : World} {base x : Nat} {O : Nat → Prop} {rv : Value} {hs : List Bool} {ms ps : List Int} {vh vm vp : Value} (h : RdA w base x O rv hs ms ps vh vm vp) {g cap : Nat} (b : Int) (hb : i64 b) (ho : w1.ownsRow base 3 1 (.slice (some ⟨g, 0, none⟩) (ms.length + 1) cap) (ms.length + 1) (iL ms ++ [.int .i64 b])) (hg : w.grownBy w1 vm.ownBlock) (hn : vm.ownBlock = some g ∨ w.heap.size ≤ g) :
    RdA (w1.setCell ⟨x, 2, none⟩ (.slice (some ⟨g, 0, none⟩) (ms.length + 1) cap)) base x O rv hs (ms ++ [b]) ps vh (.slice (some ⟨g, 0, none⟩) (ms.length + 1) cap) vp ∧ Fz (fun k => base ≤ k ∧ ¬ O k) w (w1.setCell ⟨x, 2, none⟩ (.slice (some ⟨g, 0, none⟩) (ms.length + 1) cap)) := by
  have hxl := h.c.lt
  have hsz := hg.size
  have lv := own_block_lt h.om
  have l1 := own_block_lt h.oh
  have l2 := own_block_lt h.op
  have d1 : ∀ k, vm.ownBlock = some k → vh.ownBlock ≠ some k := fun k e e2 => h.hm k e2 e
  have d2 : ∀ k, vm.ownBlock = some k → vp.ownBlock ≠ some k := h.mp
  have hgx : g ≠ x := by
    rcases hn with hn | hn
    · intro e; exact h.xm (by rw [hn, e])
    · omega
  have key : ∀ k, (Value.slice (some ⟨g, 0, none⟩) (ms.length + 1) cap).ownBlock = some k → k = g := fun k e => by simpa [Value.ownBlock, eq_comm] using e
  have hc1 : Cells w1 x 109 #[rv, vh, vm, vp] := (hg.block x hxl (fun e => h.xm e.symm)).trans h.c
  have kp : ∀ v' : Value, (∀ k, vm.ownBlock = some k → v'.ownBlock ≠ some k) → v'.ownBlock = none ∨ v'.ownBlock ≠ vm.ownBlock := fun v' hv => by
    cases e : v'.ownBlock with
    | none => exact .inl rfl
    | some k => exact .inr (fun e2 => hv k e2.symm e)
  have ng : ∀ v' : Value, (∀ k, vm.ownBlock = some k → v'.ownBlock ≠ some k) → (∀ k, v'.ownBlock = some k → base ≤ k ∧ k < w.heap.size) → v'.ownBlock ≠ some g := fun v' hv hl e => by
    rcases hn with hn | hn
    · exact hv g hn e
    · have := (hl g e).2; omega
  have nO : ∀ k, O k → k ≠ g := fun k ho e => by
    rcases hn with hn | hn
    · exact (h.ap k ho).2.2.1 (by rw [hn, e])
    · have := (h.ap k ho).2.2.2.2; omega
  have o1 := set_own (j := 2) (u := .slice (some ⟨g, 0, none⟩) (ms.length + 1) cap) (x := x) ho (fun e => hgx (key _ e).symm)
  have o2 := set_own (j := 2) (u := .slice (some ⟨g, 0, none⟩) (ms.length + 1) cap) (h.oh.kept hg (kp _ d1)) h.xh
  have o3 := set_own (j := 2) (u := .slice (some ⟨g, 0, none⟩) (ms.length + 1) cap) (h.op.kept hg (kp _ d2)) h.xp
  have e1 := ng _ d1 l1
  have e2 := ng _ d2 l2
  refine ⟨⟨by simpa using hc1.set 2 (.slice (some ⟨g, 0, none⟩) (ms.length + 1) cap), h.bx, o2, by unfold iL at o1 ⊢; rw [List.map_append, List.length_append]; exact o1, o3, h.xh, (fun e => hgx (key _ e).symm), h.xp, fun k e e2 => e1 (by rw [← key k e2]; exact e), h.hp, fun k e => by rw [key k e]; exact e2, fun k ho => ⟨(h.ap k ho).1, (h.ap k ho).2.1, fun e => nO k ho (key _ e), (h.ap k ho).2.2.2.1, by have := (h.ap k ho).2.2.2.2; simp; omega⟩, fun z hz => (List.mem_append.1 hz).elim (h.i z) (fun hz => by simp at hz; rw [hz]; exact hb)⟩, RdA.fz h.bx h.nO (fun k e => ⟨(lv k e).1, fun ho => (h.ap k ho).2.2.1 e⟩) hg⟩
theorem RdA.appP {w w1 : World} {base x : Nat} {O : Nat → Prop} {rv : Value} {hs : List Bool} {ms ps : List Int} {vh vm vp : Value} (h : RdA w base x O rv hs ms ps vh vm vp) {g cap : Nat} (b : Int) (ho : w1.ownsRow base 3 1 (.slice (some ⟨g, 0, none⟩) (ps.length + 1) cap) (ps.length + 1) (iL ps ++ [.int .i64 b])) (hg : w.grownBy w1 vp.ownBlock) (hn : vp.ownBlock = some g ∨ w.heap.size ≤ g) :
    RdA (w1.setCell ⟨x, 3, none⟩ (.slice (some ⟨g, 0, none⟩) (ps.length + 1) cap)) base x O rv hs ms (ps ++ [b]) vh vm (.slice (some ⟨g, 0, none⟩) (ps.length + 1) cap) ∧ Fz (fun k => base ≤ k ∧ ¬ O k) w (w1.setCell ⟨x, 3, none⟩ (.slice (some ⟨g, 0, none⟩) (ps.length + 1) cap)) := by
  have hxl := h.c.lt
  have hsz := hg.size
  have lv := own_block_lt h.op
  have l1 := own_block_lt h.oh
  have l2 := own_block_lt h.om
  have d1 : ∀ k, vp.ownBlock = some k → vh.ownBlock ≠ some k := fun k e e2 => h.hp k e2 e
  have d2 : ∀ k, vp.ownBlock = some k → vm.ownBlock ≠ some k := fun k e e2 => h.mp k e2 e
  have hgx : g ≠ x := by
    rcases hn with hn | hn
    · intro e; exact h.xp (by rw [hn, e])
    · omega
  have key : ∀ k, (Value.slice (some ⟨g, 0, none⟩) (ps.length + 1) cap).ownBlock = some k → k = g := fun k e => by simpa [Value.ownBlock, eq_comm] using e
  have hc1 : Cells w1 x 109 #[rv, vh, vm, vp] := (hg.block x hxl (fun e => h.xp e.symm)).trans h.c
  have kp : ∀ v' : Value, (∀ k, vp.ownBlock = some k → v'.ownBlock ≠ some k) → v'.ownBlock = none ∨ v'.ownBlock ≠ vp.ownBlock := fun v' hv => by
    cases e : v'.ownBlock with
    | none => exact .inl rfl
    | some k => exact .inr (fun e2 => hv k e2.symm e)
  have ng : ∀ v' : Value, (∀ k, vp.ownBlock = some k → v'.ownBlock ≠ some k) → (∀ k, v'.ownBlock = some k → base ≤ k ∧ k < w.heap.size) → v'.ownBlock ≠ some g := fun v' hv hl e => by
    rcases hn with hn | hn
    · exact hv g hn e
    · have := (hl g e).2; omega
  have nO : ∀ k, O k → k ≠ g := fun k ho e => by
    rcases hn with hn | hn
    · exact (h.ap k ho).2.2.2.1 (by rw [hn, e])
    · have := (h.ap k ho).2.2.2.2; omega
  have o1 := set_own (j := 3) (u := .slice (some ⟨g, 0, none⟩) (ps.length + 1) cap) (x := x) ho (fun e => hgx (key _ e).symm)
  have o2 := set_own (j := 3) (u := .slice (some ⟨g, 0, none⟩) (ps.length + 1) cap) (h.oh.kept hg (kp _ d1)) h.xh
  have o3 := set_own (j := 3) (u := .slice (some ⟨g, 0, none⟩) (ps.length + 1) cap) (h.om.kept hg (kp _ d2)) h.xm
  have e1 := ng _ d1 l1
  have e2 := ng _ d2 l2
  refine ⟨⟨by simpa using hc1.set 3 (.slice (some ⟨g, 0, none⟩) (ps.length + 1) cap), h.bx, o2, o3, by unfold iL at o1 ⊢; rw [List.map_append, List.length_append]; exact o1, h.xh, h.xm, (fun e => hgx (key _ e).symm), h.hm, fun k e e3 => e1 (by rw [← key k e3]; exact e), fun k e e3 => e2 (by rw [← key k e3]; exact e), fun k ho => ⟨(h.ap k ho).1, (h.ap k ho).2.1, (h.ap k ho).2.2.1, fun e => nO k ho (key _ e), by have := (h.ap k ho).2.2.2.2; simp; omega⟩, h.i⟩, RdA.fz h.bx h.nO (fun k e => ⟨(lv k e).1, fun ho => (h.ap k ho).2.2.2.1 e⟩) hg⟩
theorem RdA.below {w w' : World} {base x : Nat} {O : Nat → Prop} {rv : Value} {hs : List Bool} {ms ps : List Int} {vh vm vp : Value} (h : RdA w base x O rv hs ms ps vh vm vp) (hb : Below w.heap.size w w') : RdA w' base x O rv hs ms ps vh vm vp :=
  ⟨h.c.on hb, h.bx, ownsRow_below h.oh hb, ownsRow_below h.om hb, ownsRow_below h.op hb, h.xh, h.xm, h.xp, h.hm, h.hp, h.mp, fun k ho => by obtain ⟨a1, a2, a3, a4, a5⟩ := h.ap k ho; exact ⟨a1, a2, a3, a4, by have := hb.size; omega⟩, h.i⟩
theorem IS.of_own {w : World} {base : Nat} {xs : List Int} {A : Option Addr} {n c : Nat} (h : w.ownsRow base 3 1 (.slice A n c) xs.length (iL xs)) (hi : ∀ z ∈ xs, i64 z) : n = xs.length ∧ IS w w.heap.size xs A c := by
  have h' := h
  rcases h.2 with ⟨h1, h2⟩ | ⟨g, cap, cur, h1, h2, h3, h4, h5, h6, h7⟩
  · simp only [Value.slice.injEq] at h1
    obtain ⟨_, rfl, rfl⟩ := h1
    have : xs = [] := List.eq_nil_of_length_eq_zero h2
    subst this
    exact ⟨rfl, by simp, by unfold maxLen; omega, hi, fun hne => absurd rfl hne⟩
  · simp only [Value.slice.injEq] at h1
    obtain ⟨rfl, rfl, rfl⟩ := h1
    refine ⟨rfl, h4, h5, hi, fun _ => ⟨g, 0, rfl, (Array.getElem?_eq_some_iff.1 h3).1, fun i x hx => ?_⟩⟩
    have hc := World.ownsRow.cells h' (g := g) rfl i (.int .i64 x) (by simp [iL, hx])
    rw [add0] at hc
    rw [Nat.zero_add]
    exact hc
set_option maxRecDepth 100000 in
set_option maxHeartbeats 8000000 in
theorem add_any (base x : Nat) (O : Nat → Prop) (rv : Value) (hs : List Bool) (ms ps : List Int) (vh vm vp : Value) (c : Int) (ig : List Int) (Ai : Option Addr) (ci : Nat) (kp : List Int) (Ak : Option Addr) (ck : Nat) (l : Int) (w : World)
    (h : RdA w base x O rv hs ms ps vh vm vp) (hi : IS w w.heap.size ig Ai ci) (hk : IS w w.heap.size kp Ak ck) (hl : ms.getLast? = some l) (hc : i64 c) (n1 : hs.length ≤ 1000) (n2 : ms.length ≤ 1000) (n3 : ps.length ≤ 1000) :
    Calls Try.prog 77 #[.pointer (some ⟨x, 0, none⟩), .int .i64 c, .slice Ai ig.length ci, .slice Ak kp.length ck] w fun e w' => e = .returned (.tuple #[]) ∧ ∃ H vh' vm' vp', H = (ig.contains c && (decide (0 < hs.length) && !kp.contains l)) ∧
      RdA w' base x O rv (hs ++ [H]) (if H then ms else ms ++ [c]) (ps ++ [(ms.length : Int)]) vh' vm' vp' ∧ Fz (fun k => base ≤ k ∧ ¬ O k) w w' := by
  obtain ⟨Ah, ch, rfl⟩ := own_form h.oh
  obtain ⟨Am, cm, rfl⟩ := own_form h.om
  obtain ⟨Ap, cp, rfl⟩ := own_form h.op
  have hIm := (IS.of_own h.om h.i).2
  have CC := contains_any ig c Ai ci w hi
  have CH := hides_any x rv (.slice Ap ps.length cp) Ah hs.length ch ms Am cm kp Ak ck l w h.c hIm hk hl (by omega)
  obtain ⟨a1, ha1⟩ : ∃ q, ig.contains c = q := ⟨_, rfl⟩
  obtain ⟨a2, ha2⟩ : ∃ q, (decide (0 < hs.length) && !kp.contains l) = q := ⟨_, rfl⟩
  rw [ha1] at CC ⊢
  rw [ha2] at CH ⊢
  clear ha1 ha2 hl hIm hi hk
  cases a1 with
  | false =>
    go_enter Try.func77, Try.ntmps77
    go_wp2_with fail
    refine CC.mono ?_
    rintro e W ⟨rfl, rfl⟩
    have hbW := Below.refl W.heap.size W
    clear CC CH
    have HBZ := Lib.hid (Fz.of_below (X := fun k => base ≤ k ∧ ¬ O k) hbW)
    have h1 := h.below hbW
    have hbs := hbW.size
    clear h hbW
    have xc := h1.c
    have c1 : W.cell? ⟨x, 1, none⟩ = some (.slice Ah hs.length ch) := xc.cell 1
    have hxl := xc.lt
    have hsz := h1.bx
    have HF1 := Lib.hid h1
    clear h1 xc
    go_wp2_with (first
      | (at_builtin; refine wpList_app1 Try.underlying52 info4 (by omega) rfl (.tmp 21) (.tmp 23) rfl base _ hs.length (bL hs) (.bool false) rfl rfl W HF1.out.oh rfl rfl (by omega) (by omega) ?_)
      | fail)
    intro g1 cp1 w1 ho1 hg1 hn1 hl1
    have yc := (hg1.block x hxl (fun e => HF1.out.xh e.symm)).trans HF1.out.c
    have c1 : w1.cell? ⟨x, 1, none⟩ = some (.slice Ah hs.length ch) := Cells.cell yc 1
    have f1 : w1.frozen? ⟨x, 1, none⟩ = false := Cells.froz yc 1
    obtain ⟨r1, z1⟩ := HF1.out.appH false ho1 hg1 hn1
    have HF2 := Lib.hid (And.intro r1 z1)
    clear ho1 hg1 hn1 r1 z1 yc
    go_wp2_with fail
    obtain ⟨v1, hv1⟩ : ∃ v, Value.slice (some ⟨g1, 0, none⟩) (hs.length + 1) cp1 = v := ⟨_, rfl⟩
    obtain ⟨W2, hW2⟩ : ∃ V, w1.setCell ⟨x, 1, none⟩ (.slice (some ⟨g1, 0, none⟩) (hs.length + 1) cp1) = V := ⟨_, rfl⟩
    rw [hW2, hv1] at HF2
    rw [hW2, hv1]
    clear c1 f1 hW2 hv1
    have c2 : W2.cell? ⟨x, 2, none⟩ = some (.slice Am ms.length cm) := HF2.out.1.c.cell 2
    have c3 : W2.cell? ⟨x, 3, none⟩ = some (.slice Ap ps.length cp) := HF2.out.1.c.cell 3
    have q2 : ∀ p : Later (fun k => (Value.slice Ap ps.length cp).ownBlock = some k) W2, p.W.cell? ⟨x, 2, none⟩ = some (.slice Am ms.length cm) := fun p => cell_later c2 HF2.out.1.xp p
    have q3 : ∀ p : Later (fun k => (Value.slice Ap ps.length cp).ownBlock = some k) W2, p.W.cell? ⟨x, 3, none⟩ = some (.slice Ap ps.length cp) := fun p => cell_later c3 HF2.out.1.xp p
    clear c2 c3
    refine wp_region_mix0 (fun i => if i = 10 then 2 else if i = 11 then 2 else if 12 ≤ i then 3 else 0) [0, 1, 2, 3, 4, 5, 6, 7, 8, 9] [10, 11, 12, 13, 14] (fun w' => ∃ p : Later (fun k => (Value.slice Ap ps.length cp).ownBlock = some k) W2, w' = p.W) (by kernel_rfl) (by kernel_rfl) ⟨⟨_, Fz.drew W2⟩, rfl⟩ ?_
    simp only [opsAt, List.filterMap_cons, List.filterMap_nil, List.getElem?_toArray, List.getElem?_cons_zero, List.getElem?_cons_succ]
    change wpQuiet _ _ _ _ [_, _, _, _, _, _, _, _, _, _] _
    repeat (go_big_quiet_step (fail))
    refine wpQuiet_nil ?_
    clear q2 q3
    have bd := (Fz.drew (X := fun _ => False) W2).below (B := W2.heap.size) (Nat.le_refl _) (fun _ _ h => h)
    have r2 := HF2.out.1.below bd
    have z2 := HF2.out.2.trans (Fz.drew (X := fun k => base ≤ k ∧ ¬ O k) W2)
    have zz := Fz.drew (X := (fun k => (Value.slice Ap ps.length cp).ownBlock = some k)) W2
    clear bd
    generalize ({ W2 with drawn := W2.drawn + 1 } : World) = W3 at *
    have hs3 : base ≤ W3.heap.size := by have := r2.c.lt; omega
    have HF3 := Lib.hid (And.intro r2 (And.intro z2 zz))
    clear r2 z2 zz
    refine wpSeqM_step rfl ?_
    go_wp2_with fail
    refine ⟨⟨⟨_, HF3.out.2.2.trans (Fz.of_below (below_new W3 _))⟩, rfl⟩, ?_⟩
    refine wpSeqM_step rfl ?_
    refine wpList_app1 Try.underlying25 info3 (by omega) rfl (.tmp 31) (.tmp 37) rfl base _ ps.length (iL ps) (.int .i64 (ms.length : Int)) rfl rfl W3 HF3.out.1.op rfl rfl (by omega) (by omega) ?_
    intro g2 cp2 w2 ho2 hg2 hn2 hl2
    have yc2 := (hg2.block x HF3.out.1.c.lt (fun e => HF3.out.1.xp e.symm)).trans HF3.out.1.c
    have d3 : w2.cell? ⟨x, 3, none⟩ = some (.slice Ap ps.length cp) := Cells.cell yc2 3
    have f3 : w2.frozen? ⟨x, 3, none⟩ = false := Cells.froz yc2 3
    have hcl : Fz (fun k => (Value.slice Ap ps.length cp).ownBlock = some k) W2 w2 := HF3.out.2.2.trans (Fz.of_grown hg2 (fun k e => e))
    obtain ⟨r3, z3⟩ := HF3.out.1.appP (ms.length : Int) ho2 hg2 hn2
    have HF4 := Lib.hid (And.intro r3 (And.intro (HF3.out.2.1.trans z3) hcl))
    clear ho2 hg2 hn2 r3 z3 yc2 hcl
    go_wp2_with fail
    refine ⟨⟨⟨_, HF4.out.2.2⟩, rfl⟩, ?_⟩
    refine wpSeqM_step rfl ?_
    go_wp2_with fail
    refine wpSeqM_step rfl ?_
    go_wp2_with fail
    refine wpSeqM_step rfl ?_
    go_wp2_with fail
    unfold wpSeqM
    obtain ⟨v2, hv2⟩ : ∃ v, Value.slice (some ⟨g2, 0, none⟩) (ps.length + 1) cp2 = v := ⟨_, rfl⟩
    obtain ⟨W5, hW5⟩ : ∃ V, w2.setCell ⟨x, 3, none⟩ (.slice (some ⟨g2, 0, none⟩) (ps.length + 1) cp2) = V := ⟨_, rfl⟩
    rw [hW5, hv2] at HF4
    rw [hW5, hv2]
    clear d3 f3 hW5 hv2
    have c2 : W5.cell? ⟨x, 2, none⟩ = some (.slice Am ms.length cm) := HF4.out.1.c.cell 2
    have f2 : W5.frozen? ⟨x, 2, none⟩ = false := HF4.out.1.c.froz 2
    have hs5 : base ≤ W5.heap.size := by have := HF4.out.1.c.lt; omega
    go_wp2_with (first
      | (at_builtin; refine wpList_app1 Try.underlying25 info3 (by omega) rfl (.tmp 47) (.tmp 49) rfl base _ ms.length (iL ms) (.int .i64 c) rfl rfl W5 HF4.out.1.om rfl rfl (by omega) (by omega) ?_)
      | fail)
    intro g3 cp3 w3 ho3 hg3 hn3 hl3
    have yc3 := (hg3.block x HF4.out.1.c.lt (fun e => HF4.out.1.xm e.symm)).trans HF4.out.1.c
    have d2 : w3.cell? ⟨x, 2, none⟩ = some (.slice Am ms.length cm) := Cells.cell yc3 2
    have f2 : w3.frozen? ⟨x, 2, none⟩ = false := Cells.froz yc3 2
    obtain ⟨r5, z5⟩ := HF4.out.1.appM c hc ho3 hg3 hn3
    have HF5 := Lib.hid (And.intro r5 (HF4.out.2.1.trans z5))
    clear ho3 hg3 hn3 r5 z5 yc3
    go_wp2_with fail
    go_end0
    exact ⟨rfl, false, v1, _, v2, by simp, by simpa using HF5.out.1, HBZ.out.trans HF5.out.2⟩
  | true =>
    cases a2 with
    | false =>
      go_enter Try.func77, Try.ntmps77
      go_wp2_with fail
      refine CC.mono ?_
      rintro e w1 ⟨rfl, rfl⟩
      clear CC
      go_wp2_with fail
      refine CH.mono ?_
      rintro e W ⟨rfl, hbW⟩
      clear CH
      have HBZ := Lib.hid (Fz.of_below (X := fun k => base ≤ k ∧ ¬ O k) hbW)
      have h1 := h.below hbW
      have hbs := hbW.size
      clear h hbW
      have xc := h1.c
      have c1 : W.cell? ⟨x, 1, none⟩ = some (.slice Ah hs.length ch) := xc.cell 1
      have hxl := xc.lt
      have hsz := h1.bx
      have HF1 := Lib.hid h1
      clear h1 xc
      go_wp2_with (first
        | (at_builtin; refine wpList_app1 Try.underlying52 info4 (by omega) rfl (.tmp 21) (.tmp 23) rfl base _ hs.length (bL hs) (.bool false) rfl rfl W HF1.out.oh rfl rfl (by omega) (by omega) ?_)
        | fail)
      intro g1 cp1 w1 ho1 hg1 hn1 hl1
      have yc := (hg1.block x hxl (fun e => HF1.out.xh e.symm)).trans HF1.out.c
      have c1 : w1.cell? ⟨x, 1, none⟩ = some (.slice Ah hs.length ch) := Cells.cell yc 1
      have f1 : w1.frozen? ⟨x, 1, none⟩ = false := Cells.froz yc 1
      obtain ⟨r1, z1⟩ := HF1.out.appH false ho1 hg1 hn1
      have HF2 := Lib.hid (And.intro r1 z1)
      clear ho1 hg1 hn1 r1 z1 yc
      go_wp2_with fail
      obtain ⟨v1, hv1⟩ : ∃ v, Value.slice (some ⟨g1, 0, none⟩) (hs.length + 1) cp1 = v := ⟨_, rfl⟩
      obtain ⟨W2, hW2⟩ : ∃ V, w1.setCell ⟨x, 1, none⟩ (.slice (some ⟨g1, 0, none⟩) (hs.length + 1) cp1) = V := ⟨_, rfl⟩
      rw [hW2, hv1] at HF2
      rw [hW2, hv1]
      clear c1 f1 hW2 hv1
      have c2 : W2.cell? ⟨x, 2, none⟩ = some (.slice Am ms.length cm) := HF2.out.1.c.cell 2
      have c3 : W2.cell? ⟨x, 3, none⟩ = some (.slice Ap ps.length cp) := HF2.out.1.c.cell 3
      have q2 : ∀ p : Later (fun k => (Value.slice Ap ps.length cp).ownBlock = some k) W2, p.W.cell? ⟨x, 2, none⟩ = some (.slice Am ms.length cm) := fun p => cell_later c2 HF2.out.1.xp p
      have q3 : ∀ p : Later (fun k => (Value.slice Ap ps.length cp).ownBlock = some k) W2, p.W.cell? ⟨x, 3, none⟩ = some (.slice Ap ps.length cp) := fun p => cell_later c3 HF2.out.1.xp p
      clear c2 c3
      refine wp_region_mix0 (fun i => if i = 10 then 2 else if i = 11 then 2 else if 12 ≤ i then 3 else 0) [0, 1, 2, 3, 4, 5, 6, 7, 8, 9] [10, 11, 12, 13, 14] (fun w' => ∃ p : Later (fun k => (Value.slice Ap ps.length cp).ownBlock = some k) W2, w' = p.W) (by kernel_rfl) (by kernel_rfl) ⟨⟨_, Fz.drew W2⟩, rfl⟩ ?_
      simp only [opsAt, List.filterMap_cons, List.filterMap_nil, List.getElem?_toArray, List.getElem?_cons_zero, List.getElem?_cons_succ]
      change wpQuiet _ _ _ _ [_, _, _, _, _, _, _, _, _, _] _
      repeat (go_big_quiet_step (fail))
      refine wpQuiet_nil ?_
      clear q2 q3
      have bd := (Fz.drew (X := fun _ => False) W2).below (B := W2.heap.size) (Nat.le_refl _) (fun _ _ h => h)
      have r2 := HF2.out.1.below bd
      have z2 := HF2.out.2.trans (Fz.drew (X := fun k => base ≤ k ∧ ¬ O k) W2)
      have zz := Fz.drew (X := (fun k => (Value.slice Ap ps.length cp).ownBlock = some k)) W2
      clear bd
      generalize ({ W2 with drawn := W2.drawn + 1 } : World) = W3 at *
      have hs3 : base ≤ W3.heap.size := by have := r2.c.lt; omega
      have HF3 := Lib.hid (And.intro r2 (And.intro z2 zz))
      clear r2 z2 zz
      refine wpSeqM_step rfl ?_
      go_wp2_with fail
      refine ⟨⟨⟨_, HF3.out.2.2.trans (Fz.of_below (below_new W3 _))⟩, rfl⟩, ?_⟩
      refine wpSeqM_step rfl ?_
      refine wpList_app1 Try.underlying25 info3 (by omega) rfl (.tmp 31) (.tmp 37) rfl base _ ps.length (iL ps) (.int .i64 (ms.length : Int)) rfl rfl W3 HF3.out.1.op rfl rfl (by omega) (by omega) ?_
      intro g2 cp2 w2 ho2 hg2 hn2 hl2
      have yc2 := (hg2.block x HF3.out.1.c.lt (fun e => HF3.out.1.xp e.symm)).trans HF3.out.1.c
      have d3 : w2.cell? ⟨x, 3, none⟩ = some (.slice Ap ps.length cp) := Cells.cell yc2 3
      have f3 : w2.frozen? ⟨x, 3, none⟩ = false := Cells.froz yc2 3
      have hcl : Fz (fun k => (Value.slice Ap ps.length cp).ownBlock = some k) W2 w2 := HF3.out.2.2.trans (Fz.of_grown hg2 (fun k e => e))
      obtain ⟨r3, z3⟩ := HF3.out.1.appP (ms.length : Int) ho2 hg2 hn2
      have HF4 := Lib.hid (And.intro r3 (And.intro (HF3.out.2.1.trans z3) hcl))
      clear ho2 hg2 hn2 r3 z3 yc2 hcl
      go_wp2_with fail
      refine ⟨⟨⟨_, HF4.out.2.2⟩, rfl⟩, ?_⟩
      refine wpSeqM_step rfl ?_
      go_wp2_with fail
      refine wpSeqM_step rfl ?_
      go_wp2_with fail
      refine wpSeqM_step rfl ?_
      go_wp2_with fail
      unfold wpSeqM
      obtain ⟨v2, hv2⟩ : ∃ v, Value.slice (some ⟨g2, 0, none⟩) (ps.length + 1) cp2 = v := ⟨_, rfl⟩
      obtain ⟨W5, hW5⟩ : ∃ V, w2.setCell ⟨x, 3, none⟩ (.slice (some ⟨g2, 0, none⟩) (ps.length + 1) cp2) = V := ⟨_, rfl⟩
      rw [hW5, hv2] at HF4
      rw [hW5, hv2]
      clear d3 f3 hW5 hv2
      have c2 : W5.cell? ⟨x, 2, none⟩ = some (.slice Am ms.length cm) := HF4.out.1.c.cell 2
      have f2 : W5.frozen? ⟨x, 2, none⟩ = false := HF4.out.1.c.froz 2
      have hs5 : base ≤ W5.heap.size := by have := HF4.out.1.c.lt; omega
      go_wp2_with (first
        | (at_builtin; refine wpList_app1 Try.underlying25 info3 (by omega) rfl (.tmp 47) (.tmp 49) rfl base _ ms.length (iL ms) (.int .i64 c) rfl rfl W5 HF4.out.1.om rfl rfl (by omega) (by omega) ?_)
        | fail)
      intro g3 cp3 w3 ho3 hg3 hn3 hl3
      have yc3 := (hg3.block x HF4.out.1.c.lt (fun e => HF4.out.1.xm e.symm)).trans HF4.out.1.c
      have d2 : w3.cell? ⟨x, 2, none⟩ = some (.slice Am ms.length cm) := Cells.cell yc3 2
      have f2 : w3.frozen? ⟨x, 2, none⟩ = false := Cells.froz yc3 2
      obtain ⟨r5, z5⟩ := HF4.out.1.appM c hc ho3 hg3 hn3
      have HF5 := Lib.hid (And.intro r5 (HF4.out.2.1.trans z5))
      clear ho3 hg3 hn3 r5 z5 yc3
      go_wp2_with fail
      go_end0
      exact ⟨rfl, false, v1, _, v2, rfl, by simpa using HF5.out.1, HBZ.out.trans HF5.out.2⟩
    | true =>
      go_enter Try.func77, Try.ntmps77
      go_wp2_with fail
      refine CC.mono ?_
      rintro e w1 ⟨rfl, rfl⟩
      clear CC
      go_wp2_with fail
      refine CH.mono ?_
      rintro e W ⟨rfl, hbW⟩
      clear CH
      have HBZ := Lib.hid (Fz.of_below (X := fun k => base ≤ k ∧ ¬ O k) hbW)
      have h1 := h.below hbW
      have hbs := hbW.size
      clear h hbW
      have xc := h1.c
      have c1 : W.cell? ⟨x, 1, none⟩ = some (.slice Ah hs.length ch) := xc.cell 1
      have hxl := xc.lt
      have hsz := h1.bx
      have HF1 := Lib.hid h1
      clear h1 xc
      go_wp2_with (first
        | (at_builtin; refine wpList_app1 Try.underlying52 info4 (by omega) rfl (.tmp 21) (.tmp 23) rfl base _ hs.length (bL hs) (.bool true) rfl rfl W HF1.out.oh rfl rfl (by omega) (by omega) ?_)
        | fail)
      intro g1 cp1 w1 ho1 hg1 hn1 hl1
      have yc := (hg1.block x hxl (fun e => HF1.out.xh e.symm)).trans HF1.out.c
      have c1 : w1.cell? ⟨x, 1, none⟩ = some (.slice Ah hs.length ch) := Cells.cell yc 1
      have f1 : w1.frozen? ⟨x, 1, none⟩ = false := Cells.froz yc 1
      obtain ⟨r1, z1⟩ := HF1.out.appH true ho1 hg1 hn1
      have HF2 := Lib.hid (And.intro r1 z1)
      clear ho1 hg1 hn1 r1 z1 yc
      go_wp2_with fail
      obtain ⟨v1, hv1⟩ : ∃ v, Value.slice (some ⟨g1, 0, none⟩) (hs.length + 1) cp1 = v := ⟨_, rfl⟩
      obtain ⟨W2, hW2⟩ : ∃ V, w1.setCell ⟨x, 1, none⟩ (.slice (some ⟨g1, 0, none⟩) (hs.length + 1) cp1) = V := ⟨_, rfl⟩
      rw [hW2, hv1] at HF2
      rw [hW2, hv1]
      clear c1 f1 hW2 hv1
      have c2 : W2.cell? ⟨x, 2, none⟩ = some (.slice Am ms.length cm) := HF2.out.1.c.cell 2
      have c3 : W2.cell? ⟨x, 3, none⟩ = some (.slice Ap ps.length cp) := HF2.out.1.c.cell 3
      have q2 : ∀ p : Later (fun k => (Value.slice Ap ps.length cp).ownBlock = some k) W2, p.W.cell? ⟨x, 2, none⟩ = some (.slice Am ms.length cm) := fun p => cell_later c2 HF2.out.1.xp p
      have q3 : ∀ p : Later (fun k => (Value.slice Ap ps.length cp).ownBlock = some k) W2, p.W.cell? ⟨x, 3, none⟩ = some (.slice Ap ps.length cp) := fun p => cell_later c3 HF2.out.1.xp p
      clear c2 c3
      refine wp_region_mix0 (fun i => if i = 10 then 2 else if i = 11 then 2 else if 12 ≤ i then 3 else 0) [0, 1, 2, 3, 4, 5, 6, 7, 8, 9] [10, 11, 12, 13, 14] (fun w' => ∃ p : Later (fun k => (Value.slice Ap ps.length cp).ownBlock = some k) W2, w' = p.W) (by kernel_rfl) (by kernel_rfl) ⟨⟨_, Fz.drew W2⟩, rfl⟩ ?_
      simp only [opsAt, List.filterMap_cons, List.filterMap_nil, List.getElem?_toArray, List.getElem?_cons_zero, List.getElem?_cons_succ]
      change wpQuiet _ _ _ _ [_, _, _, _, _, _, _, _, _, _] _
      repeat (go_big_quiet_step (fail))
      refine wpQuiet_nil ?_
      clear q2 q3
      have bd := (Fz.drew (X := fun _ => False) W2).below (B := W2.heap.size) (Nat.le_refl _) (fun _ _ h => h)
      have r2 := HF2.out.1.below bd
      have z2 := HF2.out.2.trans (Fz.drew (X := fun k => base ≤ k ∧ ¬ O k) W2)
      have zz := Fz.drew (X := (fun k => (Value.slice Ap ps.length cp).ownBlock = some k)) W2
      clear bd
      generalize ({ W2 with drawn := W2.drawn + 1 } : World) = W3 at *
      have hs3 : base ≤ W3.heap.size := by have := r2.c.lt; omega
      have HF3 := Lib.hid (And.intro r2 (And.intro z2 zz))
      clear r2 z2 zz
      refine wpSeqM_step rfl ?_
      go_wp2_with fail
      refine ⟨⟨⟨_, HF3.out.2.2.trans (Fz.of_below (below_new W3 _))⟩, rfl⟩, ?_⟩
      refine wpSeqM_step rfl ?_
      refine wpList_app1 Try.underlying25 info3 (by omega) rfl (.tmp 31) (.tmp 37) rfl base _ ps.length (iL ps) (.int .i64 (ms.length : Int)) rfl rfl W3 HF3.out.1.op rfl rfl (by omega) (by omega) ?_
      intro g2 cp2 w2 ho2 hg2 hn2 hl2
      have yc2 := (hg2.block x HF3.out.1.c.lt (fun e => HF3.out.1.xp e.symm)).trans HF3.out.1.c
      have d3 : w2.cell? ⟨x, 3, none⟩ = some (.slice Ap ps.length cp) := Cells.cell yc2 3
      have f3 : w2.frozen? ⟨x, 3, none⟩ = false := Cells.froz yc2 3
      have hcl : Fz (fun k => (Value.slice Ap ps.length cp).ownBlock = some k) W2 w2 := HF3.out.2.2.trans (Fz.of_grown hg2 (fun k e => e))
      obtain ⟨r3, z3⟩ := HF3.out.1.appP (ms.length : Int) ho2 hg2 hn2
      have HF4 := Lib.hid (And.intro r3 (And.intro (HF3.out.2.1.trans z3) hcl))
      clear ho2 hg2 hn2 r3 z3 yc2 hcl
      go_wp2_with fail
      refine ⟨⟨⟨_, HF4.out.2.2⟩, rfl⟩, ?_⟩
      refine wpSeqM_step rfl ?_
      go_wp2_with fail
      refine wpSeqM_step rfl ?_
      go_wp2_with fail
      refine wpSeqM_step rfl ?_
      go_wp2_with fail
      unfold wpSeqM
      obtain ⟨v2, hv2⟩ : ∃ v, Value.slice (some ⟨g2, 0, none⟩) (ps.length + 1) cp2 = v := ⟨_, rfl⟩
      obtain ⟨W5, hW5⟩ : ∃ V, w2.setCell ⟨x, 3, none⟩ (.slice (some ⟨g2, 0, none⟩) (ps.length + 1) cp2) = V := ⟨_, rfl⟩
      rw [hW5, hv2] at HF4
      rw [hW5, hv2]
      clear d3 f3 hW5 hv2
      have c2 : W5.cell? ⟨x, 2, none⟩ = some (.slice Am ms.length cm) := HF4.out.1.c.cell 2
      have f2 : W5.frozen? ⟨x, 2, none⟩ = false := HF4.out.1.c.froz 2
      have hs5 : base ≤ W5.heap.size := by have := HF4.out.1.c.lt; omega
      go_wp2_with fail
      go_end0
      exact ⟨rfl, true, v1, _, v2, rfl, by simpa using HF4.out.1, HBZ.out.trans HF4.out.2.1⟩
end Go.Proofs.Ytegkogadceodlaa

