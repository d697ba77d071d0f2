/-
  Contracts: expr.Shortest, Has; rule.fault; Rule.isRight.
-/
import Derived.Test.YtegkogadceodlaaLon
namespace Go.Proofs.Ytegkogadceodlaa
open Go.RowKit Go.Shelf Go.Lib

theorem right_good {e : E} (h : rightE e = true) : goodE e = true ∨ e.k = 9 := by
  by_cases h9 : e.k = 9
  · exact .inr h9
  · rw [rightE_good h9] at h
    simp only [Bool.and_eq_true] at h
    exact .inl h.1
/-- What Shortest hands back. -/
def shortR (e : E) : Nat := if rightE e then shE e else 0

set_option maxHeartbeats 4000000 in
theorem shortestR_any (e : E) (v : Value) (w : World) (h : Nd w w.heap.size e v) :
    Calls Try.prog 19 #[v] w fun r w' => r = .returned (.int .i64 ((shortR e : Nat) : Int)) ∧ Below w.heap.size w w' := by
  obtain ⟨_, _, A, cap, rfl, hk⟩ := Nd_iff.1 h
  obtain ⟨W0, hW0⟩ : ∃ W0, w.alloc (.cells #[.int .i64 e.k, .int .i64 e.c, .slice A e.ks.length cap] 33) = W0 := ⟨_, rfl⟩
  obtain ⟨hb0, hbx⟩ := node_box hW0
  have hN0 := h.on hb0
  have C := Lib.hid (right_any e _ W0 hN0)
  have C3 := Lib.hid (fun (hr : rightE e = true) W (hb : Below W0.heap.size W0 W) => shortest_any _ e (Nat.le_refl _) (by have := right_size hr; omega) (right_good hr) _ W (hN0.on hb))
  have hL : shortR e = if rightE e then shE e else 0 := rfl
  obtain ⟨L, hLL⟩ : ∃ L, shortR e = L := ⟨_, rfl⟩
  rw [hLL] at hL ⊢
  have HW := Lib.hid hW0
  have HB := Lib.hid (And.intro hb0 hbx)
  generalize rightE e = rb at *
  generalize shE e = lg at *
  generalize e.k = kk at *
  generalize e.c = cc at *
  generalize e.ks.length = n at *
  clear hk h hN0 hW0 hb0 hbx hLL
  cases rb
  · obtain rfl : L = 0 := hL
    go_enter Try.func19, Try.ntmps19
    go_wp2_with fail
    rw [HW.out]
    refine C.out.mono ?_
    rintro r w1 ⟨rfl, hb⟩
    have HZ := Lib.hid (HB.out.1.trans (hb.mono HB.out.1.size))
    clear hb
    go_wp2
    go_ret
    exact ⟨rfl, HZ.out⟩
  · obtain rfl : L = lg := hL
    go_enter Try.func19, Try.ntmps19
    go_wp2_with fail
    rw [HW.out]
    refine C.out.mono ?_
    rintro r w1 ⟨rfl, hb⟩
    have d := cells_below HB.out.2 hb
    have d0 := d.cell 0
    have d1 := d.cell 1
    have d2 := d.cell 2
    simp only [List.getElem?_toArray, List.getElem?_cons_zero, List.getElem?_cons_succ] at d0 d1 d2
    have D3 := Lib.hid (C3.out (by first | rfl | trivial) w1 hb)
    have HB1 := Lib.hid hb
    clear hb d
    go_wp2_with fail
    refine D3.out.mono ?_
    rintro r w3 ⟨rfl, hb5⟩
    have hb6 := HB1.out.trans (hb5.mono HB1.out.size)
    have HZ := Lib.hid (HB.out.1.trans (hb6.mono HB.out.1.size))
    clear hb5 hb6
    go_wp2
    go_ret
    exact ⟨rfl, HZ.out⟩

set_option maxHeartbeats 4000000 in
theorem has_any (e : E) (k : Int) (hki : i64 k) (v : Value) (w : World) (h : Nd w w.heap.size e v) :
    Calls Try.prog 103 #[v, .int .i64 k] w fun r w' => r = .returned (.bool (rightE e && !noneE [k] e)) ∧ Below w.heap.size w w' := by
  obtain ⟨_, _, A, cap, rfl, hk⟩ := Nd_iff.1 h
  obtain ⟨W0, hW0⟩ : ∃ W0, w.alloc (.cells #[.int .i64 e.k, .int .i64 e.c, .slice A e.ks.length cap] 33) = W0 := ⟨_, rfl⟩
  obtain ⟨hb0, hbx⟩ := node_box hW0
  have hN0 := h.on hb0
  have C := Lib.hid (right_any e _ W0 hN0)
  have C2 := fun W (hb : Below W0.heap.size W0 W) => holds_any [k] e _ (some ⟨W.heap.size, 0, none⟩) 1 _ ((hN0.on hb).on (below_new W (.cells #[.int .i64 k] 3))) (is1 W k hki)
  have C2 := Lib.hid C2
  have HW := Lib.hid hW0
  have HB := Lib.hid (And.intro hb0 hbx)
  generalize rightE e = rb at *
  generalize noneE [k] e = nb at *
  generalize e.k = kk at *
  generalize e.c = cc at *
  generalize e.ks.length = n at *
  clear hk h hN0 hW0 hb0 hbx hki
  cases rb
  · rw [Bool.false_and]
    go_enter Try.func103, Try.ntmps103
    go_wp2_with fail
    rw [HW.out]
    refine C.out.mono ?_
    rintro r w1 ⟨rfl, hb⟩
    have HZ := Lib.hid (HB.out.1.trans (hb.mono HB.out.1.size))
    clear hb
    go_wp2
    go_ret
    exact ⟨rfl, HZ.out⟩
  · rw [Bool.true_and]
    go_enter Try.func103, Try.ntmps103
    go_wp2_with fail
    rw [HW.out]
    refine C.out.mono ?_
    rintro r w1 ⟨rfl, hb⟩
    have d := cells_below HB.out.2 hb
    have d0 := d.cell 0
    have d1 := d.cell 1
    have d2 := d.cell 2
    simp only [List.getElem?_toArray, List.getElem?_cons_zero, List.getElem?_cons_succ] at d0 d1 d2
    have D2 := Lib.hid (C2.out w1 hb)
    have HB1 := Lib.hid hb
    simp only [List.length_cons, List.length_nil] at D2
    clear hb d
    go_wp2_with fail
    refine D2.out.mono ?_
    rintro r w2 ⟨rfl, hb2⟩
    have hb3 := (below_new w1 (.cells #[.int .i64 k] 3)).trans (hb2.mono (by simp))
    have hb4 := HB1.out.trans (hb3.mono HB1.out.size)
    have HZ := Lib.hid (HB.out.1.trans (hb4.mono HB.out.1.size))
    clear hb2 hb3 hb4
    go_wp2
    go_ret
    exact ⟨rfl, HZ.out⟩

/-- What is wrong with an expression as a right side. -/
def faultE (e : E) : Int := if rightE e && !noneE [3] e then 4 else if !(longR e).1 || decide (4 < (longR e).2) then 8 else 0
set_option maxHeartbeats 4000000 in
theorem fault_any (e : E) (v : Value) (w : World) (h : Nd w w.heap.size e v) :
    Calls Try.prog 86 #[v] w fun r w' => r = .returned (.int .i64 (faultE e)) ∧ Below w.heap.size w w' := by
  obtain ⟨_, _, A, cap, rfl, hk⟩ := Nd_iff.1 h
  obtain ⟨W0, hW0⟩ : ∃ W0, w.alloc (.cells #[.int .i64 e.k, .int .i64 e.c, .slice A e.ks.length cap] 33) = W0 := ⟨_, rfl⟩
  obtain ⟨hb0, hbx⟩ := node_box hW0
  have hN0 := h.on hb0
  have C := Lib.hid (has_any e 3 (by unfold i64; omega) _ W0 hN0)
  have C3 := Lib.hid (fun W (hb : Below W0.heap.size W0 W) => longestR_any e _ W (hN0.on hb))
  have hL : faultE e = if rightE e && !noneE [3] e then 4 else if !(longR e).1 || decide (4 < (longR e).2) then 8 else 0 := rfl
  obtain ⟨L, hLL⟩ : ∃ L, faultE e = L := ⟨_, rfl⟩
  rw [hLL] at hL ⊢
  have HW := Lib.hid hW0
  have HB := Lib.hid (And.intro hb0 hbx)
  generalize (rightE e && !noneE [3] e) = rb at *
  obtain ⟨lb, lg, hlr⟩ : ∃ a b, longR e = (a, b) := ⟨_, _, rfl⟩
  rw [hlr] at hL C3
  simp only at hL C3
  generalize e.k = kk at *
  generalize e.c = cc at *
  generalize e.ks.length = n at *
  clear hk h hN0 hW0 hb0 hbx hLL hlr
  cases rb
  · have HL := Lib.hid hL
    clear hL
    go_enter Try.func86, Try.ntmps86
    go_wp2_with fail
    rw [HW.out]
    refine C.out.mono ?_
    rintro r w1 ⟨rfl, hb⟩
    have d := cells_below HB.out.2 hb
    have d0 := d.cell 0
    have d1 := d.cell 1
    have d2 := d.cell 2
    simp only [List.getElem?_toArray, List.getElem?_cons_zero, List.getElem?_cons_succ] at d0 d1 d2
    have D3 := Lib.hid (C3.out w1 hb)
    have HB1 := Lib.hid hb
    clear hb d
    go_wp2_with fail
    refine D3.out.mono ?_
    rintro r w3 ⟨rfl, hb5⟩
    have hb6 := HB1.out.trans (hb5.mono HB1.out.size)
    have HZ := Lib.hid (HB.out.1.trans (hb6.mono HB.out.1.size))
    have hL := HL.out
    clear hb5 hb6 d0 d1 d2 HL
    cases lb
    · obtain rfl : L = 8 := hL
      go_wp2
      go_ret
      exact ⟨rfl, HZ.out⟩
    · by_cases h4 : 4 < lg
      · have i4 : (4 : Int) < (lg : Int) := by omega
        obtain rfl : L = 8 := by rw [hL, decide_eq_true h4]; rfl
        clear hL h4
        go_wp2
        go_ret
        exact ⟨rfl, HZ.out⟩
      · have i4 : decide ((4 : Int) < (lg : Int)) = false := by simp; omega
        obtain rfl : L = 0 := by rw [hL, decide_eq_false h4]; rfl
        clear hL h4
        go_wp2
        go_ret
        exact ⟨rfl, HZ.out⟩
  · obtain rfl : L = 4 := hL
    go_enter Try.func86, Try.ntmps86
    go_wp2_with fail
    rw [HW.out]
    refine C.out.mono ?_
    rintro r w1 ⟨rfl, hb⟩
    have HZ := Lib.hid (HB.out.1.trans (hb.mono HB.out.1.size))
    clear hb
    go_wp2
    go_ret
    exact ⟨rfl, HZ.out⟩
end Go.Proofs.Ytegkogadceodlaa
