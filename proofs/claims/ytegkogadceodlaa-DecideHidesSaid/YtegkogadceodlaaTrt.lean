/-
  Contracts: rule.Right.
-/
import Derived.Test.YtegkogadceodlaaTxt
namespace Go.Proofs.Ytegkogadceodlaa
open Go.RowKit Go.Shelf Go.Lib

structure Tx where
  ig : List Int
  kp : List Int
  rs : List Ru
/-- A value is a meaning. -/
def TxV (w : World) (B : Nat) (t : Tx) (v : Value) : Prop := ∃ A1 c1 A2 c2 A3 c3, v = .agg #[.slice A1 t.ig.length c1, .slice A2 t.kp.length c2, .slice A3 t.rs.length c3] ∧ IS w B t.ig A1 c1 ∧ IS w B t.kp A2 c2 ∧ RsAt w B t.rs A3 c3
theorem TxV.below {w w' : World} {B : Nat} {t : Tx} {v : Value} (h : TxV w B t v) (hb : Below B w w') : TxV w' B t v := by
  obtain ⟨A1, c1, A2, c2, A3, c3, rfl, h1, h2, h3⟩ := h
  exact ⟨A1, c1, A2, c2, A3, c3, rfl, h1.below hb, h2.below hb, h3.below hb⟩
theorem TxV.mono {w : World} {B B' : Nat} {t : Tx} {v : Value} (h : TxV w B t v) (hB : B ≤ B') : TxV w B' t v := by
  obtain ⟨A1, c1, A2, c2, A3, c3, rfl, h1, h2, h3⟩ := h
  exact ⟨A1, c1, A2, c2, A3, c3, rfl, h1.mono hB, h2.mono hB, h3.mono hB⟩
theorem TxV.on {w w' : World} {t : Tx} {v : Value} (h : TxV w w.heap.size t v) (hb : Below w.heap.size w w') : TxV w' w'.heap.size t v := (h.below hb).mono hb.size

def rightT (t : Tx) : Bool := decide (t.rs.length ≤ 40) && (rises t.ig && (rises t.kp && t.rs.all rightR))

set_option maxHeartbeats 4000000 in
theorem rightT_any (t : Tx) (v : Value) (w : World) (h : TxV w w.heap.size t v) : Calls Try.prog 35 #[v] w fun r w' => r = .returned (.bool (rightT t)) ∧ Below w.heap.size w w' := by
  obtain ⟨A1, c1, A2, c2, A3, c3, rfl, h1, h2, h3⟩ := h
  obtain ⟨W0, hW0⟩ : ∃ W0, w.alloc (.cells #[.slice A1 t.ig.length c1, .slice A2 t.kp.length c2, .slice A3 t.rs.length c3] 57) = W0 := ⟨_, rfl⟩
  have hb0 : Below w.heap.size w W0 := by rw [← hW0]; exact below_new _ _
  have hbx : Cells W0 w.heap.size 57 #[.slice A1 t.ig.length c1, .slice A2 t.kp.length c2, .slice A3 t.rs.length c3] := by rw [← hW0]; exact World.alloc_heap_new _ _
  have C1 := Lib.hid (areClasses_any t.ig A1 c1 W0 (h1.on hb0))
  have C2 := Lib.hid (areClasses_any t.kp A2 c2 W0 (h2.on hb0))
  have C3 := Lib.hid (containsR_any t.rs A3 c3 W0 (h3.on hb0))
  have l1 := h1.len
  have l2 := h2.len
  have l3 := h3.len
  have hR : rightT t = (decide (t.rs.length ≤ 40) && (rises t.ig && (rises t.kp && t.rs.all rightR))) := rfl
  obtain ⟨R, hRR⟩ : ∃ R, rightT t = R := ⟨_, rfl⟩
  rw [hRR] at hR ⊢
  have HR := Lib.hid hR
  have HW := Lib.hid hW0
  have x0 := hbx.cell 0
  have x1 := hbx.cell 1
  have x2 := hbx.cell 2
  simp only [List.getElem?_toArray, List.getElem?_cons_zero, List.getElem?_cons_succ] at x0 x1 x2
  have HB := Lib.hid hb0
  generalize rises t.ig = b1 at *
  generalize rises t.kp = b2 at *
  generalize t.rs.all rightR = b3 at *
  generalize t.ig.length = n1 at *
  generalize t.kp.length = n2 at *
  generalize t.rs.length = n3 at *
  clear h1 h2 h3 hW0 hb0 hbx hR hRR
  by_cases h40 : n3 ≤ 40
  · have i40 : ((n3 : Int) ≤ 40) := by omega
    have hR2 : R = (b1 && (b2 && b3)) := by rw [HR.out, decide_eq_true h40, Bool.true_and]
    have HR2 := Lib.hid hR2
    clear hR2 HR h40
    go_enter Try.func35, Try.ntmps35
    go_wp2_with fail
    rw [HW.out]
    refine C1.out.mono ?_
    rintro r w1 ⟨rfl, rfl⟩
    cases b1
    · obtain rfl : R = false := HR2.out
      go_wp2
      go_ret
      exact ⟨rfl, HB.out⟩
    go_wp2_with fail
    refine C2.out.mono ?_
    rintro r w2 ⟨rfl, rfl⟩
    cases b2
    · obtain rfl : R = false := HR2.out
      go_wp2
      go_ret
      exact ⟨rfl, HB.out⟩
    obtain rfl : R = b3 := HR2.out
    go_wp2_with fail
    refine C3.out.mono ?_
    rintro r w3 ⟨rfl, hb⟩
    have HZ := Lib.hid (HB.out.trans (hb.mono HB.out.size))
    clear hb
    cases R
    · go_wp2
      go_ret
      exact ⟨rfl, HZ.out⟩
    · go_wp2
      go_ret
      exact ⟨rfl, HZ.out⟩
  · have i40 : decide ((n3 : Int) ≤ 40) = false := by simp; omega
    obtain rfl : R = false := by rw [HR.out, decide_eq_false h40, Bool.false_and]
    clear h40
    go_enter Try.func35, Try.ntmps35
    go_wp2_with fail
    rw [HW.out]
    go_wp2
    go_ret
    exact ⟨rfl, HB.out⟩
end Go.Proofs.Ytegkogadceodlaa
