/-
  A rule as it lies in memory; contracts: Rule.isRight; the function that rule.Right asks with.
-/
import Derived.Test.YtegkogadceodlaaFau
namespace Go.Proofs.Ytegkogadceodlaa
open Go.RowKit Go.Shelf Go.Lib

structure Ru where
  l : E
  r : E
  b : Bool
/-- An expression's three cells. -/
def nc (e : E) (A : Option Addr) (cap : Nat) : List Value := [.int .i64 e.k, .int .i64 e.c, .slice A e.ks.length cap]
/-- A value is a rule. -/
def RuV (w : World) (B : Nat) (x : Ru) (v : Value) : Prop := ∃ A1 c1 A2 c2, v = .agg #[.int .i64 x.l.k, .int .i64 x.l.c, .slice A1 x.l.ks.length c1, .int .i64 x.r.k, .int .i64 x.r.c, .slice A2 x.r.ks.length c2, .bool x.b] ∧
  Nd w B x.l (.agg #[.int .i64 x.l.k, .int .i64 x.l.c, .slice A1 x.l.ks.length c1]) ∧ Nd w B x.r (.agg #[.int .i64 x.r.k, .int .i64 x.r.c, .slice A2 x.r.ks.length c2])
theorem RuV.below {w w' : World} {B : Nat} {x : Ru} {v : Value} (h : RuV w B x v) (hb : Below B w w') : RuV w' B x v := by
  obtain ⟨A1, c1, A2, c2, rfl, h1, h2⟩ := h
  exact ⟨A1, c1, A2, c2, rfl, h1.below hb, h2.below hb⟩
theorem RuV.mono {w : World} {B B' : Nat} {x : Ru} {v : Value} (h : RuV w B x v) (hB : B ≤ B') : RuV w B' x v := by
  obtain ⟨A1, c1, A2, c2, rfl, h1, h2⟩ := h
  exact ⟨A1, c1, A2, c2, rfl, h1.mono hB, h2.mono hB⟩
theorem RuV.on {w w' : World} {x : Ru} {v : Value} (h : RuV w w.heap.size x v) (hb : Below w.heap.size w w') : RuV w' w'.heap.size x v := (h.below hb).mono hb.size

/-- May a rule be in a right meaning? -/
def rightR (x : Ru) : Bool := rightE x.l && (rightE x.r && decide (faultE x.r = 0))

set_option maxHeartbeats 4000000 in
theorem isRight_any (x : Ru) (v : Value) (w : World) (h : RuV w w.heap.size x v) : Calls Try.prog 57 #[v] w fun r w' => r = .returned (.bool (rightR x)) ∧ Below w.heap.size w w' := by
  obtain ⟨A1, c1, A2, c2, rfl, h1, h2⟩ := h
  obtain ⟨W0, hW0⟩ : ∃ W0, w.alloc (.cells #[.int .i64 x.l.k, .int .i64 x.l.c, .slice A1 x.l.ks.length c1, .int .i64 x.r.k, .int .i64 x.r.c, .slice A2 x.r.ks.length c2, .bool x.b] 68) = W0 := ⟨_, rfl⟩
  have hb0 : Below w.heap.size w W0 := by rw [← hW0]; exact below_new _ _
  have hbx : Cells W0 w.heap.size 68 #[.int .i64 x.l.k, .int .i64 x.l.c, .slice A1 x.l.ks.length c1, .int .i64 x.r.k, .int .i64 x.r.c, .slice A2 x.r.ks.length c2, .bool x.b] := by rw [← hW0]; exact World.alloc_heap_new _ _
  have C1 := Lib.hid (right_any x.l _ W0 (h1.on hb0))
  have C2 := Lib.hid (fun W (hb : Below W0.heap.size W0 W) => right_any x.r _ W ((h2.on hb0).on hb))
  have C3 := Lib.hid (fun W (hb : Below W0.heap.size W0 W) => fault_any x.r _ W ((h2.on hb0).on hb))
  have hR : rightR x = (rightE x.l && (rightE x.r && decide (faultE x.r = 0))) := rfl
  obtain ⟨R, hRR⟩ : ∃ R, rightR x = R := ⟨_, rfl⟩
  rw [hRR] at hR ⊢
  have HW := Lib.hid hW0
  have HB := Lib.hid (And.intro hb0 hbx)
  generalize rightE x.l = b1 at *
  generalize rightE x.r = b2 at *
  generalize faultE x.r = f at *
  generalize x.l.ks.length = n1 at *
  generalize x.r.ks.length = n2 at *
  generalize x.l.k = k1 at *
  generalize x.r.k = k2 at *
  generalize x.l.c = d1 at *
  generalize x.r.c = d2 at *
  generalize x.b = bb at *
  have HR := Lib.hid hR
  clear h1 h2 hW0 hb0 hbx hR hRR
  cases b1
  · obtain rfl : R = false := HR.out
    go_enter Try.func57, Try.ntmps57
    go_wp2_with fail
    rw [HW.out]
    refine C1.out.mono ?_
    rintro r w1 ⟨rfl, hb⟩
    have HZ := Lib.hid (HB.out.1.trans (hb.mono HB.out.1.size))
    clear hb
    go_wp2
    go_ret
    exact ⟨rfl, HZ.out⟩
  go_enter Try.func57, Try.ntmps57
  go_wp2_with fail
  rw [HW.out]
  refine C1.out.mono ?_
  rintro r w1 ⟨rfl, hb⟩
  have d := cells_below HB.out.2 hb
  have x3 := d.cell 3
  have x4 := d.cell 4
  have x5 := d.cell 5
  simp only [List.getElem?_toArray, List.getElem?_cons_zero, List.getElem?_cons_succ] at x3 x4 x5
  have D2 := Lib.hid (C2.out w1 hb)
  have HB1 := Lib.hid hb
  have HD := Lib.hid d
  clear hb d
  go_wp2_with fail
  refine D2.out.mono ?_
  rintro r w2 ⟨rfl, hb⟩
  have hb2 := HB1.out.trans (hb.mono HB1.out.size)
  have HB2 := Lib.hid hb2
  have d := cells_below HD.out hb
  clear x3 x4 x5
  have x3 := d.cell 3
  have x4 := d.cell 4
  have x5 := d.cell 5
  simp only [List.getElem?_toArray, List.getElem?_cons_zero, List.getElem?_cons_succ] at x3 x4 x5
  have D3 := Lib.hid (C3.out w2 hb2)
  clear hb hb2 d
  cases b2
  · obtain rfl : R = false := HR.out
    have HZ := Lib.hid (HB.out.1.trans (HB2.out.mono HB.out.1.size))
    go_wp2
    go_ret
    exact ⟨rfl, HZ.out⟩
  go_wp2_with fail
  refine D3.out.mono ?_
  rintro r w3 ⟨rfl, hb⟩
  have hb3 := HB2.out.trans (hb.mono HB2.out.size)
  have HZ := Lib.hid (HB.out.1.trans (hb3.mono HB.out.1.size))
  clear hb hb3
  by_cases hf : f = 0
  · subst hf
    obtain rfl : R = true := HR.out
    go_wp2
    go_ret
    exact ⟨rfl, HZ.out⟩
  · have q : (f == 0) = false := by simpa using hf
    obtain rfl : R = false := by rw [HR.out, decide_eq_false hf]; rfl
    go_wp2
    go_ret
    exact ⟨rfl, HZ.out⟩

set_option maxHeartbeats 4000000 in
theorem rightN_any (x : Ru) (v : Value) (w : World) (h : RuV w w.heap.size x v) : Calls Try.prog 56 #[v] w fun r w' => r = .returned (.bool (!rightR x)) ∧ Below w.heap.size w w' := by
  have h' := h
  obtain ⟨A1, c1, A2, c2, rfl, _, _⟩ := h'
  obtain ⟨W0, hW0⟩ : ∃ W0, w.alloc (.cells #[.int .i64 x.l.k, .int .i64 x.l.c, .slice A1 x.l.ks.length c1, .int .i64 x.r.k, .int .i64 x.r.c, .slice A2 x.r.ks.length c2, .bool x.b] 68) = W0 := ⟨_, rfl⟩
  have hb0 : Below w.heap.size w W0 := by rw [← hW0]; exact below_new _ _
  have C1 := Lib.hid (isRight_any x _ W0 (h.on hb0))
  have HW := Lib.hid hW0
  have HB := Lib.hid hb0
  generalize rightR x = b1 at *
  generalize x.l.ks.length = n1 at *
  generalize x.r.ks.length = n2 at *
  generalize x.l.k = k1 at *
  generalize x.r.k = k2 at *
  generalize x.l.c = d1 at *
  generalize x.r.c = d2 at *
  generalize x.b = bb at *
  clear h hW0 hb0
  go_enter Try.func56, Try.ntmps56
  go_wp2_with fail
  rw [HW.out]
  refine C1.out.mono ?_
  rintro r w1 ⟨rfl, hb⟩
  have HZ := Lib.hid (HB.out.trans (hb.mono HB.out.size))
  clear hb
  go_wp2
  go_ret
  exact ⟨rfl, HZ.out⟩
end Go.Proofs.Ytegkogadceodlaa
