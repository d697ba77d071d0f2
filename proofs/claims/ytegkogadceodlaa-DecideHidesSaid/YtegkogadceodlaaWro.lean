/-
  Contracts: the document's Wrong, rises.
-/
import Derived.BigQuiet
import Derived.Test.YtegkogadceodlaaRrr
namespace Go.Proofs.Ytegkogadceodlaa
open Go.RowKit Go.Shelf Go.Lib

/-- The document's answer: what is wrong with a right side. -/
def wrongE (e : E) : Int := if noneE [3] e then (if lgRef e < 0 ∨ 4 < lgRef e then 8 else 0) else 4
set_option maxHeartbeats 4000000 in
theorem wrong_any (e : E) (hsz : szE e ≤ 100000) (hgd : goodE e = true ∨ (e.k = 9 ∧ e.ks = [])) (v : Value) (w : World) (h : Nd w w.heap.size e v) :
    Calls Try.prog 80 #[v] w fun r w' => r = .returned (.int .i64 (wrongE e)) ∧ Below w.heap.size w w' := by
  obtain ⟨_, _, A, cap, rfl, hk⟩ := Nd_iff.1 h
  obtain ⟨W0, hW0⟩ : ∃ W0, w.alloc (.cells #[.int .i64 e.k, .int .i64 e.c, .slice A e.ks.length cap] 24) = W0 := ⟨_, rfl⟩
  have hb0 : Below w.heap.size w W0 := by rw [← hW0]; exact below_new _ _
  have hbx : Cells W0 w.heap.size 24 #[.int .i64 e.k, .int .i64 e.c, .slice A e.ks.length cap] := by rw [← hW0]; exact World.alloc_heap_new _ _
  have C1 := Lib.hid (refLong_any _ e (Nat.le_refl _) hsz hgd _ W0 (h.on hb0))
  have C2 := Lib.hid (fun W (hb : Below W0.heap.size W0 W) => refHas_any 3 _ e (Nat.le_refl _) _ W ((h.on hb0).on hb))
  have hR : wrongE e = if noneE [3] e then (if lgRef e < 0 ∨ 4 < lgRef e then 8 else 0) else 4 := rfl
  obtain ⟨R, hRR⟩ : ∃ R, wrongE e = R := ⟨_, rfl⟩
  rw [hRR] at hR ⊢
  have HR := Lib.hid hR
  have HW := Lib.hid hW0
  have HB := Lib.hid (And.intro hb0 hbx)
  generalize noneE [3] e = nb at *
  generalize lgRef e = lr at *
  generalize e.k = kk at *
  generalize e.c = cc at *
  generalize e.ks.length = n at *
  clear hk h hW0 hb0 hbx hR hRR hsz hgd
  go_enter Try.func80, Try.ntmps80
  go_wp2_with fail
  rw [HW.out]
  refine C1.out.mono ?_
  rintro r w1 ⟨rfl, hb⟩
  have d := cells_below HB.out.2 hb
  have x0 := d.cell 0
  have x1 := d.cell 1
  have x2 := d.cell 2
  simp only [List.getElem?_toArray, List.getElem?_cons_zero, List.getElem?_cons_succ] at x0 x1 x2
  have D2 := Lib.hid (C2.out w1 hb)
  have HB1 := Lib.hid hb
  clear hb d
  go_wp2_with fail
  refine D2.out.mono ?_
  rintro r w2 ⟨rfl, hb⟩
  have hb2 := HB1.out.trans (hb.mono HB1.out.size)
  have HZ := Lib.hid (HB.out.1.trans (hb2.mono HB.out.1.size))
  clear hb hb2
  cases nb
  · obtain rfl : R = 4 := HR.out
    go_wp2
    go_ret
    exact ⟨rfl, HZ.out⟩
  · have hR2 : R = if lr < 0 ∨ 4 < lr then 8 else 0 := HR.out
    by_cases h1 : lr < 0
    · obtain rfl : R = 8 := by rw [hR2, if_pos (.inl h1)]
      clear hR2
      go_wp2
      go_ret
      exact ⟨rfl, HZ.out⟩
    · have i1 : decide (lr < 0) = false := by simp; omega
      by_cases h2 : 4 < lr
      · obtain rfl : R = 8 := by rw [hR2, if_pos (.inr h2)]
        clear hR2 h1
        go_wp2
        go_ret
        exact ⟨rfl, HZ.out⟩
      · have i2 : decide (4 < lr) = false := by simp; omega
        obtain rfl : R = 0 := by rw [hR2, if_neg (by omega)]
        clear hR2 h1 h2
        go_wp2
        go_ret
        exact ⟨rfl, HZ.out⟩
end Go.Proofs.Ytegkogadceodlaa
