/-
  Contracts: expr.Right.
-/
import Derived.Test.YtegkogadceodlaaEac
namespace Go.Proofs.Ytegkogadceodlaa
open Go.RowKit Go.Shelf Go.Lib

/-- Is it right? -/
def rightE (e : E) : Bool := if e.k = 9 then shapedK e.k e.c e.ks.length else (visG nxR e 0).1

set_option maxHeartbeats 2000000 in
theorem right_any (e : E) (v : Value) (w : World) (h : Nd w w.heap.size e v) : Calls Try.prog 37 #[v] w fun r w' => r = .returned (.bool (rightE e)) ∧ Below w.heap.size w w' := by
  obtain ⟨_, _, A, cap, rfl, hk⟩ := Nd_iff.1 h
  have hln : e.ks.length ≤ 9223372036854775807 := by have := hk.l; have := hk.m; unfold maxLen at this; omega
  by_cases h9 : e.k = 9
  · have hb0 := below_new w (.cells #[.int .i64 9, .int .i64 e.c, .slice A e.ks.length cap] 33)
    have C := Lib.hid (fun W => shaped_any 9 e.c A e.ks.length cap W hln)
    have hR : rightE e = shapedK 9 e.c e.ks.length := by unfold rightE; rw [if_pos h9, h9]
    rw [hR, h9]
    generalize shapedK 9 e.c e.ks.length = R at *
    generalize e.ks.length = n at *
    clear hk h hR h9
    go_enter Try.func37, Try.ntmps37
    go_wp2_with fail
    refine (C.out _).mono ?_
    rintro r w1 ⟨rfl, hb⟩
    have HB := Lib.hid (hb0.trans (hb.mono hb0.size))
    clear hb hb0
    go_wp2
    go_ret
    exact ⟨rfl, HB.out⟩
  · have q9 : (e.k == 9) = false := by simpa using h9
    have hR : rightE e = (visG nxR e 0).1 := by unfold rightE; rw [if_neg h9]
    rw [hR]
    obtain ⟨W1, hW1⟩ : ∃ W1, (w.alloc (.cells #[.int .i64 e.k, .int .i64 e.c, .slice A e.ks.length cap] 33)).alloc (.cells #[.int .i64 0] 3) = W1 := ⟨_, rfl⟩
    have hb1 : Below w.heap.size w W1 := by rw [← hW1]; exact ((Below.refl _ w).alloc (Nat.le_refl _) _).alloc (by simp) _
    have hg : Boxed W1 (w.heap.size + 1) 3 (.int .i64 ((0 : Nat) : Int)) := by
      rw [← hW1]
      have := Boxed.new (w.alloc (.cells #[.int .i64 e.k, .int .i64 e.c, .slice A e.ks.length cap] 33)) 3 (.int .i64 0)
      rw [World.size_alloc] at this
      exact this
    have C := each_right _ e (Nat.le_refl _) _ w.heap.size (w.heap.size + 1) 0 W1 (h.below hb1) (by omega) hg (by omega)
    have C := Lib.hid C
    have HW := Lib.hid hW1
    generalize (visG nxR e 0).1 = R at *
    generalize (visG nxR e 0).2 = R2 at *
    generalize e.k = kk at *
    generalize e.c = cc at *
    generalize e.ks.length = n at *
    clear hk h hR h9 hg hW1
    go_enter Try.func37, Try.ntmps37
    go_wp2_with fail
    rw [HW.out]
    refine C.out.mono ?_
    rintro r w1 ⟨rfl, hgr, _⟩
    have HB := Lib.hid (hb1.grown hgr hb1.size fun k e => by cases e; omega)
    clear hgr hb1
    go_wp2
    go_ret
    exact ⟨rfl, HB.out⟩
end Go.Proofs.Ytegkogadceodlaa
