/-
  The law OverlayBetween: its walk.
-/
import Derived.Test.YtflhdfbpafhjlaaOrb
import Derived.Test.YtflhdfbpafhjlaaOto
import Derived.Test.YtflhdfbpafhjlaaOaw
namespace Go.Proofs.Ytflhdfbpafhjlaa
open Go.RowKit Go.Shelf Go.Lib Go.Sort

set_option maxHeartbeats 4000000 in
theorem betweenLaw (m : Int) (a b : IT) (q : Bool) (ha : R32 a.r) (w : World) : Calls Try.prog 3 #[.int .i64 m, .agg (itA a), .agg (itA b), .bool q] w fun e w' => e = .returned (.bool true) ∧ Below w.heap.size w w' := by
  have TB := two_boxes w (itA a) (itA b) 23
  obtain ⟨W, hW⟩ : ∃ W, (w.alloc (.cells (itA a) 23)).alloc (.cells (itA b) 23) = W := ⟨_, rfl⟩
  rw [hW] at TB
  have D1 : ∀ d os, Calls Try.prog 8 #[.agg (itA a)] (grow (redrawn W d) os) fun e w'' => e = .returned (.agg (itA a)) ∧ ∃ p : Regrown, w'' = grow (redrawn W p.d) p.os := fun d os => Calls.regrown_of (to_any a _)
  have D2 : ∀ d os, Calls Try.prog 8 #[.agg (itA b)] (grow (redrawn W d) os) fun e w'' => e = .returned (.agg (itA b)) ∧ ∃ p : Regrown, w'' = grow (redrawn W p.d) p.os := fun d os => Calls.regrown_of (to_any b _)
  have D3 : ∀ d os, Calls Try.prog 7 #[.int .i64 m, .agg (itA a), .agg (itA b), .bool q] (grow (redrawn W d) os) fun e w'' => e = .returned (.int .i64 (betw m a b q)) ∧ ∃ p : Regrown, w'' = grow (redrawn W p.d) p.os := fun d os => Calls.regrown_of (betw_any m a b q ha _)
  have D4 : ∀ d os, Calls Try.prog 9 #[.int .i64 m, .agg (itA a), .agg (itA b), .bool q] (grow (redrawn W d) os) fun e w'' => e = .returned (.int .i64 (betw m a b q)) ∧ ∃ p : Regrown, w'' = grow (redrawn W p.d) p.os := fun d os => Calls.regrown_of (rbetw_any m a b q ha _)
  have D5 : ∀ d os, Calls Try.prog 10 #[] (grow (redrawn W d) os) fun e w'' => e = .returned (.bool true) ∧ ∃ p : Regrown, w'' = grow (redrawn W p.d) p.os := fun d os => Calls.regrown_of (awake_any _)
  generalize betw m a b q = R at D3 D4
  have hpp : (R == R) = true := by simp
  obtain ⟨ar, aat, asz, af, ax, an, ap⟩ := a
  obtain ⟨br, bat, bsz, bf, bx, bn, bp⟩ := b
  unfold itA at *
  simp only at *
  have qa0 := cell_regrown (show W.cell? ⟨w.heap.size, 0, none⟩ = some (.int .i32 ar) from TB.2.1.cell 0)
  have qa1 := cell_regrown (show W.cell? ⟨w.heap.size, 1, none⟩ = some (.int .i64 aat) from TB.2.1.cell 1)
  have qa2 := cell_regrown (show W.cell? ⟨w.heap.size, 2, none⟩ = some (.int .i64 asz) from TB.2.1.cell 2)
  have qa3 := cell_regrown (show W.cell? ⟨w.heap.size, 3, none⟩ = some (.bool af) from TB.2.1.cell 3)
  have qa4 := cell_regrown (show W.cell? ⟨w.heap.size, 4, none⟩ = some (.bool ax) from TB.2.1.cell 4)
  have qa5 := cell_regrown (show W.cell? ⟨w.heap.size, 5, none⟩ = some (.bool an) from TB.2.1.cell 5)
  have qa6 := cell_regrown (show W.cell? ⟨w.heap.size, 6, none⟩ = some (.bool ap) from TB.2.1.cell 6)
  have qb0 := cell_regrown (show W.cell? ⟨w.heap.size + 1, 0, none⟩ = some (.int .i32 br) from TB.2.2.cell 0)
  have qb1 := cell_regrown (show W.cell? ⟨w.heap.size + 1, 1, none⟩ = some (.int .i64 bat) from TB.2.2.cell 1)
  have qb2 := cell_regrown (show W.cell? ⟨w.heap.size + 1, 2, none⟩ = some (.int .i64 bsz) from TB.2.2.cell 2)
  have qb3 := cell_regrown (show W.cell? ⟨w.heap.size + 1, 3, none⟩ = some (.bool bf) from TB.2.2.cell 3)
  have qb4 := cell_regrown (show W.cell? ⟨w.heap.size + 1, 4, none⟩ = some (.bool bx) from TB.2.2.cell 4)
  have qb5 := cell_regrown (show W.cell? ⟨w.heap.size + 1, 5, none⟩ = some (.bool bn) from TB.2.2.cell 5)
  have qb6 := cell_regrown (show W.cell? ⟨w.heap.size + 1, 6, none⟩ = some (.bool bp) from TB.2.2.cell 6)
  have HW := Lib.hid (And.intro hW TB.1)
  clear hW TB ha
  go_enter Try.func3, Try.ntmps3
  go_wp2_with fail
  rw [HW.out.1]
  refine wp_region_quiet_below (by kernel_rfl) (by kernel_rfl) ?_
  repeat (go_big_quiet_step (first | (with_reducible exact D1 _ _) | (with_reducible exact D2 _ _) | (with_reducible exact D3 _ _) | (with_reducible exact D4 _ _) | (with_reducible exact D5 _ _)))
  refine wpQuiet_nil ?_
  intro _ hw'
  obtain ⟨⟨dq, osq⟩, hw''⟩ := hw'
  subst hw''
  have HB := Lib.hid (below_on HW.out.2 (below_regrown W dq osq))
  clear qa0 qb0 qa1 qb1 qa2 qb2 qa3 qb3 qa4 qb4 qa5 qb5 qa6 qb6 D1 D2 D3 D4 D5
  go_wp2_with fail
  go_ret
  exact ⟨rfl, HB.out⟩
end Go.Proofs.Ytflhdfbpafhjlaa
