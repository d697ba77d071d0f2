/-
  Contract: the document's example.
-/
import Derived.Test.YtadipgkgllcicaaPck
namespace Go.Proofs.Ytadipgkgllcicaa
open Go.RowKit Go.Shelf Go.Lib Go.Maps

def exR : List (List Int) := [[5, 5], [5, 6], [6, 5]]
def exP : Pk := ⟨2, [5, 5, 5], [0, 0, 0], [2, 1], [6, 6]⟩
theorem exR_ok : packB 2 exR = true := by decide
theorem exR_pack : packR 2 exR = exP := by kernel_rfl
theorem cells_is {w : World} {h : Nat} {xs : List Int} (hc : Cells w h 3 (intsC xs).toArray) (hl : xs.length ≤ 1000) (hi : ∀ x ∈ xs, i64 x) : IS w w.heap.size xs (some ⟨h, 0, none⟩) xs.length :=
  ⟨Nat.le_refl _, by unfold maxLen; omega, hi, fun _ => ⟨h, 0, rfl, hc.lt, fun i x hx => by
    rw [Nat.zero_add, hc.cell i]
    simp [intsC, hx]⟩⟩
def wRows (w : World) : World := (((w.alloc (.cells #[.int .i64 5, .int .i64 5] 3)).alloc (.cells #[.int .i64 5, .int .i64 6] 3)).alloc (.cells #[.int .i64 6, .int .i64 5] 3)).alloc (.cells #[.slice (some ⟨w.heap.size, 0, none⟩) 2 2, .slice (some ⟨w.heap.size + 1, 0, none⟩) 2 2, .slice (some ⟨w.heap.size + 2, 0, none⟩) 2 2] 25)
theorem wRows_size (w : World) : (wRows w).heap.size = w.heap.size + 4 := by simp [wRows]
theorem wRows_below (w : World) : Below w.heap.size w (wRows w) :=
  ((((Below.refl _ _).alloc (by omega) _).alloc (by simp) _).alloc (by simp; omega) _).alloc (by simp; omega) _
theorem wRows_at (w : World) : RsAt (wRows w) (wRows w).heap.size exR (some ⟨w.heap.size + 3, 0, none⟩) 3 := by
  have c0 : Cells (wRows w) w.heap.size 3 (intsC [5, 5]).toArray := (((cells_new w _ 3).on (below_new _ _)).on (below_new _ _)).on (below_new _ _)
  have c1 : Cells (wRows w) (w.heap.size + 1) 3 (intsC [5, 6]).toArray := by
    have := cells_new (w.alloc (.cells #[.int .i64 5, .int .i64 5] 3)) #[.int .i64 5, .int .i64 6] 3
    rw [World.size_alloc] at this
    exact (this.on (below_new _ _)).on (below_new _ _)
  have c2 : Cells (wRows w) (w.heap.size + 2) 3 (intsC [6, 5]).toArray := by
    have := cells_new ((w.alloc (.cells #[.int .i64 5, .int .i64 5] 3)).alloc (.cells #[.int .i64 5, .int .i64 6] 3)) #[.int .i64 6, .int .i64 5] 3
    rw [World.size_alloc, World.size_alloc] at this
    exact this.on (below_new _ _)
  have c3 : Cells (wRows w) (w.heap.size + 3) 25 #[.slice (some ⟨w.heap.size, 0, none⟩) 2 2, .slice (some ⟨w.heap.size + 1, 0, none⟩) 2 2, .slice (some ⟨w.heap.size + 2, 0, none⟩) 2 2] := by
    have := cells_new (((w.alloc (.cells #[.int .i64 5, .int .i64 5] 3)).alloc (.cells #[.int .i64 5, .int .i64 6] 3)).alloc (.cells #[.int .i64 6, .int .i64 5] 3)) #[.slice (some ⟨w.heap.size, 0, none⟩) 2 2, .slice (some ⟨w.heap.size + 1, 0, none⟩) 2 2, .slice (some ⟨w.heap.size + 2, 0, none⟩) 2 2] 25
    rw [World.size_alloc, World.size_alloc, World.size_alloc] at this
    exact this
  refine ⟨by decide, by unfold maxLen; omega, fun e => (by cases e), fun _ => ⟨w.heap.size + 3, 0, rfl, c3.lt, fun i r hr => ?_⟩⟩
  rcases i with _ | _ | _ | i
  · obtain rfl : [5, 5] = r := by simpa [exR] using hr
    exact ⟨_, 2, by rw [Nat.zero_add, c3.cell 0]; rfl, cells_is c0 (by simp) (fun x hx => by simp at hx; subst hx; unfold i64; omega), fun e => (by cases e)⟩
  · obtain rfl : [5, 6] = r := by simpa [exR] using hr
    exact ⟨_, 2, by rw [c3.cell (0 + 1)]; rfl, cells_is c1 (by simp) (fun x hx => by simp at hx; rcases hx with rfl | rfl <;> (unfold i64; omega)), fun e => (by cases e)⟩
  · obtain rfl : [6, 5] = r := by simpa [exR] using hr
    exact ⟨_, 2, by rw [c3.cell (0 + 1 + 1)]; rfl, cells_is c2 (by simp) (fun x hx => by simp at hx; rcases hx with rfl | rfl <;> (unfold i64; omega)), fun e => (by cases e)⟩
  · simp [exR] at hr
def wLit (w : World) : World := (((w.alloc (.cells #[.int .i64 5, .int .i64 5, .int .i64 5] 3)).alloc (.cells #[.int .i64 0, .int .i64 0, .int .i64 0] 3)).alloc (.cells #[.int .i64 2, .int .i64 1] 3)).alloc (.cells #[.int .i64 6, .int .i64 6] 3)
theorem wLit_below (w : World) : Below w.heap.size w (wLit w) :=
  ((((Below.refl _ _).alloc (by omega) _).alloc (by simp) _).alloc (by simp; omega) _).alloc (by simp; omega) _
theorem wLit_at (w : World) : PkV (wLit w) exP (.agg #[.int .i64 2, .slice (some ⟨w.heap.size, 0, none⟩) 3 3, .slice (some ⟨w.heap.size + 1, 0, none⟩) 3 3, .slice (some ⟨w.heap.size + 2, 0, none⟩) 2 2, .slice (some ⟨w.heap.size + 3, 0, none⟩) 2 2]) := by
  have c0 : Cells (wLit w) w.heap.size 3 (intsC [5, 5, 5]).toArray := (((cells_new w _ 3).on (below_new _ _)).on (below_new _ _)).on (below_new _ _)
  have c1 : Cells (wLit w) (w.heap.size + 1) 3 (intsC [0, 0, 0]).toArray := by
    have := cells_new (w.alloc (.cells #[.int .i64 5, .int .i64 5, .int .i64 5] 3)) #[.int .i64 0, .int .i64 0, .int .i64 0] 3
    rw [World.size_alloc] at this
    exact (this.on (below_new _ _)).on (below_new _ _)
  have c2 : Cells (wLit w) (w.heap.size + 2) 3 (intsC [2, 1]).toArray := by
    have := cells_new ((w.alloc (.cells #[.int .i64 5, .int .i64 5, .int .i64 5] 3)).alloc (.cells #[.int .i64 0, .int .i64 0, .int .i64 0] 3)) #[.int .i64 2, .int .i64 1] 3
    rw [World.size_alloc, World.size_alloc] at this
    exact this.on (below_new _ _)
  have c3 : Cells (wLit w) (w.heap.size + 3) 3 (intsC [6, 6]).toArray := by
    have := cells_new (((w.alloc (.cells #[.int .i64 5, .int .i64 5, .int .i64 5] 3)).alloc (.cells #[.int .i64 0, .int .i64 0, .int .i64 0] 3)).alloc (.cells #[.int .i64 2, .int .i64 1] 3)) #[.int .i64 6, .int .i64 6] 3
    rw [World.size_alloc, World.size_alloc, World.size_alloc] at this
    exact this
  refine ⟨by show i64 2; unfold i64; omega, _, _, _, _, _, _, _, _, rfl, cells_is c0 (by decide) ?_, cells_is c1 (by decide) ?_, cells_is c2 (by decide) ?_, cells_is c3 (by decide) ?_⟩
  · intro x hx; have hx : x ∈ [5, 5, 5] := hx; simp at hx; subst hx; unfold i64; omega
  · intro x hx; have hx : x ∈ [0, 0, 0] := hx; simp at hx; subst hx; unfold i64; omega
  · intro x hx; have hx : x ∈ [2, 1] := hx; simp at hx; rcases hx with rfl | rfl <;> (unfold i64; omega)
  · intro x hx; have hx : x ∈ [6, 6] := hx; simp at hx; subst hx; unfold i64; omega
set_option maxHeartbeats 8000000 in
set_option maxRecDepth 100000 in
theorem awake_any (w : World) : Calls Try.prog 9 #[] w fun r w' => r = .returned (.bool true) ∧ Below w.heap.size w w' := by
  have C := pack_any 2 (by unfold i64; omega) exR (some ⟨w.heap.size + 3, 0, none⟩) 3 (wRows w) (wRows_at w)
  have H := Lib.hid C
  clear C
  go_enter Try.func9, Try.ntmps9
  go_wp2_with fail
  refine H.out.mono ?_
  rintro r w1 ⟨hb, hcase⟩
  rcases hcase with ⟨_, v, rfl, hv⟩ | ⟨hn, _⟩
  case inr => rw [exR_ok] at hn; cases hn
  rw [exR_pack] at hv
  have hv0 := hv
  obtain ⟨hp, A1, c1, A2, c2, A3, c3, A4, c4, e0, i1, i2, i3, i4⟩ := hv
  have e1 : v = .agg #[.int .i64 2, .slice A1 3 c1, .slice A2 3 c2, .slice A3 2 c3, .slice A4 2 c4] := e0
  subst e1
  clear e0
  have B1 : Below w.heap.size w w1 := (wRows_below w).trans (hb.mono (wRows_below w).size)
  obtain ⟨W1, hW1⟩ : ∃ W, w1.alloc (.cells #[.int .i64 2, .slice A1 3 c1, .slice A2 3 c2, .slice A3 2 c3, .slice A4 2 c4] 27) = W := ⟨_, rfl⟩
  have B2 : Below w1.heap.size w1 W1 := by rw [← hW1]; exact below_new _ _
  have C2 := pkIs_any ((hv0.on B2).on (wLit_below W1)) (wLit_at W1)
  rw [show sameB exP exP = true by decide] at C2
  have B3 := B1.trans ((B2.mono B1.size))
  have HC := Lib.hid (And.intro C2 (And.intro B3 hW1))
  clear C2 B1 B2 B3 hv0 i1 i2 i3 i4 hb hp hW1
  go_wp2_with fail
  have HW := HC.out.2.2
  have h1 : w1.heap.size + 1 = W1.heap.size := by rw [← HW]; simp
  rw [h1]
  rw [HW]
  refine HC.out.1.mono ?_
  rintro r w2 ⟨rfl, hb2⟩
  have HB := Lib.hid (HC.out.2.1.trans (((wLit_below W1).trans (hb2.mono (wLit_below W1).size)).mono HC.out.2.1.size))
  clear hb2
  go_wp2_with fail
  go_ret
  exact ⟨rfl, HB.out⟩
end Go.Proofs.Ytadipgkgllcicaa
