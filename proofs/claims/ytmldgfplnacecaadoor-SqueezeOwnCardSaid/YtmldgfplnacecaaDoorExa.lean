/-
  The example of the law.
-/
import Derived.Test.YtmldgfplnacecaaDoorSqm
namespace Go.Proofs.YtmldgfplnacecaaDoor
open Go.RowKit Go.Shelf Go.Lib Go.Maps Go.Sort

theorem rs_one {w : World} {b q : Nat} {r : List Int} (h : Cells w b 23 #[.slice (some ⟨q, 0, none⟩) r.length r.length]) (hq : Cells w q 3 (intsC r).toArray) (hl : r.length ≤ 1000) (hi : ∀ x ∈ r, i64 x) : RsAt w w.heap.size [r] (some ⟨b, 0, none⟩) 1 := by
  refine ⟨by simp, by unfold maxLen; omega, fun e => (by cases e), fun _ => ⟨b, 0, rfl, h.lt, fun i x hx => ?_⟩⟩
  cases i with
  | zero =>
    simp at hx
    subst hx
    have := h.cell 0
    exact ⟨_, _, by simpa using this, cells_is hq hl hi, fun e => by cases e⟩
  | succ i => simp at hx
theorem us_one {w : World} {b x : Nat} (h : Cells w b 37 #[.int .u64 (x : Int)]) (hx : x < 18446744073709551616) : UsAt w w.heap.size [x] (some ⟨b, 0, none⟩) 1 := by
  refine ⟨by simp, by unfold maxLen; omega, fun e => (by cases e), fun y hy => (by simp at hy; omega), fun _ => ⟨b, 0, rfl, h.lt, fun i y hy => ?_⟩⟩
  cases i with
  | zero =>
    simp at hy
    subst hy
    have := h.cell 0
    simpa using this
  | succ i => simp at hy
theorem ds_one {w : World} {b : Nat} {R : List (List Int)} {T : List Nat} {v0 v1 : Value} (h : Cells w b 54 #[v0, v1]) (hv : TbV w R T (.agg #[v0, v1])) : DsAt w w.heap.size [(R, T)] (some ⟨b, 0, none⟩) := by
  obtain ⟨A, c, A2, c2, e, hR, hT⟩ := hv
  simp at e
  obtain ⟨rfl, rfl⟩ := e
  intro i t ht
  cases i with
  | zero =>
    simp at ht
    subst ht
    have h0 := h.cell 0
    have h1 := h.cell 1
    exact ⟨b, 0, A, c, A2, c2, rfl, h.lt, by simpa using h0, by simpa using h1, hR, hT⟩
  | succ i => simp at ht
/-- The document's example. -/
abbrev exR : List (List Int) := [List.replicate 37 0]
abbrev exT : List Nat := [5]
abbrev exG : List Int := List.replicate 37 0
theorem ex_groups : groupsL [(exR, exT)] = exG := by decide +kernel
theorem ex_right : rightT exR exT = true := by decide +kernel
theorem ex_many : manyL exG = 1 := by decide +kernel
theorem ex_fit : exR.all (fitB exG) = true := by decide +kernel
theorem ex_nar : narR exR exG = [[0]] := by decide +kernel
theorem exG_i64 : ∀ x ∈ exG, i64 x := fun x hx => by have := (List.mem_replicate.1 hx).2; rw [this]; exact i64_zero
theorem exG_len : exG.length = 37 := by simp
set_option maxHeartbeats 8000000 in
set_option maxRecDepth 100000 in
theorem ex_tab (w : World) : ∃ W, ((((w.alloc (.cells (arr 37 fun _ => .int .i64 0) 3)).alloc (.cells #[.slice (some ⟨w.heap.size, 0, none⟩) 37 37] 23)).alloc (.cells #[.int .u64 5] 37)).alloc
    (.cells #[.slice (some ⟨w.heap.size + 1, 0, none⟩) 1 1, .slice (some ⟨w.heap.size + 1 + 1, 0, none⟩) 1 1] 54)) = W ∧ Below w.heap.size w W ∧
    TbV W exR exT (.agg #[.slice (some ⟨w.heap.size + 1, 0, none⟩) 1 1, .slice (some ⟨w.heap.size + 1 + 1, 0, none⟩) 1 1]) ∧ Cells W (w.heap.size + 1 + 1 + 1) 54 #[.slice (some ⟨w.heap.size + 1, 0, none⟩) 1 1, .slice (some ⟨w.heap.size + 1 + 1, 0, none⟩) 1 1] := by
  refine ⟨_, rfl, (((below_new _ _).alloc (by simp) _).alloc (by simp; omega) _).alloc (by simp; omega) _, ?_, ?_⟩
  · have c0 := ((((cells_new w (arr 37 fun _ => .int .i64 0) 3).on (below_new _ (.cells #[.slice (some ⟨w.heap.size, 0, none⟩) 37 37] 23))).on (below_new _ (.cells #[.int .u64 5] 37))).on (below_new _ (.cells #[.slice (some ⟨w.heap.size + 1, 0, none⟩) 1 1, .slice (some ⟨w.heap.size + 1 + 1, 0, none⟩) 1 1] 54)))
    have c1 := (((cells_new (w.alloc (.cells (arr 37 fun _ => .int .i64 0) 3)) #[.slice (some ⟨w.heap.size, 0, none⟩) 37 37] 23).on (below_new _ (.cells #[.int .u64 5] 37))).on (below_new _ (.cells #[.slice (some ⟨w.heap.size + 1, 0, none⟩) 1 1, .slice (some ⟨w.heap.size + 1 + 1, 0, none⟩) 1 1] 54)))
    have c2 := ((cells_new ((w.alloc (.cells (arr 37 fun _ => .int .i64 0) 3)).alloc (.cells #[.slice (some ⟨w.heap.size, 0, none⟩) 37 37] 23)) #[.int .u64 5] 37).on (below_new _ (.cells #[.slice (some ⟨w.heap.size + 1, 0, none⟩) 1 1, .slice (some ⟨w.heap.size + 1 + 1, 0, none⟩) 1 1] 54)))
    rw [World.size_alloc] at c1
    rw [World.size_alloc, World.size_alloc] at c2
    have e : arr 37 (fun _ => .int .i64 0) = (intsC exG).toArray := arr_zero 37
    rw [e] at c0
    exact ⟨_, 1, _, 1, rfl, rs_one (r := exG) c1 c0 (by simp) exG_i64, us_one (x := 5) c2 (by omega)⟩
  · have c3 := cells_new (((w.alloc (.cells (arr 37 fun _ => .int .i64 0) 3)).alloc (.cells #[.slice (some ⟨w.heap.size, 0, none⟩) 37 37] 23)).alloc (.cells #[.int .u64 5] 37)) #[.slice (some ⟨w.heap.size + 1, 0, none⟩) 1 1, .slice (some ⟨w.heap.size + 1 + 1, 0, none⟩) 1 1] 54
    rw [World.size_alloc, World.size_alloc, World.size_alloc] at c3
    exact c3
end Go.Proofs.YtmldgfplnacecaaDoor
