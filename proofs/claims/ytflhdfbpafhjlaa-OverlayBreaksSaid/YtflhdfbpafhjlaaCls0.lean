/-
  Contract: virguleref04.List.
-/
import Derived.Test.YtflhdfbpafhjlaaCpm
namespace Go.Proofs.Ytflhdfbpafhjlaa
open Go.RowKit Go.Shelf Go.Lib

/-- A list of ranges in a block of its own. -/
theorem sw_new (w : World) (xs : List Rng) (T : Nat) (n : Nat) (hn : xs.length = n) (hI : ∀ x ∈ xs, I32 x) (hm : n ≤ maxLen) : SW (w.alloc (.cells (cells2 xs).toArray T)) (some ⟨w.heap.size, 0, none⟩) n xs := by
  subst hn
  refine ⟨⟨Nat.le_refl _, hm, hI, fun _ => ⟨w.heap.size, 0, rfl, by simp, fun i x hx => ?_⟩⟩, .inr ⟨_, _, rfl⟩⟩
  obtain ⟨c1, c2⟩ := cells2_get xs i x hx
  have hc := fun k => cell_of_row (w.alloc (.cells (cells2 xs).toArray T)) w.heap.size k _ T (0, 0) (heap_alloc_new w _)
  simp only [List.getElem?_toArray] at hc
  rw [Nat.zero_add]
  exact ⟨(hc _).trans c1, (hc _).trans c2⟩
theorem sp_new (w : World) (xs : List Rng) (T : Nat) (n : Nat) (hn : xs.length = n) (hI : ∀ x ∈ xs, I32 x) (hm : n ≤ maxLen) : SP xs w (.returned (.slice (some ⟨w.heap.size, 0, none⟩) n n)) (w.alloc (.cells (cells2 xs).toArray T)) :=
  ⟨_, _, by rw [hn], sw_new w xs T n hn hI hm, below_new w _⟩
theorem sp_nil (w : World) : SP [] w (.returned (.slice none 0 0)) w := ⟨none, 0, rfl, SW.nil w, Below.refl _ _⟩
theorem i32_ref : ((List.range 36).all fun c => (refList c).all fun y => decide (-2147483648 ≤ y.1 ∧ y.1 ≤ 2147483647 ∧ -2147483648 ≤ y.2 ∧ y.2 ≤ 2147483647)) = true := by decide +kernel
theorem refList_i32 {c : Nat} (hc : c < 36) : ∀ x ∈ refList c, I32 x := fun x hx => by
  have := List.all_eq_true.1 (List.all_eq_true.1 i32_ref c (List.mem_range.2 hc)) x hx
  simpa [I32] using this
set_option maxHeartbeats 2000000 in
set_option maxRecDepth 100000 in
theorem list_1 (w : World) : Calls Try.prog 21 #[.int .i64 1] w (SP (refList 1) w) := by
  go_enter Try.func21, Try.ntmps21
  go_wp2_with (refine wpList_buildSliceTo rfl 47 56 1 _ rfl _ rfl _ rfl (by kernel_rfl) (cells2 (refList 1)).toArray (by kernel_rfl) ?_)
  go_ret
  exact sp_new w (refList 1) 56 1 rfl (refList_i32 (by decide)) (by unfold maxLen; omega)
set_option maxHeartbeats 2000000 in
set_option maxRecDepth 100000 in
theorem list_2 (w : World) : Calls Try.prog 21 #[.int .i64 2] w (SP (refList 2) w) := by
  go_enter Try.func21, Try.ntmps21
  go_wp2_with (refine wpList_buildSliceTo rfl 47 56 1 _ rfl _ rfl _ rfl (by kernel_rfl) (cells2 (refList 2)).toArray (by kernel_rfl) ?_)
  go_ret
  exact sp_new w (refList 2) 56 1 rfl (refList_i32 (by decide)) (by unfold maxLen; omega)
set_option maxHeartbeats 2000000 in
set_option maxRecDepth 100000 in
theorem list_3 (w : World) : Calls Try.prog 21 #[.int .i64 3] w (SP (refList 3) w) := by
  go_enter Try.func21, Try.ntmps21
  go_wp2_with (refine wpList_buildSliceTo rfl 47 56 3 _ rfl _ rfl _ rfl (by kernel_rfl) (cells2 (refList 3)).toArray (by kernel_rfl) ?_)
  go_ret
  exact sp_new w (refList 3) 56 3 rfl (refList_i32 (by decide)) (by unfold maxLen; omega)
set_option maxHeartbeats 2000000 in
set_option maxRecDepth 100000 in
theorem list_4 (w : World) : Calls Try.prog 21 #[.int .i64 4] w (SP (refList 4) w) := by
  go_enter Try.func21, Try.ntmps21
  go_wp2_with (refine wpList_buildSliceTo rfl 47 56 4 _ rfl _ rfl _ rfl (by kernel_rfl) (cells2 (refList 4)).toArray (by kernel_rfl) ?_)
  go_ret
  exact sp_new w (refList 4) 56 4 rfl (refList_i32 (by decide)) (by unfold maxLen; omega)
set_option maxHeartbeats 2000000 in
set_option maxRecDepth 100000 in
theorem list_5 (w : World) : Calls Try.prog 21 #[.int .i64 5] w (SP (refList 5) w) := by
  go_enter Try.func21, Try.ntmps21
  go_wp2_with (refine wpList_buildSliceTo rfl 47 56 16 _ rfl _ rfl _ rfl (by kernel_rfl) (cells2 (refList 5)).toArray (by kernel_rfl) ?_)
  go_ret
  exact sp_new w (refList 5) 56 16 rfl (refList_i32 (by decide)) (by unfold maxLen; omega)
set_option maxHeartbeats 2000000 in
set_option maxRecDepth 100000 in
theorem list_6 (w : World) : Calls Try.prog 21 #[.int .i64 6] w (SP (refList 6) w) := by
  go_enter Try.func21, Try.ntmps21
  go_wp2_with (refine wpList_buildSliceTo rfl 47 56 1 _ rfl _ rfl _ rfl (by kernel_rfl) (cells2 (refList 6)).toArray (by kernel_rfl) ?_)
  go_ret
  exact sp_new w (refList 6) 56 1 rfl (refList_i32 (by decide)) (by unfold maxLen; omega)
set_option maxHeartbeats 2000000 in
set_option maxRecDepth 100000 in
theorem list_7 (w : World) : Calls Try.prog 21 #[.int .i64 7] w (SP (refList 7) w) := by
  go_enter Try.func21, Try.ntmps21
  go_wp2_with (refine wpList_buildSliceTo rfl 47 56 5 _ rfl _ rfl _ rfl (by kernel_rfl) (cells2 (refList 7)).toArray (by kernel_rfl) ?_)
  go_ret
  exact sp_new w (refList 7) 56 5 rfl (refList_i32 (by decide)) (by unfold maxLen; omega)
set_option maxHeartbeats 2000000 in
set_option maxRecDepth 100000 in
theorem list_8 (w : World) : Calls Try.prog 21 #[.int .i64 8] w (SP (refList 8) w) := by
  go_enter Try.func21, Try.ntmps21
  go_wp2_with (refine wpList_buildSliceTo rfl 47 56 1 _ rfl _ rfl _ rfl (by kernel_rfl) (cells2 (refList 8)).toArray (by kernel_rfl) ?_)
  go_ret
  exact sp_new w (refList 8) 56 1 rfl (refList_i32 (by decide)) (by unfold maxLen; omega)
set_option maxHeartbeats 2000000 in
set_option maxRecDepth 100000 in
theorem list_9 (w : World) : Calls Try.prog 21 #[.int .i64 9] w (SP (refList 9) w) := by
  go_enter Try.func21, Try.ntmps21
  go_wp2_with (refine wpList_buildSliceTo rfl 47 56 2 _ rfl _ rfl _ rfl (by kernel_rfl) (cells2 (refList 9)).toArray (by kernel_rfl) ?_)
  go_ret
  exact sp_new w (refList 9) 56 2 rfl (refList_i32 (by decide)) (by unfold maxLen; omega)
set_option maxHeartbeats 2000000 in
set_option maxRecDepth 100000 in
theorem list_10 (w : World) : Calls Try.prog 21 #[.int .i64 10] w (SP (refList 10) w) := by
  go_enter Try.func21, Try.ntmps21
  go_wp2_with (refine wpList_buildSliceTo rfl 47 56 3 _ rfl _ rfl _ rfl (by kernel_rfl) (cells2 (refList 10)).toArray (by kernel_rfl) ?_)
  go_ret
  exact sp_new w (refList 10) 56 3 rfl (refList_i32 (by decide)) (by unfold maxLen; omega)
set_option maxHeartbeats 2000000 in
set_option maxRecDepth 100000 in
theorem list_11 (w : World) : Calls Try.prog 21 #[.int .i64 11] w (SP (refList 11) w) := by
  go_enter Try.func21, Try.ntmps21
  go_wp2_with (refine wpList_buildSliceTo rfl 47 56 2 _ rfl _ rfl _ rfl (by kernel_rfl) (cells2 (refList 11)).toArray (by kernel_rfl) ?_)
  go_ret
  exact sp_new w (refList 11) 56 2 rfl (refList_i32 (by decide)) (by unfold maxLen; omega)
set_option maxHeartbeats 2000000 in
set_option maxRecDepth 100000 in
theorem list_12 (w : World) : Calls Try.prog 21 #[.int .i64 12] w (SP (refList 12) w) := by
  go_enter Try.func21, Try.ntmps21
  go_wp2_with (refine wpList_buildSliceTo rfl 47 56 2 _ rfl _ rfl _ rfl (by kernel_rfl) (cells2 (refList 12)).toArray (by kernel_rfl) ?_)
  go_ret
  exact sp_new w (refList 12) 56 2 rfl (refList_i32 (by decide)) (by unfold maxLen; omega)
set_option maxHeartbeats 2000000 in
set_option maxRecDepth 100000 in
theorem list_13 (w : World) : Calls Try.prog 21 #[.int .i64 13] w (SP (refList 13) w) := by
  go_enter Try.func21, Try.ntmps21
  go_wp2_with (refine wpList_buildSliceTo rfl 47 56 2 _ rfl _ rfl _ rfl (by kernel_rfl) (cells2 (refList 13)).toArray (by kernel_rfl) ?_)
  go_ret
  exact sp_new w (refList 13) 56 2 rfl (refList_i32 (by decide)) (by unfold maxLen; omega)
set_option maxHeartbeats 2000000 in
set_option maxRecDepth 100000 in
theorem list_16 (w : World) : Calls Try.prog 21 #[.int .i64 16] w (SP (refList 16) w) := by
  go_enter Try.func21, Try.ntmps21
  go_wp2_with (refine wpList_buildSliceTo rfl 47 56 9 _ rfl _ rfl _ rfl (by kernel_rfl) (cells2 (refList 16)).toArray (by kernel_rfl) ?_)
  go_ret
  exact sp_new w (refList 16) 56 9 rfl (refList_i32 (by decide)) (by unfold maxLen; omega)
set_option maxHeartbeats 2000000 in
set_option maxRecDepth 100000 in
theorem list_17 (w : World) : Calls Try.prog 21 #[.int .i64 17] w (SP (refList 17) w) := by
  go_enter Try.func21, Try.ntmps21
  go_wp2_with (refine wpList_buildSliceTo rfl 47 56 7 _ rfl _ rfl _ rfl (by kernel_rfl) (cells2 (refList 17)).toArray (by kernel_rfl) ?_)
  go_ret
  exact sp_new w (refList 17) 56 7 rfl (refList_i32 (by decide)) (by unfold maxLen; omega)
set_option maxHeartbeats 2000000 in
set_option maxRecDepth 100000 in
theorem list_18 (w : World) : Calls Try.prog 21 #[.int .i64 18] w (SP (refList 18) w) := by
  go_enter Try.func21, Try.ntmps21
  go_wp2_with (refine wpList_buildSliceTo rfl 47 56 9 _ rfl _ rfl _ rfl (by kernel_rfl) (cells2 (refList 18)).toArray (by kernel_rfl) ?_)
  go_ret
  exact sp_new w (refList 18) 56 9 rfl (refList_i32 (by decide)) (by unfold maxLen; omega)
set_option maxHeartbeats 2000000 in
set_option maxRecDepth 100000 in
theorem list_19 (w : World) : Calls Try.prog 21 #[.int .i64 19] w (SP (refList 19) w) := by
  go_enter Try.func21, Try.ntmps21
  go_wp2_with (refine wpList_buildSliceTo rfl 47 56 3 _ rfl _ rfl _ rfl (by kernel_rfl) (cells2 (refList 19)).toArray (by kernel_rfl) ?_)
  go_ret
  exact sp_new w (refList 19) 56 3 rfl (refList_i32 (by decide)) (by unfold maxLen; omega)
set_option maxHeartbeats 2000000 in
set_option maxRecDepth 100000 in
theorem list_20 (w : World) : Calls Try.prog 21 #[.int .i64 20] w (SP (refList 20) w) := by
  go_enter Try.func21, Try.ntmps21
  go_wp2_with (refine wpList_buildSliceTo rfl 47 56 4 _ rfl _ rfl _ rfl (by kernel_rfl) (cells2 (refList 20)).toArray (by kernel_rfl) ?_)
  go_ret
  exact sp_new w (refList 20) 56 4 rfl (refList_i32 (by decide)) (by unfold maxLen; omega)
set_option maxHeartbeats 2000000 in
set_option maxRecDepth 100000 in
theorem list_21 (w : World) : Calls Try.prog 21 #[.int .i64 21] w (SP (refList 21) w) := by
  go_enter Try.func21, Try.ntmps21
  go_wp2_with (refine wpList_buildSliceTo rfl 47 56 5 _ rfl _ rfl _ rfl (by kernel_rfl) (cells2 (refList 21)).toArray (by kernel_rfl) ?_)
  go_ret
  exact sp_new w (refList 21) 56 5 rfl (refList_i32 (by decide)) (by unfold maxLen; omega)
set_option maxHeartbeats 2000000 in
set_option maxRecDepth 100000 in
theorem list_22 (w : World) : Calls Try.prog 21 #[.int .i64 22] w (SP (refList 22) w) := by
  go_enter Try.func21, Try.ntmps21
  go_wp2_with (refine wpList_buildSliceTo rfl 47 56 4 _ rfl _ rfl _ rfl (by kernel_rfl) (cells2 (refList 22)).toArray (by kernel_rfl) ?_)
  go_ret
  exact sp_new w (refList 22) 56 4 rfl (refList_i32 (by decide)) (by unfold maxLen; omega)
set_option maxHeartbeats 2000000 in
set_option maxRecDepth 100000 in
theorem list_23 (w : World) : Calls Try.prog 21 #[.int .i64 23] w (SP (refList 23) w) := by
  go_enter Try.func21, Try.ntmps21
  go_wp2_with (refine wpList_buildSliceTo rfl 47 56 2 _ rfl _ rfl _ rfl (by kernel_rfl) (cells2 (refList 23)).toArray (by kernel_rfl) ?_)
  go_ret
  exact sp_new w (refList 23) 56 2 rfl (refList_i32 (by decide)) (by unfold maxLen; omega)
set_option maxHeartbeats 2000000 in
set_option maxRecDepth 100000 in
theorem list_24 (w : World) : Calls Try.prog 21 #[.int .i64 24] w (SP (refList 24) w) := by
  go_enter Try.func21, Try.ntmps21
  go_wp2_with (refine wpList_buildSliceTo rfl 47 56 3 _ rfl _ rfl _ rfl (by kernel_rfl) (cells2 (refList 24)).toArray (by kernel_rfl) ?_)
  go_ret
  exact sp_new w (refList 24) 56 3 rfl (refList_i32 (by decide)) (by unfold maxLen; omega)
set_option maxHeartbeats 2000000 in
set_option maxRecDepth 100000 in
theorem list_25 (w : World) : Calls Try.prog 21 #[.int .i64 25] w (SP (refList 25) w) := by
  go_enter Try.func21, Try.ntmps21
  go_wp2_with (refine wpList_buildSliceTo rfl 47 56 3 _ rfl _ rfl _ rfl (by kernel_rfl) (cells2 (refList 25)).toArray (by kernel_rfl) ?_)
  go_ret
  exact sp_new w (refList 25) 56 3 rfl (refList_i32 (by decide)) (by unfold maxLen; omega)
set_option maxHeartbeats 2000000 in
set_option maxRecDepth 100000 in
theorem list_26 (w : World) : Calls Try.prog 21 #[.int .i64 26] w (SP (refList 26) w) := by
  go_enter Try.func21, Try.ntmps21
  go_wp2_with (refine wpList_buildSliceTo rfl 47 56 2 _ rfl _ rfl _ rfl (by kernel_rfl) (cells2 (refList 26)).toArray (by kernel_rfl) ?_)
  go_ret
  exact sp_new w (refList 26) 56 2 rfl (refList_i32 (by decide)) (by unfold maxLen; omega)
set_option maxHeartbeats 2000000 in
set_option maxRecDepth 100000 in
theorem list_27 (w : World) : Calls Try.prog 21 #[.int .i64 27] w (SP (refList 27) w) := by
  go_enter Try.func21, Try.ntmps21
  go_wp2_with (refine wpList_buildSliceTo rfl 47 56 3 _ rfl _ rfl _ rfl (by kernel_rfl) (cells2 (refList 27)).toArray (by kernel_rfl) ?_)
  go_ret
  exact sp_new w (refList 27) 56 3 rfl (refList_i32 (by decide)) (by unfold maxLen; omega)
set_option maxHeartbeats 2000000 in
set_option maxRecDepth 100000 in
theorem list_28 (w : World) : Calls Try.prog 21 #[.int .i64 28] w (SP (refList 28) w) := by
  go_enter Try.func21, Try.ntmps21
  go_wp2_with (refine wpList_buildSliceTo rfl 47 56 2 _ rfl _ rfl _ rfl (by kernel_rfl) (cells2 (refList 28)).toArray (by kernel_rfl) ?_)
  go_ret
  exact sp_new w (refList 28) 56 2 rfl (refList_i32 (by decide)) (by unfold maxLen; omega)
set_option maxHeartbeats 2000000 in
set_option maxRecDepth 100000 in
theorem list_29 (w : World) : Calls Try.prog 21 #[.int .i64 29] w (SP (refList 29) w) := by
  go_enter Try.func21, Try.ntmps21
  go_wp2_with (refine wpList_buildSliceTo rfl 47 56 7 _ rfl _ rfl _ rfl (by kernel_rfl) (cells2 (refList 29)).toArray (by kernel_rfl) ?_)
  go_ret
  exact sp_new w (refList 29) 56 7 rfl (refList_i32 (by decide)) (by unfold maxLen; omega)
set_option maxHeartbeats 2000000 in
set_option maxRecDepth 100000 in
theorem list_30 (w : World) : Calls Try.prog 21 #[.int .i64 30] w (SP (refList 30) w) := by
  go_enter Try.func21, Try.ntmps21
  go_wp2_with (refine wpList_buildSliceTo rfl 47 56 7 _ rfl _ rfl _ rfl (by kernel_rfl) (cells2 (refList 30)).toArray (by kernel_rfl) ?_)
  go_ret
  exact sp_new w (refList 30) 56 7 rfl (refList_i32 (by decide)) (by unfold maxLen; omega)
set_option maxHeartbeats 2000000 in
set_option maxRecDepth 100000 in
theorem list_31 (w : World) : Calls Try.prog 21 #[.int .i64 31] w (SP (refList 31) w) := by
  go_enter Try.func21, Try.ntmps21
  go_wp2_with (refine wpList_buildSliceTo rfl 47 56 8 _ rfl _ rfl _ rfl (by kernel_rfl) (cells2 (refList 31)).toArray (by kernel_rfl) ?_)
  go_ret
  exact sp_new w (refList 31) 56 8 rfl (refList_i32 (by decide)) (by unfold maxLen; omega)
set_option maxHeartbeats 2000000 in
set_option maxRecDepth 100000 in
theorem list_32 (w : World) : Calls Try.prog 21 #[.int .i64 32] w (SP (refList 32) w) := by
  go_enter Try.func21, Try.ntmps21
  go_wp2_with (refine wpList_buildSliceTo rfl 47 56 10 _ rfl _ rfl _ rfl (by kernel_rfl) (cells2 (refList 32)).toArray (by kernel_rfl) ?_)
  go_ret
  exact sp_new w (refList 32) 56 10 rfl (refList_i32 (by decide)) (by unfold maxLen; omega)
set_option maxHeartbeats 2000000 in
set_option maxRecDepth 100000 in
theorem list_33 (w : World) : Calls Try.prog 21 #[.int .i64 33] w (SP (refList 33) w) := by
  go_enter Try.func21, Try.ntmps21
  go_wp2_with (refine wpList_buildSliceTo rfl 47 56 3 _ rfl _ rfl _ rfl (by kernel_rfl) (cells2 (refList 33)).toArray (by kernel_rfl) ?_)
  go_ret
  exact sp_new w (refList 33) 56 3 rfl (refList_i32 (by decide)) (by unfold maxLen; omega)
set_option maxHeartbeats 2000000 in
set_option maxRecDepth 100000 in
theorem list_34 (w : World) : Calls Try.prog 21 #[.int .i64 34] w (SP (refList 34) w) := by
  go_enter Try.func21, Try.ntmps21
  go_wp2_with (refine wpList_buildSliceTo rfl 47 56 4 _ rfl _ rfl _ rfl (by kernel_rfl) (cells2 (refList 34)).toArray (by kernel_rfl) ?_)
  go_ret
  exact sp_new w (refList 34) 56 4 rfl (refList_i32 (by decide)) (by unfold maxLen; omega)
set_option maxHeartbeats 2000000 in
set_option maxRecDepth 100000 in
theorem list_35 (w : World) : Calls Try.prog 21 #[.int .i64 35] w (SP (refList 35) w) := by
  go_enter Try.func21, Try.ntmps21
  go_wp2_with (refine wpList_buildSliceTo rfl 47 56 1 _ rfl _ rfl _ rfl (by kernel_rfl) (cells2 (refList 35)).toArray (by kernel_rfl) ?_)
  go_ret
  exact sp_new w (refList 35) 56 1 rfl (refList_i32 (by decide)) (by unfold maxLen; omega)
set_option maxHeartbeats 2000000 in
set_option maxRecDepth 100000 in
theorem list_14 (w : World) : Calls Try.prog 21 #[.int .i64 14] w (SP (refList 14) w) := by
  go_enter Try.func21, Try.ntmps21
  go_wp2
  go_ret
  exact sp_nil w
set_option maxHeartbeats 2000000 in
set_option maxRecDepth 100000 in
theorem list_15 (w : World) : Calls Try.prog 21 #[.int .i64 15] w (SP (refList 15) w) := by
  go_enter Try.func21, Try.ntmps21
  go_wp2
  go_ret
  exact sp_nil w
theorem list_any (c : Nat) (h0 : 0 < c) (h : c < 36) (w : World) : Calls Try.prog 21 #[.int .i64 (c : Int)] w (SP (refList c) w) :=
  match c, h0, h with
  | 1, _, _ => list_1 w
  | 2, _, _ => list_2 w
  | 3, _, _ => list_3 w
  | 4, _, _ => list_4 w
  | 5, _, _ => list_5 w
  | 6, _, _ => list_6 w
  | 7, _, _ => list_7 w
  | 8, _, _ => list_8 w
  | 9, _, _ => list_9 w
  | 10, _, _ => list_10 w
  | 11, _, _ => list_11 w
  | 12, _, _ => list_12 w
  | 13, _, _ => list_13 w
  | 14, _, _ => list_14 w
  | 15, _, _ => list_15 w
  | 16, _, _ => list_16 w
  | 17, _, _ => list_17 w
  | 18, _, _ => list_18 w
  | 19, _, _ => list_19 w
  | 20, _, _ => list_20 w
  | 21, _, _ => list_21 w
  | 22, _, _ => list_22 w
  | 23, _, _ => list_23 w
  | 24, _, _ => list_24 w
  | 25, _, _ => list_25 w
  | 26, _, _ => list_26 w
  | 27, _, _ => list_27 w
  | 28, _, _ => list_28 w
  | 29, _, _ => list_29 w
  | 30, _, _ => list_30 w
  | 31, _, _ => list_31 w
  | 32, _, _ => list_32 w
  | 33, _, _ => list_33 w
  | 34, _, _ => list_34 w
  | 35, _, _ => list_35 w
  | 0, h, _ => absurd h (by omega)
  | n + 36, _, h => absurd h (by omega)
end Go.Proofs.Ytflhdfbpafhjlaa
