/-
  The first run of layer 3: the document's example.
-/
import Derived.Test.YtphhdkffnboboaaNw
namespace Go.Proofs.Ytphhdkffnboboaa
open Go.RowKit Go.Shelf
open Go.Lib Go.Great Go.Maps

theorem dd_first (F : Nat → Int) : dd F 1 = [0] := by rw [dd_succ]; rfl
theorem dd_one (F : Nat → Int) (h : ∀ i, 1 ≤ i → i < 4352 → sameB F 0 i = true) : ∀ m, m + 1 ≤ 4352 → dd F (m + 1) = [0] := by
  intro m
  induction m with
  | zero => intro _; exact dd_first F
  | succ m ih =>
    intro hm
    rw [dd_succ, ih (by omega), if_pos (by simp [h (m + 1) (by omega) (by omega)])]
theorem dd_two (F : Nat → Int) (h0 : sameB F 0 1 = false) (h : ∀ i, 1 ≤ i → i < 4352 → sameB F 1 i = true) : ∀ m, m + 2 ≤ 4352 → dd F (m + 2) = [0, 1] := by
  intro m
  induction m with
  | zero => intro _; rw [dd_succ, dd_first, if_neg (by simp [h0])]; rfl
  | succ m ih =>
    intro hm
    rw [dd_succ, ih (by omega), if_pos (by simp [h (m + 2) (by omega) (by omega)])]
theorem sameB_of (F : Nat → Int) (k i : Nat) (h : ∀ j, j < 256 → F (256 * k + j) = F (256 * i + j)) : sameB F k i = true := by
  unfold sameB
  rw [List.all_eq_true]
  intro j hj
  rw [h j (List.mem_range.1 hj)]
  simp
theorem sameB_not (F : Nat → Int) (k i j : Nat) (hj : j < 256) (h : F (256 * k + j) ≠ F (256 * i + j)) : sameB F k i = false := by
  rw [Bool.eq_false_iff]
  intro hs
  unfold sameB at hs
  have := List.all_eq_true.1 hs j (List.mem_range.2 hj)
  exact h (eq_of_beq this)

def awEs (N : Nat) : List En := [⟨some ⟨N, 0, none⟩, 1, [(97, 99)], 5⟩, ⟨some ⟨N + 1, 0, none⟩, 1, [(99, 99)], 7⟩]
def awF (i : Nat) : Int := if i = 99 then 7 else if i = 97 ∨ i = 98 then 5 else 0
theorem aw_fold (N : Nat) (i : Nat) : (awEs N).foldl (fun v e => if hasR e.xs i then e.c else v) 0 = awF i := by
  simp only [awEs, List.foldl_cons, List.foldl_nil, hasR, List.any_cons, List.any_nil, Bool.or_false, Bool.and_eq_true, decide_eq_true_eq, awF]
  by_cases c : i = 99
  · subst c; rfl
  · rw [if_neg (by omega), if_neg c]
    by_cases c2 : i = 97 ∨ i = 98
    · rw [if_pos (by omega), if_pos c2]
    · rw [if_neg (by omega), if_neg c2]
theorem aw_dd (F : Nat → Int) (h : ∀ i : Nat, i < 1114112 → F i = awF i) : (dd F 4352).length = 2 := by
  have := dd_two F (sameB_not F 0 1 97 (by omega) (by rw [h _ (by omega), h _ (by omega)]; decide)) (fun i h1 h2 => sameB_of F 1 i fun j hj => by
    rw [h _ (by omega), h _ (by omega)]
    unfold awF
    rw [if_neg (by omega), if_neg (by omega), if_neg (by omega), if_neg (by omega)]) 4350 (by omega)
  rw [this]
  rfl
theorem aw_heap (w : World) (a b c : Obj) : (((w.alloc a).alloc b).alloc c).heap[w.heap.size]? = some a ∧ (((w.alloc a).alloc b).alloc c).heap[w.heap.size + 1]? = some b ∧ (((w.alloc a).alloc b).alloc c).heap[w.heap.size + 1 + 1]? = some c ∧ (((w.alloc a).alloc b).alloc c).heap.size = w.heap.size + 1 + 1 + 1 := by
  have s1 : (w.alloc a).heap.size = w.heap.size + 1 := by simp
  have s2 : ((w.alloc a).alloc b).heap.size = w.heap.size + 1 + 1 := by simp
  have s3 : (((w.alloc a).alloc b).alloc c).heap.size = w.heap.size + 1 + 1 + 1 := by simp
  have k2 := (below_new ((w.alloc a).alloc b) c).block
  have k1 := (below_new (w.alloc a) b).block
  have n3 := heap_alloc_new ((w.alloc a).alloc b) c
  have n2 := heap_alloc_new (w.alloc a) b
  have n1 := heap_alloc_new w a
  rw [s2] at n3 k2
  rw [s1] at n2 k1
  exact ⟨(k2 _ (by omega)).trans ((k1 _ (by omega)).trans n1), (k2 _ (by omega)).trans n2, n3, s3⟩
theorem aw_ES (w : World) : ES (((w.alloc (.cells #[.int .i32 97, .int .i32 99] 70)).alloc (.cells #[.int .i32 99, .int .i32 99] 70)).alloc (.cells #[.slice (some ⟨w.heap.size, 0, none⟩) 1 1, .int .i64 5, .slice (some ⟨w.heap.size + 1, 0, none⟩) 1 1, .int .i64 7] 72))
    (((w.alloc (.cells #[.int .i32 97, .int .i32 99] 70)).alloc (.cells #[.int .i32 99, .int .i32 99] 70)).alloc (.cells #[.slice (some ⟨w.heap.size, 0, none⟩) 1 1, .int .i64 5, .slice (some ⟨w.heap.size + 1, 0, none⟩) 1 1, .int .i64 7] 72)).heap.size (some ⟨w.heap.size + 1 + 1, 0, none⟩) 2 (awEs w.heap.size) := by
  obtain ⟨h0, h1, h2, h3⟩ := aw_heap w (.cells #[.int .i32 97, .int .i32 99] 70) (.cells #[.int .i32 99, .int .i32 99] 70) (.cells #[.slice (some ⟨w.heap.size, 0, none⟩) 1 1, .int .i64 5, .slice (some ⟨w.heap.size + 1, 0, none⟩) 1 1, .int .i64 7] 72)
  generalize ((w.alloc (.cells #[.int .i32 97, .int .i32 99] 70)).alloc (.cells #[.int .i32 99, .int .i32 99] 70)).alloc (.cells #[.slice (some ⟨w.heap.size, 0, none⟩) 1 1, .int .i64 5, .slice (some ⟨w.heap.size + 1, 0, none⟩) 1 1, .int .i64 7] 72) = W at *
  generalize w.heap.size = N at *
  have one : ∀ (x y : Int), I32 (x, y) → ∀ b : Nat, W.cell? ⟨b, 0, none⟩ = some (.int .i32 x) → W.cell? ⟨b, 1, none⟩ = some (.int .i32 y) → b < W.heap.size → RS W W.heap.size (some ⟨b, 0, none⟩) 1 [(x, y)] := fun x y hI b h1 h2 h3 =>
    ⟨Nat.le_refl _, by unfold maxLen; omega, by simpa using hI, fun _ => ⟨b, 0, rfl, h3, fun i z hz => by
      match i, hz with
      | 0, hz => simp at hz; subst hz; exact ⟨h1, h2⟩
      | i + 1, hz => simp at hz⟩⟩
  refine ⟨Nat.le_refl _, by unfold maxLen; omega, fun e he => ?_, fun _ => ⟨_, 0, rfl, by omega, fun i z hz => ?_⟩⟩
  · simp only [awEs, List.mem_cons, List.not_mem_nil, or_false] at he
    rcases he with rfl | rfl
    · exact one 97 99 (by unfold I32; omega) _ (cell_of_row W _ 0 _ _ _ h0) (cell_of_row W _ 1 _ _ _ h0) (by omega)
    · exact one 99 99 (by unfold I32; omega) _ (cell_of_row W _ 0 _ _ _ h1) (cell_of_row W _ 1 _ _ _ h1) (by omega)
  · match i, hz with
    | 0, hz => simp [awEs] at hz; subst hz; exact ⟨cell_of_row W _ 0 _ _ _ h2, cell_of_row W _ 1 _ _ _ h2⟩
    | 1, hz => simp [awEs] at hz; subst hz; exact ⟨cell_of_row W _ 2 _ _ _ h2, cell_of_row W _ 3 _ _ _ h2⟩
    | i + 2, hz => simp [awEs] at hz

set_option maxHeartbeats 4000000 in
set_option maxRecDepth 100000 in
theorem taw_any (w : World) : Calls Try.prog 14 #[] w fun e w' => e = .returned (.bool true) ∧ Below w.heap.size w w' := by
  have C := Lib.hid (new_any 0 _ 2 (awEs w.heap.size) _ (aw_ES w) (fun h => by cases h) (by simp [awEs]) (by simp [awEs]))
  have hbw : Below w.heap.size w (((w.alloc (.cells #[.int .i32 97, .int .i32 99] 70)).alloc (.cells #[.int .i32 99, .int .i32 99] 70)).alloc (.cells #[.slice (some ⟨w.heap.size, 0, none⟩) 1 1, .int .i64 5, .slice (some ⟨w.heap.size + 1, 0, none⟩) 1 1, .int .i64 7] 72)) :=
    ((below_new w _).alloc (by simp) _).alloc (by simp; omega) _
  have HB := Lib.hid hbw
  have G := Lib.hid get_any
  have D := Lib.hid blocks_any
  clear hbw
  go_enter Try.func14, Try.ntmps14
  go_wp2_with fail
  refine C.out.mono ?_
  rintro e w1 ⟨hb1, hp⟩
  have hok : (cls 0 && !(awEs w.heap.size).any wrongE) = true := by rfl
  rw [if_pos hok] at hp
  obtain ⟨T, F, rfl, hF, hFi, hT⟩ := hp
  have hFa : ∀ i : Nat, i < 1114112 → F i = awF i := fun i hi => (hFi i hi).trans (aw_fold _ i)
  have hbz := HB.out.trans (hb1.mono HB.out.size)
  have H := Lib.hid (And.intro hT (And.intro hF (And.intro hFa hbz)))
  clear hb1 hok hF hFi hT hFa hbz
  go_wp2_with fail
  refine (G.out T 0 F 98 w1 H.out.1 H.out.2.1 (by omega) (by omega)).mono ?_
  rintro e w2 ⟨rfl, hb2⟩
  have e2 : (if (98 : Int) < 0 ∨ (1114111 : Int) < 98 then 0 else F (98 : Int).toNat) = 5 := by rw [if_neg (by omega)]; exact H.out.2.2.1 98 (by omega)
  rw [e2]
  have hT2 := H.out.1.below hb2
  have hbz2 := H.out.2.2.2.trans (hb2.mono H.out.2.2.2.size)
  have H2 := Lib.hid (And.intro hT2 hbz2)
  clear hT2 hbz2 hb2 e2
  go_wp2_with fail
  refine (G.out T 0 F 99 w2 H2.out.1 H.out.2.1 (by omega) (by omega)).mono ?_
  rintro e w3 ⟨rfl, hb3⟩
  have e2 : (if (99 : Int) < 0 ∨ (1114111 : Int) < 99 then 0 else F (99 : Int).toNat) = 7 := by rw [if_neg (by omega)]; exact H.out.2.2.1 99 (by omega)
  rw [e2]
  have hT2 := H2.out.1.below hb3
  have hbz2 := H2.out.2.trans (hb3.mono H2.out.2.size)
  have H3 := Lib.hid (And.intro hT2 hbz2)
  clear hT2 hbz2 hb3 e2
  go_wp2_with fail
  refine (G.out T 0 F 100 w3 H3.out.1 H.out.2.1 (by omega) (by omega)).mono ?_
  rintro e w4 ⟨rfl, hb4⟩
  have e2 : (if (100 : Int) < 0 ∨ (1114111 : Int) < 100 then 0 else F (100 : Int).toNat) = 0 := by rw [if_neg (by omega)]; exact H.out.2.2.1 100 (by omega)
  rw [e2]
  have hT2 := H3.out.1.below hb4
  have hbz2 := H3.out.2.trans (hb4.mono H3.out.2.size)
  have H4 := Lib.hid (And.intro hT2 hbz2)
  clear hT2 hbz2 hb4 e2
  go_wp2_with fail
  refine (D.out T 0 F w4 H4.out.1).mono ?_
  rintro e w5 ⟨rfl, hb5⟩
  rw [aw_dd F H.out.2.2.1]
  have hbz5 := H4.out.2.trans (hb5.mono H4.out.2.size)
  go_wp2_with fail
  go_ret
  exact ⟨rfl, hbz5⟩
end Go.Proofs.Ytphhdkffnboboaa
