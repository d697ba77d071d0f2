/-
  The names of the classes. Contracts: prop.names, prop.Name, virguleref04.Name.
  Contracts: virguleref04.List: each class's list.
  Contracts: prop.rows: the table of all rows.
  Contracts: virguleref04.Name.
  The library's contracts at this dump: slices.IndexFunc of strings, sort.Search.
  Contracts: prop.Number, with its closure.
  Contracts: prop.row.at, the closure of prop.Class.
  Contracts: prop.Class.
-/
import Derived.Test.YtphhdkffnboboaaPsa
import Derived.Lib.QuietBelow
import Derived.Great.Walk
import Derived.Laws.Rows
import Derived.Laws.Tables
import Derived.Test.YtphhdkffnboboaaPsm
import Derived.Test.YtphhdkffnboboaaPsc
import Derived.Shelf.SlicesE.IndexFunc
import Derived.Shelf.SlSorted.Search
import Derived.Shelf.SlGeneric
import Derived.Ground.SlgfProg
import Derived.Ground.NamesProg
import Derived.Test.YtphhdkffnboboaaProg
namespace Go.Proofs.Ytphhdkffnboboaa
open Go.RowKit Go.Shelf
open Go.Lib Go.Great

def nms : List ByteArray := [{ data := #[79, 116, 104, 101, 114] }, { data := #[67, 82] }, { data := #[76, 70] }, { data := #[78, 101, 119, 108, 105, 110, 101] }, { data := #[67, 111, 110, 116, 114, 111, 108] }, { data := #[69, 120, 116, 101, 110, 100] }, { data := #[90, 87, 74] }, { data := #[70, 111, 114, 109, 97, 116] }, { data := #[82, 101, 103, 105, 111, 110, 97, 108] }, { data := #[80, 114, 101, 112, 101, 110, 100] }, { data := #[83, 112, 97, 99, 105, 110, 103] }, { data := #[76] }, { data := #[86] }, { data := #[84] }, { data := #[76, 86] }, { data := #[76, 86, 84] }, { data := #[80, 105, 99, 116] }, { data := #[85, 112, 112, 101, 114] }, { data := #[76, 111, 119, 101, 114] }, { data := #[76, 101, 116, 116, 101, 114] }, { data := #[75, 97, 116, 97, 107, 97, 110, 97] }, { data := #[73, 100, 101, 111, 103, 114, 97, 112, 104] }, { data := #[68, 105, 103, 105, 116] }, { data := #[77, 105, 100, 76, 101, 116, 116, 101, 114] }, { data := #[77, 105, 100, 78, 117, 109] }, { data := #[68, 111, 116] }, { data := #[65, 112, 111, 115, 116, 114, 111, 112, 104, 101] }, { data := #[81, 117, 111, 116, 101] }, { data := #[74, 111, 105, 110, 101, 114] }, { data := #[83, 112, 97, 99, 101] }, { data := #[84, 101, 114, 109] }, { data := #[79, 112, 101, 110] }, { data := #[67, 108, 111, 115, 101] }, { data := #[72, 121, 112, 104, 101, 110] }, { data := #[71, 108, 117, 101] }, { data := #[71, 97, 112] }]
def NM : Array Value := (nms.map Value.string).toArray
def ZNM : Array Value := Array.replicate 36 (.string { data := #[] })

theorem below_setRow {B : Nat} {w w1 : World} (h : Below B w w1) {g : Nat} (hg : B ≤ g) (cs : Array Value) : Below B w (w1.setRow g cs) :=
  h.trans ⟨rfl, rfl, rfl, by simp, fun k hk => setRow_other _ _ _ _ (by omega)⟩
attribute [local irreducible] wpList Code.wp NM ZNM

set_option maxHeartbeats 1000000 in
set_option maxRecDepth 100000 in
theorem names_any (w : World) : Calls Try.prog 60 #[] w fun e w' => e = .returned (.agg NM) ∧ Below w.heap.size w w' := by
  refine calls_of_wp Try.func60 rfl ?_
  refine wp_anyFrame 2 (by as_aux_lemma => kernel_rfl) rfl fun a0 hs hd => ?_
  apply wp_seq_k; intro K hK
  apply wp_region_lit
  refine wpList_allocTo rfl (some 0) rfl (.pointer (some ⟨w.heap.size, 0, none⟩)) (.cells ZNM 101) (by as_aux_lemma => kernel_rfl) ?_
  apply wpList_nil
  refine hK _ _ ?_
  clear hK K
  apply wp_seq_k; intro K hK
  apply wp_region_lit
  refine wpList_readTo rfl (some 1) rfl (.agg NM) (by as_aux_lemma => kernel_rfl) ?_
  have h0 : ((a0.put (some 0) (.pointer (some ⟨w.heap.size, 0, none⟩))).put (some 1) (.agg NM)).eval (.tmp 0) = .pointer (some ⟨w.heap.size, 0, none⟩) := by
    rw [Act.eval_put_ne _ _ _ _ (by decide), Act.eval_put_same _ _ _ (by omega)]
  have h1 : ((a0.put (some 0) (.pointer (some ⟨w.heap.size, 0, none⟩))).put (some 1) (.agg NM)).eval (.tmp 1) = .agg NM := by
    rw [Act.eval_put_same _ _ _ (by simp only [Act.size_put]; omega)]
  have hz := heap_alloc_new w (.cells ZNM 101)
  refine wpList_store_row rfl 101 _ _ rfl w.heap.size NM h0 h1 101 ZNM hz (by as_aux_lemma => kernel_rfl) (by as_aux_lemma => kernel_rfl) (by as_aux_lemma => kernel_rfl) ?_
  apply wpList_nil
  refine hK _ _ ?_
  clear hK K
  refine wp_ret ?_
  refine bodyPost_ret (v := .agg NM) (results_cell_row rfl _ _ w.heap.size 101 NM (0, 0) (.array 36 9) h0 ?_ (by as_aux_lemma => kernel_rfl) rfl (by as_aux_lemma => kernel_rfl)) hd ⟨rfl, ?_⟩
  · exact setRow_heap _ _ _ _ _ _ hz
  · exact below_setRow (below_new w _) (Nat.le_refl _) _

/-- The name of a class. -/
def nmOf (c : Int) : ByteArray := if 0 ≤ c ∧ c < 36 then nms.getD c.toNat { data := #[] } else { data := #[] }
theorem nm_index_0 (w : World) : (Instr.index 101 (.agg NM) (.int .i64 ((0 : Nat) : Int))).run Try.prog w = .ok (.string (nmOf ((0 : Nat) : Int))) w := by kernel_rfl
theorem nm_index_1 (w : World) : (Instr.index 101 (.agg NM) (.int .i64 ((1 : Nat) : Int))).run Try.prog w = .ok (.string (nmOf ((1 : Nat) : Int))) w := by kernel_rfl
theorem nm_index_2 (w : World) : (Instr.index 101 (.agg NM) (.int .i64 ((2 : Nat) : Int))).run Try.prog w = .ok (.string (nmOf ((2 : Nat) : Int))) w := by kernel_rfl
theorem nm_index_3 (w : World) : (Instr.index 101 (.agg NM) (.int .i64 ((3 : Nat) : Int))).run Try.prog w = .ok (.string (nmOf ((3 : Nat) : Int))) w := by kernel_rfl
theorem nm_index_4 (w : World) : (Instr.index 101 (.agg NM) (.int .i64 ((4 : Nat) : Int))).run Try.prog w = .ok (.string (nmOf ((4 : Nat) : Int))) w := by kernel_rfl
theorem nm_index_5 (w : World) : (Instr.index 101 (.agg NM) (.int .i64 ((5 : Nat) : Int))).run Try.prog w = .ok (.string (nmOf ((5 : Nat) : Int))) w := by kernel_rfl
theorem nm_index_6 (w : World) : (Instr.index 101 (.agg NM) (.int .i64 ((6 : Nat) : Int))).run Try.prog w = .ok (.string (nmOf ((6 : Nat) : Int))) w := by kernel_rfl
theorem nm_index_7 (w : World) : (Instr.index 101 (.agg NM) (.int .i64 ((7 : Nat) : Int))).run Try.prog w = .ok (.string (nmOf ((7 : Nat) : Int))) w := by kernel_rfl
theorem nm_index_8 (w : World) : (Instr.index 101 (.agg NM) (.int .i64 ((8 : Nat) : Int))).run Try.prog w = .ok (.string (nmOf ((8 : Nat) : Int))) w := by kernel_rfl
theorem nm_index_9 (w : World) : (Instr.index 101 (.agg NM) (.int .i64 ((9 : Nat) : Int))).run Try.prog w = .ok (.string (nmOf ((9 : Nat) : Int))) w := by kernel_rfl
theorem nm_index_10 (w : World) : (Instr.index 101 (.agg NM) (.int .i64 ((10 : Nat) : Int))).run Try.prog w = .ok (.string (nmOf ((10 : Nat) : Int))) w := by kernel_rfl
theorem nm_index_11 (w : World) : (Instr.index 101 (.agg NM) (.int .i64 ((11 : Nat) : Int))).run Try.prog w = .ok (.string (nmOf ((11 : Nat) : Int))) w := by kernel_rfl
theorem nm_index_12 (w : World) : (Instr.index 101 (.agg NM) (.int .i64 ((12 : Nat) : Int))).run Try.prog w = .ok (.string (nmOf ((12 : Nat) : Int))) w := by kernel_rfl
theorem nm_index_13 (w : World) : (Instr.index 101 (.agg NM) (.int .i64 ((13 : Nat) : Int))).run Try.prog w = .ok (.string (nmOf ((13 : Nat) : Int))) w := by kernel_rfl
theorem nm_index_14 (w : World) : (Instr.index 101 (.agg NM) (.int .i64 ((14 : Nat) : Int))).run Try.prog w = .ok (.string (nmOf ((14 : Nat) : Int))) w := by kernel_rfl
theorem nm_index_15 (w : World) : (Instr.index 101 (.agg NM) (.int .i64 ((15 : Nat) : Int))).run Try.prog w = .ok (.string (nmOf ((15 : Nat) : Int))) w := by kernel_rfl
theorem nm_index_16 (w : World) : (Instr.index 101 (.agg NM) (.int .i64 ((16 : Nat) : Int))).run Try.prog w = .ok (.string (nmOf ((16 : Nat) : Int))) w := by kernel_rfl
theorem nm_index_17 (w : World) : (Instr.index 101 (.agg NM) (.int .i64 ((17 : Nat) : Int))).run Try.prog w = .ok (.string (nmOf ((17 : Nat) : Int))) w := by kernel_rfl
theorem nm_index_18 (w : World) : (Instr.index 101 (.agg NM) (.int .i64 ((18 : Nat) : Int))).run Try.prog w = .ok (.string (nmOf ((18 : Nat) : Int))) w := by kernel_rfl
theorem nm_index_19 (w : World) : (Instr.index 101 (.agg NM) (.int .i64 ((19 : Nat) : Int))).run Try.prog w = .ok (.string (nmOf ((19 : Nat) : Int))) w := by kernel_rfl
theorem nm_index_20 (w : World) : (Instr.index 101 (.agg NM) (.int .i64 ((20 : Nat) : Int))).run Try.prog w = .ok (.string (nmOf ((20 : Nat) : Int))) w := by kernel_rfl
theorem nm_index_21 (w : World) : (Instr.index 101 (.agg NM) (.int .i64 ((21 : Nat) : Int))).run Try.prog w = .ok (.string (nmOf ((21 : Nat) : Int))) w := by kernel_rfl
theorem nm_index_22 (w : World) : (Instr.index 101 (.agg NM) (.int .i64 ((22 : Nat) : Int))).run Try.prog w = .ok (.string (nmOf ((22 : Nat) : Int))) w := by kernel_rfl
theorem nm_index_23 (w : World) : (Instr.index 101 (.agg NM) (.int .i64 ((23 : Nat) : Int))).run Try.prog w = .ok (.string (nmOf ((23 : Nat) : Int))) w := by kernel_rfl
theorem nm_index_24 (w : World) : (Instr.index 101 (.agg NM) (.int .i64 ((24 : Nat) : Int))).run Try.prog w = .ok (.string (nmOf ((24 : Nat) : Int))) w := by kernel_rfl
theorem nm_index_25 (w : World) : (Instr.index 101 (.agg NM) (.int .i64 ((25 : Nat) : Int))).run Try.prog w = .ok (.string (nmOf ((25 : Nat) : Int))) w := by kernel_rfl
theorem nm_index_26 (w : World) : (Instr.index 101 (.agg NM) (.int .i64 ((26 : Nat) : Int))).run Try.prog w = .ok (.string (nmOf ((26 : Nat) : Int))) w := by kernel_rfl
theorem nm_index_27 (w : World) : (Instr.index 101 (.agg NM) (.int .i64 ((27 : Nat) : Int))).run Try.prog w = .ok (.string (nmOf ((27 : Nat) : Int))) w := by kernel_rfl
theorem nm_index_28 (w : World) : (Instr.index 101 (.agg NM) (.int .i64 ((28 : Nat) : Int))).run Try.prog w = .ok (.string (nmOf ((28 : Nat) : Int))) w := by kernel_rfl
theorem nm_index_29 (w : World) : (Instr.index 101 (.agg NM) (.int .i64 ((29 : Nat) : Int))).run Try.prog w = .ok (.string (nmOf ((29 : Nat) : Int))) w := by kernel_rfl
theorem nm_index_30 (w : World) : (Instr.index 101 (.agg NM) (.int .i64 ((30 : Nat) : Int))).run Try.prog w = .ok (.string (nmOf ((30 : Nat) : Int))) w := by kernel_rfl
theorem nm_index_31 (w : World) : (Instr.index 101 (.agg NM) (.int .i64 ((31 : Nat) : Int))).run Try.prog w = .ok (.string (nmOf ((31 : Nat) : Int))) w := by kernel_rfl
theorem nm_index_32 (w : World) : (Instr.index 101 (.agg NM) (.int .i64 ((32 : Nat) : Int))).run Try.prog w = .ok (.string (nmOf ((32 : Nat) : Int))) w := by kernel_rfl
theorem nm_index_33 (w : World) : (Instr.index 101 (.agg NM) (.int .i64 ((33 : Nat) : Int))).run Try.prog w = .ok (.string (nmOf ((33 : Nat) : Int))) w := by kernel_rfl
theorem nm_index_34 (w : World) : (Instr.index 101 (.agg NM) (.int .i64 ((34 : Nat) : Int))).run Try.prog w = .ok (.string (nmOf ((34 : Nat) : Int))) w := by kernel_rfl
theorem nm_index_35 (w : World) : (Instr.index 101 (.agg NM) (.int .i64 ((35 : Nat) : Int))).run Try.prog w = .ok (.string (nmOf ((35 : Nat) : Int))) w := by kernel_rfl
theorem nm_index (n : Nat) (h : n < 36) (w : World) : (Instr.index 101 (.agg NM) (.int .i64 (n : Int))).run Try.prog w = .ok (.string (nmOf n)) w :=
  match n, h with
  | 0, _ => nm_index_0 w
  | 1, _ => nm_index_1 w
  | 2, _ => nm_index_2 w
  | 3, _ => nm_index_3 w
  | 4, _ => nm_index_4 w
  | 5, _ => nm_index_5 w
  | 6, _ => nm_index_6 w
  | 7, _ => nm_index_7 w
  | 8, _ => nm_index_8 w
  | 9, _ => nm_index_9 w
  | 10, _ => nm_index_10 w
  | 11, _ => nm_index_11 w
  | 12, _ => nm_index_12 w
  | 13, _ => nm_index_13 w
  | 14, _ => nm_index_14 w
  | 15, _ => nm_index_15 w
  | 16, _ => nm_index_16 w
  | 17, _ => nm_index_17 w
  | 18, _ => nm_index_18 w
  | 19, _ => nm_index_19 w
  | 20, _ => nm_index_20 w
  | 21, _ => nm_index_21 w
  | 22, _ => nm_index_22 w
  | 23, _ => nm_index_23 w
  | 24, _ => nm_index_24 w
  | 25, _ => nm_index_25 w
  | 26, _ => nm_index_26 w
  | 27, _ => nm_index_27 w
  | 28, _ => nm_index_28 w
  | 29, _ => nm_index_29 w
  | 30, _ => nm_index_30 w
  | 31, _ => nm_index_31 w
  | 32, _ => nm_index_32 w
  | 33, _ => nm_index_33 w
  | 34, _ => nm_index_34 w
  | 35, _ => nm_index_35 w
  | n + 36, h => absurd h (by omega)

set_option maxHeartbeats 1000000 in
theorem name_any (c : Int) (w : World) : Calls Try.prog 31 #[.int .i64 c] w fun e w' => e = .returned (.string (nmOf c)) ∧ Below w.heap.size w w' := by
  by_cases h : 0 ≤ c ∧ c < 36
  · obtain ⟨h1, h2⟩ := h
    obtain ⟨n, rfl⟩ := Int.eq_ofNat_of_zero_le h1
    have hI := Lib.hid (nm_index n (by omega))
    have d1 : decide ((n : Int) < 0) = false := by simp
    have d2 : decide ((36 : Int) ≤ (n : Int)) = false := by simpa using h2
    go_enter Try.func31, Try.ntmps31
    go_wp2_with fail
    refine (names_any _).mono ?_
    rintro e w1 ⟨rfl, hb⟩
    have hJ := hI.out
    go_wp2
    go_ret
    exact ⟨rfl, hb⟩
  · have e : nmOf c = { data := #[] } := by unfold nmOf; rw [if_neg h]
    rw [e]
    by_cases h1 : c < 0
    · go_enter Try.func31, Try.ntmps31
      go_wp2
      go_ret
      exact ⟨rfl, Below.refl _ _⟩
    · have d1 : decide (c < 0) = false := by simpa using h1
      have h2 : 36 ≤ c := by omega
      go_enter Try.func31, Try.ntmps31
      go_wp2
      go_ret
      exact ⟨rfl, Below.refl _ _⟩
end Go.Proofs.Ytphhdkffnboboaa

namespace Go.Proofs.Ytphhdkffnboboaa
open Go.RowKit Go.Shelf
open Go.Lib Go.Great

/-- A list of ranges in a block of its own. -/
theorem sw_new (w : World) (xs : List Rng) (T : Nat) (n : Nat) (hn : xs.length = n) (hI : ∀ x ∈ xs, I32 x) (hm : n ≤ maxLen) : SW (w.alloc (.cells (cells2 xs).toArray T)) (some ⟨w.heap.size, 0, none⟩) n xs := by
  subst hn
  refine ⟨⟨Nat.le_refl _, hm, hI, fun _ => ⟨w.heap.size, 0, rfl, by simp, fun i x hx => ?_⟩⟩, .inr ⟨_, _, rfl⟩⟩
  obtain ⟨c1, c2⟩ := cells2_get xs i x hx
  have hc := fun k => cell_of_row (w.alloc (.cells (cells2 xs).toArray T)) w.heap.size k _ T (0, 0) (heap_alloc_new w _)
  simp only [List.getElem?_toArray] at hc
  rw [Nat.zero_add]
  exact ⟨(hc _).trans c1, (hc _).trans c2⟩
theorem sp_new (w : World) (xs : List Rng) (T : Nat) (n : Nat) (hn : xs.length = n) (hI : ∀ x ∈ xs, I32 x) (hm : n ≤ maxLen) : SP xs w (.returned (.slice (some ⟨w.heap.size, 0, none⟩) n n)) (w.alloc (.cells (cells2 xs).toArray T)) :=
  ⟨_, _, by rw [hn], sw_new w xs T n hn hI hm, below_new w _⟩
theorem sp_nil (w : World) : SP [] w (.returned (.slice none 0 0)) w := ⟨none, 0, rfl, SW.nil w, Below.refl _ _⟩
theorem i32_ref : ((List.range 36).all fun c => (refList c).all fun y => decide (-2147483648 ≤ y.1 ∧ y.1 ≤ 2147483647 ∧ -2147483648 ≤ y.2 ∧ y.2 ≤ 2147483647)) = true := by decide +kernel
theorem refList_i32 {c : Nat} (hc : c < 36) : ∀ x ∈ refList c, I32 x := fun x hx => by
  have := List.all_eq_true.1 (List.all_eq_true.1 i32_ref c (List.mem_range.2 hc)) x hx
  simpa [I32] using this
set_option maxHeartbeats 2000000 in
set_option maxRecDepth 100000 in
theorem list_1 (w : World) : Calls Try.prog 59 #[.int .i64 1] w (SP (refList 1) w) := by
  go_enter Try.func59, Try.ntmps59
  go_wp2_with (refine wpList_buildSliceTo rfl 36 40 1 _ rfl _ rfl _ rfl (by kernel_rfl) (cells2 (refList 1)).toArray (by kernel_rfl) ?_)
  go_ret
  exact sp_new w (refList 1) 40 1 rfl (refList_i32 (by decide)) (by unfold maxLen; omega)
set_option maxHeartbeats 2000000 in
set_option maxRecDepth 100000 in
theorem list_2 (w : World) : Calls Try.prog 59 #[.int .i64 2] w (SP (refList 2) w) := by
  go_enter Try.func59, Try.ntmps59
  go_wp2_with (refine wpList_buildSliceTo rfl 36 40 1 _ rfl _ rfl _ rfl (by kernel_rfl) (cells2 (refList 2)).toArray (by kernel_rfl) ?_)
  go_ret
  exact sp_new w (refList 2) 40 1 rfl (refList_i32 (by decide)) (by unfold maxLen; omega)
set_option maxHeartbeats 2000000 in
set_option maxRecDepth 100000 in
theorem list_3 (w : World) : Calls Try.prog 59 #[.int .i64 3] w (SP (refList 3) w) := by
  go_enter Try.func59, Try.ntmps59
  go_wp2_with (refine wpList_buildSliceTo rfl 36 40 3 _ rfl _ rfl _ rfl (by kernel_rfl) (cells2 (refList 3)).toArray (by kernel_rfl) ?_)
  go_ret
  exact sp_new w (refList 3) 40 3 rfl (refList_i32 (by decide)) (by unfold maxLen; omega)
set_option maxHeartbeats 2000000 in
set_option maxRecDepth 100000 in
theorem list_4 (w : World) : Calls Try.prog 59 #[.int .i64 4] w (SP (refList 4) w) := by
  go_enter Try.func59, Try.ntmps59
  go_wp2_with (refine wpList_buildSliceTo rfl 36 40 4 _ rfl _ rfl _ rfl (by kernel_rfl) (cells2 (refList 4)).toArray (by kernel_rfl) ?_)
  go_ret
  exact sp_new w (refList 4) 40 4 rfl (refList_i32 (by decide)) (by unfold maxLen; omega)
set_option maxHeartbeats 2000000 in
set_option maxRecDepth 100000 in
theorem list_5 (w : World) : Calls Try.prog 59 #[.int .i64 5] w (SP (refList 5) w) := by
  go_enter Try.func59, Try.ntmps59
  go_wp2_with (refine wpList_buildSliceTo rfl 36 40 16 _ rfl _ rfl _ rfl (by kernel_rfl) (cells2 (refList 5)).toArray (by kernel_rfl) ?_)
  go_ret
  exact sp_new w (refList 5) 40 16 rfl (refList_i32 (by decide)) (by unfold maxLen; omega)
set_option maxHeartbeats 2000000 in
set_option maxRecDepth 100000 in
theorem list_6 (w : World) : Calls Try.prog 59 #[.int .i64 6] w (SP (refList 6) w) := by
  go_enter Try.func59, Try.ntmps59
  go_wp2_with (refine wpList_buildSliceTo rfl 36 40 1 _ rfl _ rfl _ rfl (by kernel_rfl) (cells2 (refList 6)).toArray (by kernel_rfl) ?_)
  go_ret
  exact sp_new w (refList 6) 40 1 rfl (refList_i32 (by decide)) (by unfold maxLen; omega)
set_option maxHeartbeats 2000000 in
set_option maxRecDepth 100000 in
theorem list_7 (w : World) : Calls Try.prog 59 #[.int .i64 7] w (SP (refList 7) w) := by
  go_enter Try.func59, Try.ntmps59
  go_wp2_with (refine wpList_buildSliceTo rfl 36 40 5 _ rfl _ rfl _ rfl (by kernel_rfl) (cells2 (refList 7)).toArray (by kernel_rfl) ?_)
  go_ret
  exact sp_new w (refList 7) 40 5 rfl (refList_i32 (by decide)) (by unfold maxLen; omega)
set_option maxHeartbeats 2000000 in
set_option maxRecDepth 100000 in
theorem list_8 (w : World) : Calls Try.prog 59 #[.int .i64 8] w (SP (refList 8) w) := by
  go_enter Try.func59, Try.ntmps59
  go_wp2_with (refine wpList_buildSliceTo rfl 36 40 1 _ rfl _ rfl _ rfl (by kernel_rfl) (cells2 (refList 8)).toArray (by kernel_rfl) ?_)
  go_ret
  exact sp_new w (refList 8) 40 1 rfl (refList_i32 (by decide)) (by unfold maxLen; omega)
set_option maxHeartbeats 2000000 in
set_option maxRecDepth 100000 in
theorem list_9 (w : World) : Calls Try.prog 59 #[.int .i64 9] w (SP (refList 9) w) := by
  go_enter Try.func59, Try.ntmps59
  go_wp2_with (refine wpList_buildSliceTo rfl 36 40 2 _ rfl _ rfl _ rfl (by kernel_rfl) (cells2 (refList 9)).toArray (by kernel_rfl) ?_)
  go_ret
  exact sp_new w (refList 9) 40 2 rfl (refList_i32 (by decide)) (by unfold maxLen; omega)
set_option maxHeartbeats 2000000 in
set_option maxRecDepth 100000 in
theorem list_10 (w : World) : Calls Try.prog 59 #[.int .i64 10] w (SP (refList 10) w) := by
  go_enter Try.func59, Try.ntmps59
  go_wp2_with (refine wpList_buildSliceTo rfl 36 40 3 _ rfl _ rfl _ rfl (by kernel_rfl) (cells2 (refList 10)).toArray (by kernel_rfl) ?_)
  go_ret
  exact sp_new w (refList 10) 40 3 rfl (refList_i32 (by decide)) (by unfold maxLen; omega)
set_option maxHeartbeats 2000000 in
set_option maxRecDepth 100000 in
theorem list_11 (w : World) : Calls Try.prog 59 #[.int .i64 11] w (SP (refList 11) w) := by
  go_enter Try.func59, Try.ntmps59
  go_wp2_with (refine wpList_buildSliceTo rfl 36 40 2 _ rfl _ rfl _ rfl (by kernel_rfl) (cells2 (refList 11)).toArray (by kernel_rfl) ?_)
  go_ret
  exact sp_new w (refList 11) 40 2 rfl (refList_i32 (by decide)) (by unfold maxLen; omega)
set_option maxHeartbeats 2000000 in
set_option maxRecDepth 100000 in
theorem list_12 (w : World) : Calls Try.prog 59 #[.int .i64 12] w (SP (refList 12) w) := by
  go_enter Try.func59, Try.ntmps59
  go_wp2_with (refine wpList_buildSliceTo rfl 36 40 2 _ rfl _ rfl _ rfl (by kernel_rfl) (cells2 (refList 12)).toArray (by kernel_rfl) ?_)
  go_ret
  exact sp_new w (refList 12) 40 2 rfl (refList_i32 (by decide)) (by unfold maxLen; omega)
set_option maxHeartbeats 2000000 in
set_option maxRecDepth 100000 in
theorem list_13 (w : World) : Calls Try.prog 59 #[.int .i64 13] w (SP (refList 13) w) := by
  go_enter Try.func59, Try.ntmps59
  go_wp2_with (refine wpList_buildSliceTo rfl 36 40 2 _ rfl _ rfl _ rfl (by kernel_rfl) (cells2 (refList 13)).toArray (by kernel_rfl) ?_)
  go_ret
  exact sp_new w (refList 13) 40 2 rfl (refList_i32 (by decide)) (by unfold maxLen; omega)
set_option maxHeartbeats 2000000 in
set_option maxRecDepth 100000 in
theorem list_16 (w : World) : Calls Try.prog 59 #[.int .i64 16] w (SP (refList 16) w) := by
  go_enter Try.func59, Try.ntmps59
  go_wp2_with (refine wpList_buildSliceTo rfl 36 40 9 _ rfl _ rfl _ rfl (by kernel_rfl) (cells2 (refList 16)).toArray (by kernel_rfl) ?_)
  go_ret
  exact sp_new w (refList 16) 40 9 rfl (refList_i32 (by decide)) (by unfold maxLen; omega)
set_option maxHeartbeats 2000000 in
set_option maxRecDepth 100000 in
theorem list_17 (w : World) : Calls Try.prog 59 #[.int .i64 17] w (SP (refList 17) w) := by
  go_enter Try.func59, Try.ntmps59
  go_wp2_with (refine wpList_buildSliceTo rfl 36 40 7 _ rfl _ rfl _ rfl (by kernel_rfl) (cells2 (refList 17)).toArray (by kernel_rfl) ?_)
  go_ret
  exact sp_new w (refList 17) 40 7 rfl (refList_i32 (by decide)) (by unfold maxLen; omega)
set_option maxHeartbeats 2000000 in
set_option maxRecDepth 100000 in
theorem list_18 (w : World) : Calls Try.prog 59 #[.int .i64 18] w (SP (refList 18) w) := by
  go_enter Try.func59, Try.ntmps59
  go_wp2_with (refine wpList_buildSliceTo rfl 36 40 9 _ rfl _ rfl _ rfl (by kernel_rfl) (cells2 (refList 18)).toArray (by kernel_rfl) ?_)
  go_ret
  exact sp_new w (refList 18) 40 9 rfl (refList_i32 (by decide)) (by unfold maxLen; omega)
set_option maxHeartbeats 2000000 in
set_option maxRecDepth 100000 in
theorem list_19 (w : World) : Calls Try.prog 59 #[.int .i64 19] w (SP (refList 19) w) := by
  go_enter Try.func59, Try.ntmps59
  go_wp2_with (refine wpList_buildSliceTo rfl 36 40 3 _ rfl _ rfl _ rfl (by kernel_rfl) (cells2 (refList 19)).toArray (by kernel_rfl) ?_)
  go_ret
  exact sp_new w (refList 19) 40 3 rfl (refList_i32 (by decide)) (by unfold maxLen; omega)
set_option maxHeartbeats 2000000 in
set_option maxRecDepth 100000 in
theorem list_20 (w : World) : Calls Try.prog 59 #[.int .i64 20] w (SP (refList 20) w) := by
  go_enter Try.func59, Try.ntmps59
  go_wp2_with (refine wpList_buildSliceTo rfl 36 40 4 _ rfl _ rfl _ rfl (by kernel_rfl) (cells2 (refList 20)).toArray (by kernel_rfl) ?_)
  go_ret
  exact sp_new w (refList 20) 40 4 rfl (refList_i32 (by decide)) (by unfold maxLen; omega)
set_option maxHeartbeats 2000000 in
set_option maxRecDepth 100000 in
theorem list_21 (w : World) : Calls Try.prog 59 #[.int .i64 21] w (SP (refList 21) w) := by
  go_enter Try.func59, Try.ntmps59
  go_wp2_with (refine wpList_buildSliceTo rfl 36 40 5 _ rfl _ rfl _ rfl (by kernel_rfl) (cells2 (refList 21)).toArray (by kernel_rfl) ?_)
  go_ret
  exact sp_new w (refList 21) 40 5 rfl (refList_i32 (by decide)) (by unfold maxLen; omega)
set_option maxHeartbeats 2000000 in
set_option maxRecDepth 100000 in
theorem list_22 (w : World) : Calls Try.prog 59 #[.int .i64 22] w (SP (refList 22) w) := by
  go_enter Try.func59, Try.ntmps59
  go_wp2_with (refine wpList_buildSliceTo rfl 36 40 4 _ rfl _ rfl _ rfl (by kernel_rfl) (cells2 (refList 22)).toArray (by kernel_rfl) ?_)
  go_ret
  exact sp_new w (refList 22) 40 4 rfl (refList_i32 (by decide)) (by unfold maxLen; omega)
set_option maxHeartbeats 2000000 in
set_option maxRecDepth 100000 in
theorem list_23 (w : World) : Calls Try.prog 59 #[.int .i64 23] w (SP (refList 23) w) := by
  go_enter Try.func59, Try.ntmps59
  go_wp2_with (refine wpList_buildSliceTo rfl 36 40 2 _ rfl _ rfl _ rfl (by kernel_rfl) (cells2 (refList 23)).toArray (by kernel_rfl) ?_)
  go_ret
  exact sp_new w (refList 23) 40 2 rfl (refList_i32 (by decide)) (by unfold maxLen; omega)
set_option maxHeartbeats 2000000 in
set_option maxRecDepth 100000 in
theorem list_24 (w : World) : Calls Try.prog 59 #[.int .i64 24] w (SP (refList 24) w) := by
  go_enter Try.func59, Try.ntmps59
  go_wp2_with (refine wpList_buildSliceTo rfl 36 40 3 _ rfl _ rfl _ rfl (by kernel_rfl) (cells2 (refList 24)).toArray (by kernel_rfl) ?_)
  go_ret
  exact sp_new w (refList 24) 40 3 rfl (refList_i32 (by decide)) (by unfold maxLen; omega)
set_option maxHeartbeats 2000000 in
set_option maxRecDepth 100000 in
theorem list_25 (w : World) : Calls Try.prog 59 #[.int .i64 25] w (SP (refList 25) w) := by
  go_enter Try.func59, Try.ntmps59
  go_wp2_with (refine wpList_buildSliceTo rfl 36 40 3 _ rfl _ rfl _ rfl (by kernel_rfl) (cells2 (refList 25)).toArray (by kernel_rfl) ?_)
  go_ret
  exact sp_new w (refList 25) 40 3 rfl (refList_i32 (by decide)) (by unfold maxLen; omega)
set_option maxHeartbeats 2000000 in
set_option maxRecDepth 100000 in
theorem list_26 (w : World) : Calls Try.prog 59 #[.int .i64 26] w (SP (refList 26) w) := by
  go_enter Try.func59, Try.ntmps59
  go_wp2_with (refine wpList_buildSliceTo rfl 36 40 2 _ rfl _ rfl _ rfl (by kernel_rfl) (cells2 (refList 26)).toArray (by kernel_rfl) ?_)
  go_ret
  exact sp_new w (refList 26) 40 2 rfl (refList_i32 (by decide)) (by unfold maxLen; omega)
set_option maxHeartbeats 2000000 in
set_option maxRecDepth 100000 in
theorem list_27 (w : World) : Calls Try.prog 59 #[.int .i64 27] w (SP (refList 27) w) := by
  go_enter Try.func59, Try.ntmps59
  go_wp2_with (refine wpList_buildSliceTo rfl 36 40 3 _ rfl _ rfl _ rfl (by kernel_rfl) (cells2 (refList 27)).toArray (by kernel_rfl) ?_)
  go_ret
  exact sp_new w (refList 27) 40 3 rfl (refList_i32 (by decide)) (by unfold maxLen; omega)
set_option maxHeartbeats 2000000 in
set_option maxRecDepth 100000 in
theorem list_28 (w : World) : Calls Try.prog 59 #[.int .i64 28] w (SP (refList 28) w) := by
  go_enter Try.func59, Try.ntmps59
  go_wp2_with (refine wpList_buildSliceTo rfl 36 40 2 _ rfl _ rfl _ rfl (by kernel_rfl) (cells2 (refList 28)).toArray (by kernel_rfl) ?_)
  go_ret
  exact sp_new w (refList 28) 40 2 rfl (refList_i32 (by decide)) (by unfold maxLen; omega)
set_option maxHeartbeats 2000000 in
set_option maxRecDepth 100000 in
theorem list_29 (w : World) : Calls Try.prog 59 #[.int .i64 29] w (SP (refList 29) w) := by
  go_enter Try.func59, Try.ntmps59
  go_wp2_with (refine wpList_buildSliceTo rfl 36 40 7 _ rfl _ rfl _ rfl (by kernel_rfl) (cells2 (refList 29)).toArray (by kernel_rfl) ?_)
  go_ret
  exact sp_new w (refList 29) 40 7 rfl (refList_i32 (by decide)) (by unfold maxLen; omega)
set_option maxHeartbeats 2000000 in
set_option maxRecDepth 100000 in
theorem list_30 (w : World) : Calls Try.prog 59 #[.int .i64 30] w (SP (refList 30) w) := by
  go_enter Try.func59, Try.ntmps59
  go_wp2_with (refine wpList_buildSliceTo rfl 36 40 7 _ rfl _ rfl _ rfl (by kernel_rfl) (cells2 (refList 30)).toArray (by kernel_rfl) ?_)
  go_ret
  exact sp_new w (refList 30) 40 7 rfl (refList_i32 (by decide)) (by unfold maxLen; omega)
set_option maxHeartbeats 2000000 in
set_option maxRecDepth 100000 in
theorem list_31 (w : World) : Calls Try.prog 59 #[.int .i64 31] w (SP (refList 31) w) := by
  go_enter Try.func59, Try.ntmps59
  go_wp2_with (refine wpList_buildSliceTo rfl 36 40 8 _ rfl _ rfl _ rfl (by kernel_rfl) (cells2 (refList 31)).toArray (by kernel_rfl) ?_)
  go_ret
  exact sp_new w (refList 31) 40 8 rfl (refList_i32 (by decide)) (by unfold maxLen; omega)
set_option maxHeartbeats 2000000 in
set_option maxRecDepth 100000 in
theorem list_32 (w : World) : Calls Try.prog 59 #[.int .i64 32] w (SP (refList 32) w) := by
  go_enter Try.func59, Try.ntmps59
  go_wp2_with (refine wpList_buildSliceTo rfl 36 40 10 _ rfl _ rfl _ rfl (by kernel_rfl) (cells2 (refList 32)).toArray (by kernel_rfl) ?_)
  go_ret
  exact sp_new w (refList 32) 40 10 rfl (refList_i32 (by decide)) (by unfold maxLen; omega)
set_option maxHeartbeats 2000000 in
set_option maxRecDepth 100000 in
theorem list_33 (w : World) : Calls Try.prog 59 #[.int .i64 33] w (SP (refList 33) w) := by
  go_enter Try.func59, Try.ntmps59
  go_wp2_with (refine wpList_buildSliceTo rfl 36 40 3 _ rfl _ rfl _ rfl (by kernel_rfl) (cells2 (refList 33)).toArray (by kernel_rfl) ?_)
  go_ret
  exact sp_new w (refList 33) 40 3 rfl (refList_i32 (by decide)) (by unfold maxLen; omega)
set_option maxHeartbeats 2000000 in
set_option maxRecDepth 100000 in
theorem list_34 (w : World) : Calls Try.prog 59 #[.int .i64 34] w (SP (refList 34) w) := by
  go_enter Try.func59, Try.ntmps59
  go_wp2_with (refine wpList_buildSliceTo rfl 36 40 4 _ rfl _ rfl _ rfl (by kernel_rfl) (cells2 (refList 34)).toArray (by kernel_rfl) ?_)
  go_ret
  exact sp_new w (refList 34) 40 4 rfl (refList_i32 (by decide)) (by unfold maxLen; omega)
set_option maxHeartbeats 2000000 in
set_option maxRecDepth 100000 in
theorem list_35 (w : World) : Calls Try.prog 59 #[.int .i64 35] w (SP (refList 35) w) := by
  go_enter Try.func59, Try.ntmps59
  go_wp2_with (refine wpList_buildSliceTo rfl 36 40 1 _ rfl _ rfl _ rfl (by kernel_rfl) (cells2 (refList 35)).toArray (by kernel_rfl) ?_)
  go_ret
  exact sp_new w (refList 35) 40 1 rfl (refList_i32 (by decide)) (by unfold maxLen; omega)
set_option maxHeartbeats 2000000 in
set_option maxRecDepth 100000 in
theorem list_14 (w : World) : Calls Try.prog 59 #[.int .i64 14] w (SP (refList 14) w) := by
  go_enter Try.func59, Try.ntmps59
  go_wp2
  go_ret
  exact sp_nil w
set_option maxHeartbeats 2000000 in
set_option maxRecDepth 100000 in
theorem list_15 (w : World) : Calls Try.prog 59 #[.int .i64 15] w (SP (refList 15) w) := by
  go_enter Try.func59, Try.ntmps59
  go_wp2
  go_ret
  exact sp_nil w
theorem list_any (c : Nat) (h0 : 0 < c) (h : c < 36) (w : World) : Calls Try.prog 59 #[.int .i64 (c : Int)] w (SP (refList c) w) :=
  match c, h0, h with
  | 1, _, _ => list_1 w
  | 2, _, _ => list_2 w
  | 3, _, _ => list_3 w
  | 4, _, _ => list_4 w
  | 5, _, _ => list_5 w
  | 6, _, _ => list_6 w
  | 7, _, _ => list_7 w
  | 8, _, _ => list_8 w
  | 9, _, _ => list_9 w
  | 10, _, _ => list_10 w
  | 11, _, _ => list_11 w
  | 12, _, _ => list_12 w
  | 13, _, _ => list_13 w
  | 14, _, _ => list_14 w
  | 15, _, _ => list_15 w
  | 16, _, _ => list_16 w
  | 17, _, _ => list_17 w
  | 18, _, _ => list_18 w
  | 19, _, _ => list_19 w
  | 20, _, _ => list_20 w
  | 21, _, _ => list_21 w
  | 22, _, _ => list_22 w
  | 23, _, _ => list_23 w
  | 24, _, _ => list_24 w
  | 25, _, _ => list_25 w
  | 26, _, _ => list_26 w
  | 27, _, _ => list_27 w
  | 28, _, _ => list_28 w
  | 29, _, _ => list_29 w
  | 30, _, _ => list_30 w
  | 31, _, _ => list_31 w
  | 32, _, _ => list_32 w
  | 33, _, _ => list_33 w
  | 34, _, _ => list_34 w
  | 35, _, _ => list_35 w
  | 0, h, _ => absurd h (by omega)
  | n + 36, _, h => absurd h (by omega)
end Go.Proofs.Ytphhdkffnboboaa

namespace Go.Proofs.Ytphhdkffnboboaa
open Go.RowKit Go.Shelf
open Go.Lib Go.Great

def rcell (x : Row) : List Value := [.int .i32 x.1, .int .i32 x.2.1, .int .i64 (x.2.2 : Int)]
def NR : Array Value := (rowsP.flatMap rcell).toArray
def ZNR : Array Value := (List.replicate 140 [Value.int .i32 0, .int .i32 0, .int .i64 0]).flatten.toArray
/-- One operation that builds a value of what is known. -/
def bstep (P : Program) (t : Array Value) (o : Oper) : Option (Array Value) :=
  match o.guard, o.op, o.dst with
  | none, .build ty parts, some d => (P.built ty (parts.map fun (i, x) => (i, Act.eval { tmps := t, defers := [] } x)).toList).map fun cs => t.setIfInBounds d (.agg cs)
  | _, _, _ => none
theorem eval_tmps (a : Act) (x : Operand) : a.eval x = Act.eval { tmps := a.tmps, defers := [] } x := by cases x <;> rfl
theorem wpList_builds {P : Program} {ops : Array Oper} {Q : Exit → Act → World → Prop} {w : World} {rest : List Oper} (bs : List Oper) : ∀ (a : Act) (t' : Array Value), bs.foldlM (bstep P) a.tmps = some t' → wpList P ops Q rest { a with tmps := t' } w → wpList P ops Q (bs ++ rest) a w := by
  induction bs with
  | nil => intro a t' h k; simp at h; subst h; exact k
  | cons o bs ih =>
    intro a t' h k
    rw [List.foldlM_cons] at h
    cases hs : bstep P a.tmps o with
    | none => rw [hs] at h; cases h
    | some t1 =>
      rw [hs] at h
      have h : bs.foldlM (bstep P) t1 = some t' := h
      unfold bstep at hs
      split at hs
      · rename_i ty parts d hg ho hd
        simp only [Option.map_eq_some_iff] at hs
        obtain ⟨cs, hcs, rfl⟩ := hs
        have e : (parts.map fun (i, x) => (i, a.eval x)) = (parts.map fun (i, x) => (i, Act.eval { tmps := a.tmps, defers := [] } x)) := by
          congr 1
        rw [← e] at hcs
        refine wpList_build hg ty parts ho (by rw [hcs]; rfl) ?_
        rw [hcs]
        have e2 : a.put o.dst (.agg cs) = { a with tmps := a.tmps.setIfInBounds d (.agg cs) } := by rw [hd]; rfl
        show wpList P ops Q (bs ++ rest) (a.put o.dst (.agg cs)) w
        rw [e2]
        exact ih _ t' h k
      · cases hs
def FR (v : Value) : Array Value := (#[v] ++ (rowsP.map fun x => Value.agg (rcell x).toArray).toArray) ++ #[.agg NR]

attribute [local irreducible] wpList Code.wp NR ZNR FR

set_option maxHeartbeats 4000000 in
set_option maxRecDepth 100000 in
theorem rows_any (w : World) : Calls Try.prog 55 #[] w fun e w' => e = .returned (.agg NR) ∧ Below w.heap.size w w' := by
  refine calls_of_wp Try.func55 rfl ?_
  apply wp_seq_k; intro K hK
  apply wp_region_lit
  refine wpList_allocTo rfl (some 0) rfl (.pointer (some ⟨w.heap.size, 0, none⟩)) (.cells ZNR 98) (by as_aux_lemma => kernel_rfl) ?_
  apply wpList_nil
  refine hK _ _ ?_
  clear hK K
  apply wp_seq_k; intro K hK
  apply wp_region_lit
  refine wpList_splitAt 141 _ (List.take_append_drop 141 _).symm ?_
  refine wpList_builds _ _ (FR (.pointer (some ⟨w.heap.size, 0, none⟩))) (by as_aux_lemma => kernel_rfl) ?_
  have hz := heap_alloc_new w (.cells ZNR 98)
  have h0 : ∀ d, Act.eval { tmps := FR (.pointer (some ⟨w.heap.size, 0, none⟩)), defers := d } (.tmp 0) = .pointer (some ⟨w.heap.size, 0, none⟩) := fun d => by as_aux_lemma => kernel_rfl
  have h1 : ∀ d, Act.eval { tmps := FR (.pointer (some ⟨w.heap.size, 0, none⟩)), defers := d } (.tmp 141) = .agg NR := fun d => by as_aux_lemma => kernel_rfl
  refine wpList_store_row rfl 98 (.tmp 0) (.tmp 141) rfl w.heap.size NR (h0 _) (h1 _) 98 ZNR hz (by as_aux_lemma => kernel_rfl) (by as_aux_lemma => kernel_rfl) (by as_aux_lemma => kernel_rfl) ?_
  apply wpList_nil
  refine hK _ _ ?_
  clear hK K
  refine wp_ret ?_
  refine bodyPost_ret (v := .agg NR) (results_cell_row rfl _ _ w.heap.size 98 NR (0, 0) (.array 140 97) (h0 []) ?_ (by as_aux_lemma => kernel_rfl) rfl (by as_aux_lemma => kernel_rfl)) rfl ⟨rfl, ?_⟩
  · exact setRow_heap _ _ _ _ _ _ hz
  · exact below_setRow (below_new w _) (Nat.le_refl _) _
end Go.Proofs.Ytphhdkffnboboaa

namespace Go.Proofs.Ytphhdkffnboboaa
open Go.RowKit Go.Shelf
open Go.Lib Go.Great

theorem nm_cell (n : Nat) (h : n < 36) : NM[n]? = some (.string (nmOf (n : Int))) := by
  have hl : n < nms.length := h
  unfold NM nmOf
  rw [if_pos (by omega)]
  simp [List.getD, hl]

set_option maxHeartbeats 1000000 in
theorem rname_any (c : Int) (w : World) : Calls Try.prog 33 #[.int .i64 c] w fun e w' => e = .returned (.string (nmOf c)) ∧ Below w.heap.size w w' := by
  by_cases h : 0 ≤ c ∧ c < 36
  · obtain ⟨h1, h2⟩ := h
    obtain ⟨n, rfl⟩ := Int.eq_ofNat_of_zero_le h1
    have d1 : decide ((n : Int) < 0) = false := by simp
    have d2 : decide ((35 : Int) < (n : Int)) = false := by simp; omega
    have hc : (w.alloc (.cells NM 9)).cell? ⟨w.heap.size, n, none⟩ = some (.string (nmOf n)) := by
      rw [cell_of_row _ _ _ _ _ _ (heap_alloc_new w (.cells NM 9)), nm_cell n (by omega)]
    have hb := below_new w (.cells NM 9)
    generalize hW : w.alloc (.cells NM 9) = W1 at hc hb
    have HW := Lib.hid hW
    clear hW
    go_enter Try.func33, Try.ntmps33
    go_wp2_with (refine wpList_buildSliceTo rfl 91 9 36 _ rfl _ rfl (some 9) rfl (by kernel_rfl) NM (by kernel_rfl) ?_; rw [HW.out])
    go_ret
    exact ⟨rfl, hb⟩
  · have e : nmOf c = { data := #[] } := by unfold nmOf; rw [if_neg h]
    rw [e]
    by_cases h1 : c < 0
    · go_enter Try.func33, Try.ntmps33
      go_wp2
      go_ret
      exact ⟨rfl, Below.refl _ _⟩
    · have d1 : decide (c < 0) = false := by simpa using h1
      have h2 : 35 < c := by omega
      go_enter Try.func33, Try.ntmps33
      go_wp2
      go_ret
      exact ⟨rfl, Below.refl _ _⟩
end Go.Proofs.Ytphhdkffnboboaa

namespace Go.Proofs
open Go.Shelf
def Try.idxS_ren : Go.Shelf.Ren := ⟨fun | 6 => 61 | n => n, fun | 22 => 91 | 23 => 9 | 25 => 104 | 3 => 3 | 4 => 4 | 0 => 0 | n => n, fun n => n⟩
theorem Try.idxS : Go.Proofs.SlLaysH.n6 Try.prog Try.idxS_ren := {
  mixed := by kernel_rfl
  f6 := ⟨Try.f61.name, by decide, Try.func61.trans (congrArg some (by kernel_rfl))⟩
  t0 := Try.underlying0
  a0 := Try.isAgg0
  z0 := Try.sizeOf0
  v0 := Try.zeroValue0
  t3 := Try.underlying3
  a3 := Try.isAgg3
  z3 := Try.sizeOf3
  v3 := Try.zeroValue3
  t4 := Try.underlying4
  a4 := Try.isAgg4
  z4 := Try.sizeOf4
  v4 := Try.zeroValue4
  t22 := Try.underlying91
  a22 := Try.isAgg91
  z22 := Try.sizeOf91
  v22 := Try.zeroValue91
  a23 := Try.isAgg9
  z23 := Try.sizeOf9
  t25 := Try.underlying104
  a25 := Try.isAgg104
  z25 := Try.sizeOf104
  v25 := Try.zeroValue104 }
def Try.searchL_ren : Go.Shelf.Ren := ⟨fun | 16 => 56 | n => n, fun | 3 => 3 | 4 => 4 | 35 => 62 | 38 => 116 | n => n, fun n => n⟩
theorem Try.searchL : Go.Proofs.SlLaysO.n16 Try.prog Try.searchL_ren := {
  mixed := by kernel_rfl
  f16 := Try.func56.trans (congrArg some (by kernel_rfl))
  t3 := Try.underlying3
  a3 := Try.isAgg3
  z3 := Try.sizeOf3
  v3 := Try.zeroValue3
  t4 := Try.underlying4
  a4 := Try.isAgg4
  z4 := Try.sizeOf4
  v4 := Try.zeroValue4
  t35 := Try.underlying62
  a35 := Try.isAgg62
  z35 := Try.sizeOf62
  v35 := Try.zeroValue62
  t38 := Try.underlying116
  a38 := Try.isAgg116
  z38 := Try.sizeOf116
  v38 := Try.zeroValue116 }
end Go.Proofs

namespace Go.Proofs.Ytphhdkffnboboaa
open Go.RowKit Go.Shelf
open Go.Lib Go.Great

/-- The class of a name, or a negative number. -/
def noOf (s : ByteArray) : Int := Lib.idxBy (fun _ y => y.toList == s.toList) nms default

set_option maxHeartbeats 1000000 in
theorem eqs_any (y s : ByteArray) (b : Nat) (W : World) (hc : W.cell? ⟨b, 0, none⟩ = some (.string s)) :
    FnGives Try.prog 62 #[.pointer (some ⟨b, 0, none⟩)] #[.string y] (.bool (y.toList == s.toList)) W := by
  have C : Calls Try.prog 62 #[.string y, .pointer (some ⟨b, 0, none⟩)] W fun e w' => e = .returned (.bool (y.toList == s.toList)) ∧ ∃ q, w' = W.drewN q := by
    go_enter Try.func62, Try.ntmps62
    go_wp2
    go_ret
    exact ⟨rfl, 0, rfl⟩
  exact C

def okOf (n : Int) : Value := .tuple #[.int .i64 (if n < 0 then 0 else n), .bool (decide (0 ≤ n))]
theorem okOf_neg {n : Int} (h : n < 0) : okOf n = .tuple #[.int .i64 0, .bool false] := by unfold okOf; rw [if_pos h]; simp; omega
theorem okOf_pos {n : Int} (h : ¬ n < 0) : okOf n = .tuple #[.int .i64 n, .bool true] := by unfold okOf; rw [if_neg h]; simp; omega
set_option maxHeartbeats 1000000 in
theorem number_any (s : ByteArray) (w : World) : Calls Try.prog 32 #[.string s] w fun e w' => e = .returned (okOf (noOf s)) ∧ Below w.heap.size w w' := by
  obtain ⟨n, hn⟩ : ∃ n, noOf s = n := ⟨_, rfl⟩
  rw [hn]
  have HN := Lib.hid hn
  clear hn
  go_enter Try.func32, Try.ntmps32
  go_wp2_with fail
  refine (names_any _).mono ?_
  rintro e w1 ⟨rfl, hb1⟩
  have hs1 := hb1.size
  simp at hs1
  have hc1 : w1.cell? ⟨w.heap.size, 0, none⟩ = some (.string s) := by
    rw [hb1.cell (p := ⟨w.heap.size, 0, none⟩) (by simp)]
    exact cell_new_sl w _ _
  have hb2 := (below_new w (.cells #[.string s] 9)).trans (hb1.mono (by simp))
  clear hb1
  have hb3 := (hb2.alloc (by omega) (.cells ZNM 101))
  have hb4 := below_setRow hb3 (g := w1.heap.size) (by omega) NM
  have hz := heap_alloc_new w1 (.cells ZNM 101)
  have hrow := setRow_heap _ _ _ NM _ _ hz
  have hc2 : ((w1.alloc (.cells ZNM 101)).setRow w1.heap.size NM).cell? ⟨w.heap.size, 0, none⟩ = some (.string s) := by
    rw [cell_setRow_other _ _ _ _ (by simp; omega), (below_new w1 _).cell (p := ⟨w.heap.size, 0, none⟩) (by show w.heap.size < w1.heap.size; omega)]
    exact hc1
  go_wp2_with (first
    | refine wpList_allocTo rfl (some 4) rfl (.pointer (some ⟨w1.heap.size, 0, none⟩)) (.cells ZNM 101) (by kernel_rfl) ?_
    | refine wpList_store_row rfl 101 (.tmp 4) (.tmp 6) rfl w1.heap.size NM rfl rfl 101 ZNM hz (by kernel_rfl) (by kernel_rfl) (by kernel_rfl) ?_)
  generalize (w1.alloc (.cells ZNM 101)).setRow w1.heap.size NM = W at *
  have hI := AnyE.slices_IndexFunc Try.idxS Value.string (fun y => y.toList == s.toList) 62 #[.pointer (some ⟨w.heap.size, 0, none⟩)] (fun _ _ => by kernel_rfl) w1.heap.size 0 36 36 nms W
    (fun W' y hb => eqs_any y s _ W' (by rw [hb.cell (p := ⟨w.heap.size, 0, none⟩) (by have := hb4.size; have := (Array.getElem?_eq_some_iff.1 hrow).1; show w.heap.size < W.heap.size; omega)]; exact hc2))
    (by decide) (by decide) (fun j hj => by
      rw [Nat.zero_add, cell_of_row _ _ _ _ _ _ hrow, nm_cell j hj]
      unfold nmOf
      rw [if_pos (by have : nms.length = 36 := rfl; omega), Int.toNat_natCast, List.getD_eq_getElem?_getD, List.getElem?_eq_getElem hj, getElem!_pos nms j hj]
      rfl)
  have hq := Lib.hid hb4
  have hI2 := hI.mono (fun e w' h => (⟨h.1, by obtain ⟨q, rfl⟩ := h.2; exact (hq.out.trans ((below_drewN (Below.refl _ _) q).mono hq.out.size))⟩ : e = .returned (.int .i64 (noOf s)) ∧ Below w.heap.size w w'))
  clear hI hc1 hc2 hb2 hb3 hb4 hz hrow
  rw [HN.out] at hI2
  refine hI2.mono ?_
  rintro e w2 ⟨rfl, hb⟩
  clear hI2
  by_cases hn : n < 0
  · have H := Lib.hid (okOf_neg hn)
    go_wp2
    go_ret2
    exact ⟨by rw [H.out]; rfl, hb⟩
  · have d : decide (n < 0) = false := by simpa using hn
    have H := Lib.hid (okOf_pos hn)
    go_wp2
    go_ret2
    exact ⟨by rw [H.out]; rfl, hb⟩
end Go.Proofs.Ytphhdkffnboboaa

namespace Go.Proofs.Ytphhdkffnboboaa
open Go.RowKit Go.Shelf
open Go.Lib Go.Great

set_option maxHeartbeats 1000000 in
theorem at_any (lo hi : Int) (c : Nat) (r : Int) (w : World) (h0 : 0 ≤ lo) (h1 : lo ≤ r) (h2 : r ≤ 2147483647) :
    Calls Try.prog 58 #[.agg #[.int .i32 lo, .int .i32 hi, .int .i64 (c : Int)], .int .i32 r] w fun e w' => e = .returned (.int .i64 (atRow (lo, hi, c) r : Nat)) ∧ Below w.heap.size w w' := by
  have hb := below_new w (.cells #[.int .i32 lo, .int .i32 hi, .int .i64 (c : Int)] 97)
  have HB := Lib.hid hb
  clear hb
  by_cases c14 : c = 14
  · subst c14
    by_cases cm : (r - lo) % 28 = 0
    · have e : atRow (lo, hi, 14) r = 14 := by unfold atRow; rw [if_neg (by simp [cm])]
      rw [e]
      have d : (((r - lo) % 28 : Int) == 0) = true := by simpa using cm
      have d' : (((r - lo) % 28 : Int) != 0) = false := by simpa using cm
      clear cm e
      go_enter Try.func58, Try.ntmps58
      go_wp2
      go_ret
      exact ⟨rfl, HB.out⟩
    · have e : atRow (lo, hi, 14) r = 15 := by unfold atRow; rw [if_pos ⟨rfl, cm⟩]
      rw [e]
      have d : (((r - lo) % 28 : Int) == 0) = false := by simpa using cm
      have d' : (((r - lo) % 28 : Int) != 0) = true := by simpa using cm
      clear cm e
      go_enter Try.func58, Try.ntmps58
      go_wp2
      go_ret
      exact ⟨rfl, HB.out⟩
  · have e : atRow (lo, hi, c) r = c := by unfold atRow; rw [if_neg (by simp [c14])]
    rw [e]
    have d : (((c : Nat) : Int) == 14) = false := by simp; omega
    have d' : ((c : Nat) == 14) = false := by simpa using c14
    clear e c14
    go_enter Try.func58, Try.ntmps58
    go_wp2
    go_ret
    exact ⟨rfl, HB.out⟩

theorem NR_get (l : List Row) (j : Nat) (x : Row) (h : l[j]? = some x) : (l.flatMap rcell)[j * 3]? = some (.int .i32 x.1) ∧ (l.flatMap rcell)[j * 3 + 1]? = some (.int .i32 x.2.1) ∧ (l.flatMap rcell)[j * 3 + 2]? = some (.int .i64 (x.2.2 : Int)) := by
  induction l generalizing j with
  | nil => simp at h
  | cons y ys ih =>
    have e : (y :: ys).flatMap rcell = .int .i32 y.1 :: .int .i32 y.2.1 :: .int .i64 (y.2.2 : Int) :: ys.flatMap rcell := by simp [rcell]
    rw [e]
    cases j with
    | zero => simp at h; subst h; simp
    | succ j =>
      have := ih j (by simpa using h)
      have e1 : (j + 1) * 3 = j * 3 + 1 + 1 + 1 := by omega
      rw [e1]
      simpa using this
/-- The table in a block of its own. -/
def TabAt (w : World) (g : Nat) : Prop := w.heap[g]? = some (.cells NR 98 (0, 0))
theorem TabAt.cells {w : World} {g : Nat} (h : TabAt w g) {j : Nat} {x : Row} (hx : rowsP[j]? = some x) :
    w.cell? ⟨g, j * 3, none⟩ = some (.int .i32 x.1) ∧ w.cell? ⟨g, j * 3 + 1, none⟩ = some (.int .i32 x.2.1) ∧ w.cell? ⟨g, j * 3 + 2, none⟩ = some (.int .i64 (x.2.2 : Int)) := by
  have h3 := NR_get rowsP j x hx
  have hc := fun k => cell_of_row w g k NR 98 (0, 0) h
  unfold NR at hc
  simp only [List.getElem?_toArray] at hc
  exact ⟨(hc _).trans h3.1, (hc _).trans h3.2.1, (hc _).trans h3.2.2⟩
theorem TabAt.below {w w' : World} {g : Nat} (h : TabAt w g) (hb : Below w.heap.size w w') : TabAt w' g := (hb.block g (Array.getElem?_eq_some_iff.1 h).1).trans h
theorem rows_len : rowsP.length = 140 := by decide +kernel

set_option maxHeartbeats 1000000 in
theorem cls_any (g b : Nat) (r : Int) (i : Nat) (x : Row) (W : World) (hx : rowsP[i]? = some x) (ht : TabAt W g) (hc : W.cell? ⟨b, 0, none⟩ = some (.int .i32 r)) :
    Calls Try.prog 57 #[.int .i64 i, .pointer (some ⟨g, 0, none⟩), .pointer (some ⟨b, 0, none⟩)] W fun e w' => e = .returned (.bool (decide (r ≤ x.2.1))) ∧ ∃ q, w' = W.drewN q := by
  obtain ⟨c1, c2, c3⟩ := ht.cells hx
  have hi : i < 140 := by have := (List.getElem?_eq_some_iff.1 hx).1; rw [rows_len] at this; exact this
  have i0 : (0 : Int) ≤ (i : Int) := by omega
  have i1 : (i : Int) < 140 := by omega
  have e : (⟨g, 0 + i * 3, none⟩ : Addr) = ⟨g, i * 3, none⟩ := by rw [Nat.zero_add]
  obtain ⟨lo, hi', c⟩ := x
  simp only at c1 c2 c3 ⊢
  clear ht hx e
  go_enter Try.func57, Try.ntmps57
  go_wp2
  go_quiet (fail)
  go_wp2
  go_ret
  exact ⟨rfl, _, rfl⟩
end Go.Proofs.Ytphhdkffnboboaa

namespace Go.Proofs.Ytphhdkffnboboaa
open Go.RowKit Go.Shelf
open Go.Lib Go.Great Go.Sort

/-- In rows that rise: the first row that ends no sooner stands behind all those that end sooner. -/
theorem find_count {b : Int} {l : List Row} (h : rises b l = true) (r : Int) : l.find? (fun x => decide (r ≤ x.2.1)) = l[l.countP fun x => !decide (r ≤ x.2.1)]? := by
  induction l generalizing b with
  | nil => rfl
  | cons y ys ih =>
    simp only [rises, Bool.and_eq_true, decide_eq_true_eq] at h
    obtain ⟨⟨h1, h2⟩, h3⟩ := h
    rw [List.find?_cons, List.countP_cons]
    by_cases c : r ≤ y.2.1
    · have h0 : ys.countP (fun x => !decide (r ≤ x.2.1)) = 0 := by
        rw [List.countP_eq_zero]
        intro x hx
        have := rises_gt h3 x hx
        simp
        omega
      rw [h0]
      simp [c]
    · simp [c, ih h3]
def hiAt (i : Nat) : Int := match rowsP[i]? with | some x => x.2.1 | none => 0
theorem hiAt_of {i : Nat} {x : Row} (h : rowsP[i]? = some x) : hiAt i = x.2.1 := by unfold hiAt; rw [h]
theorem countP_get {α : Type} (f : α → Bool) (l : List α) : ∀ g : Nat → Bool, (∀ i x, l[i]? = some x → g i = f x) → (List.range l.length).countP g = l.countP f := by
  induction l with
  | nil => intro g _; rfl
  | cons y ys ih =>
    intro g h
    rw [List.length_cons, List.range_succ_eq_map, List.countP_cons, List.countP_map, ih (g ∘ Nat.succ) (fun i x hx => h (i + 1) x (by simpa using hx)), List.countP_cons, h 0 y rfl]
theorem hi_mono_from {b : Int} {l : List Row} (h : rises b l = true) : ∀ (i j : Nat) (x y : Row), i ≤ j → l[i]? = some x → l[j]? = some y → x.2.1 ≤ y.2.1 := by
  induction l generalizing b with
  | nil => simp
  | cons z zs ih =>
    simp only [rises, Bool.and_eq_true, decide_eq_true_eq] at h
    intro i j x y hij hx hy
    cases i with
    | zero =>
      simp at hx
      subst hx
      cases j with
      | zero => simp at hy; subst hy; omega
      | succ j =>
        have := rises_gt h.2 y (List.mem_of_getElem? (by simpa using hy))
        omega
    | succ i =>
      cases j with
      | zero => omega
      | succ j => exact ih h.2 i j x y (by omega) (by simpa using hx) (by simpa using hy)
theorem hi_mono (r : Int) (i j : Nat) (hij : i ≤ j) (hj : j < 140) (h : decide (r ≤ hiAt i) = true) : decide (r ≤ hiAt j) = true := by
  have hl := rows_len
  have hx := List.getElem?_eq_getElem (l := rowsP) (i := i) (by omega)
  have hy := List.getElem?_eq_getElem (l := rowsP) (i := j) (by omega)
  rw [hiAt_of hx] at h
  rw [hiAt_of hy]
  have := hi_mono_from rows_rise i j _ _ hij hx hy
  simp only [decide_eq_true_eq] at *
  omega
def cntR (r : Int) : Nat := (List.range 140).countP fun i => !decide (r ≤ hiAt i)
theorem cntR_find (r : Int) : rowsP.find? (fun x => decide (r ≤ x.2.1)) = rowsP[cntR r]? := by
  rw [find_count rows_rise]
  unfold cntR
  rw [← rows_len, countP_get (fun x => !decide (r ≤ x.2.1)) rowsP]
  intro i x hx
  rw [hiAt_of hx]
theorem class_cnt (r : Int) : classR r = match rowsP[cntR r]? with | none => 0 | some x => if r < x.1 then 0 else atRow x r := by
  have h := cntR_find r
  unfold classR
  rw [h]
  rfl
theorem cnt_le (r : Int) : cntR r ≤ 140 := by
  unfold cntR
  have := List.countP_le_length (p := fun i => !decide (r ≤ hiAt i)) (l := List.range 140)
  simpa using this
theorem rows_bounds : (rowsP.all fun x => decide (0 ≤ x.1 ∧ x.1 ≤ 1114111 ∧ 0 ≤ x.2.1 ∧ x.2.1 ≤ 1114111)) = true := by decide +kernel

set_option maxHeartbeats 2000000 in
theorem class_any (r : Int) (w : World) (_hr0 : -2147483648 ≤ r) (hr1 : r ≤ 2147483647) :
    Calls Try.prog 28 #[.int .i32 r] w fun e w' => e = .returned (.int .i64 (classR r : Nat)) ∧ Below w.heap.size w w' := by
  obtain ⟨N, hN⟩ : ∃ N, classR r = N := ⟨_, rfl⟩
  rw [hN]
  have HN := Lib.hid hN
  clear hN
  go_enter Try.func28, Try.ntmps28
  go_wp2_with fail
  refine (rows_any _).mono ?_
  rintro e w1 ⟨rfl, hb1⟩
  have hs1 := hb1.size
  simp at hs1
  have hc1 : w1.cell? ⟨w.heap.size, 0, none⟩ = some (.int .i32 r) := by
    rw [hb1.cell (p := ⟨w.heap.size, 0, none⟩) (by simp)]
    exact cell_new_sl w _ _
  have hb2 := (below_new w (.cells #[.int .i32 r] 21)).trans (hb1.mono (by simp))
  clear hb1
  have hb3 := (hb2.alloc (by omega) (.cells ZNR 98))
  have hb4 := below_setRow hb3 (g := w1.heap.size) (by omega) NR
  have hz := heap_alloc_new w1 (.cells ZNR 98)
  have hrow : TabAt ((w1.alloc (.cells ZNR 98)).setRow w1.heap.size NR) w1.heap.size := setRow_heap _ _ _ NR _ _ hz
  have hc2 : ((w1.alloc (.cells ZNR 98)).setRow w1.heap.size NR).cell? ⟨w.heap.size, 0, none⟩ = some (.int .i32 r) := by
    rw [cell_setRow_other _ _ _ _ (by simp; omega), (below_new w1 _).cell (p := ⟨w.heap.size, 0, none⟩) (by show w.heap.size < w1.heap.size; omega)]
    exact hc1
  have hne : w.heap.size < w1.heap.size := by omega
  go_wp2_with (first
    | refine wpList_allocTo rfl (some 3) rfl (.pointer (some ⟨w1.heap.size, 0, none⟩)) (.cells ZNR 98) (by kernel_rfl) ?_
    | refine wpList_store_row rfl 98 (.tmp 3) (.tmp 5) rfl w1.heap.size NR rfl rfl 98 ZNR hz (by kernel_rfl) (by kernel_rfl) (by kernel_rfl) ?_)
  generalize (w1.alloc (.cells ZNR 98)).setRow w1.heap.size NR = W at *
  have hgl : w1.heap.size < W.heap.size := (Array.getElem?_eq_some_iff.1 hrow).1
  generalize w1.heap.size = g at *
  generalize hbE : w.heap.size = b at *
  have HBE := Lib.hid hbE
  clear hbE
  have hS := Any.sort_Search Try.searchL 57 #[.pointer (some ⟨g, 0, none⟩), .pointer (some ⟨b, 0, none⟩)] 140 (fun i => decide (r ≤ hiAt i)) W (fun _ _ => by kernel_rfl) (by decide)
    (fun m os i hi => by
      have hx := List.getElem?_eq_getElem (l := rowsP) (i := i) (by rw [rows_len]; exact hi)
      have hbw := below_grown_sl W.heap.size W m os (Nat.le_refl _)
      rw [hiAt_of hx]
      exact (cls_any g b r i _ _ hx (hrow.below hbw) (by rw [hbw.cell (p := ⟨b, 0, none⟩) (by show b < W.heap.size; omega)]; exact hc2)).mono fun e w' h => ⟨h.1, by obtain ⟨q, rfl⟩ := h.2; exact ⟨q, #[], (grow_empty _).symm⟩⟩)
    (hi_mono r)
  have hS2 := hS.mono (fun e w' h => (⟨h.1, by obtain ⟨q, os, rfl⟩ := h.2; exact below_grown_sl W.heap.size W q os (Nat.le_refl _)⟩ : e = .returned (.int .i64 (cntR r : Nat)) ∧ Below W.heap.size W w'))
  have HC := Lib.hid (class_cnt r)
  have hk := cnt_le r
  generalize cntR r = k at hS2 HC hk
  have HN2 := Lib.hid (HN.out.symm.trans HC.out)
  clear hS HC HN hz hc1 hb2 hb3
  have HT := Lib.hid hrow
  have HC2 := Lib.hid hc2
  have HB4 := Lib.hid hb4
  have HSz := Lib.hid (And.intro hne hgl)
  clear hrow hc2 hb4 hne hgl hs1
  refine hS2.mono ?_
  rintro e w2 ⟨rfl, hb⟩
  clear hS2
  have hT2 := HT.out.below hb
  have hc3 : w2.cell? ⟨b, 0, none⟩ = some (.int .i32 r) := by rw [hb.cell (p := ⟨b, 0, none⟩) (by have := HSz.out.1; have := HSz.out.2; show b < W.heap.size; omega)]; exact HC2.out
  have hb5 := HB4.out.trans (hb.mono (by have := HSz.out.1; have := HSz.out.2; omega))
  have HB5 := Lib.hid hb5
  clear hb hb5 HT HC2 HB4
  by_cases c : k = 140
  · subst c
    have hn : N = 0 := by have := HN2.out; rwa [List.getElem?_eq_none (by rw [rows_len]; omega)] at this
    have HN3 := Lib.hid hn
    clear hn hT2
    go_wp2_with fail
    go_quiet (fail)
    go_wp2
    go_ret
    exact ⟨by rw [HN3.out]; rfl, by rw [HBE.out]; exact below_drewN HB5.out _⟩
  · have hk2 : k < 140 := by omega
    obtain ⟨x, hx⟩ : ∃ x, rowsP[k]? = some x := ⟨rowsP[k]'(by rw [rows_len]; exact hk2), List.getElem?_eq_getElem _⟩
    have HN3 := HN2.out
    rw [hx] at HN3
    obtain ⟨q1, q2, q3⟩ := hT2.cells hx
    have hxb := List.all_eq_true.1 rows_bounds x (List.mem_of_getElem? hx)
    simp only [decide_eq_true_eq] at hxb
    obtain ⟨b1, b2, b3, b4⟩ := hxb
    obtain ⟨lo, hi', cl⟩ := x
    simp only at q1 q2 q3 b1 b2 b3 b4 HN3
    have i0 : (0 : Int) ≤ (k : Int) := by omega
    have i1 : (k : Int) < 140 := by omega
    have d0 : ((k : Int) == 140) = false := by simp; omega
    clear hT2 hx hk c hk2
    by_cases c : r < lo
    · rw [if_pos c] at HN3
      have HN3 := Lib.hid HN3
      go_wp2_with fail
      go_quiet (fail)
      go_wp2
      go_ret
      exact ⟨by rw [HN3.out]; rfl, by rw [HBE.out]; exact below_drewN HB5.out _⟩
    · rw [if_neg c] at HN3
      have HN3 := Lib.hid HN3
      have d1 : decide (r < lo) = false := by simpa using c
      have C := Lib.hid (fun W => at_any lo hi' cl r W b1 (by omega) hr1)
      clear c
      go_wp2_with fail
      go_quiet (fail)
      rename_i nq _
      have hbq := below_drewN HB5.out nq
      have f0 : (w2.drewN nq).cell? ⟨g, k * 3, none⟩ = some (.int .i32 lo) := q1
      have f1 : (w2.drewN nq).cell? ⟨g, k * 3 + 1, none⟩ = some (.int .i32 hi') := q2
      have f2 : (w2.drewN nq).cell? ⟨g, k * 3 + 2, none⟩ = some (.int .i64 (cl : Int)) := q3
      have f3 : (w2.drewN nq).cell? ⟨b, 0, none⟩ = some (.int .i32 r) := hc3
      generalize w2.drewN nq = W1 at *
      have HBQ := Lib.hid hbq
      have g0 := cell_regrown f0
      have g1 := cell_regrown f1
      have g2 := cell_regrown f2
      have g3 := cell_regrown f3
      have C1 : ∀ d os, Calls Try.prog 58 #[.agg #[.int .i32 lo, .int .i32 hi', .int .i64 (cl : Int)], .int .i32 r] (grow (redrawn W1 d) os) fun e w'' => e = .returned (.int .i64 (atRow (lo, hi', cl) r : Nat)) ∧ ∃ p : Regrown, w'' = grow (redrawn W1 p.d) p.os := fun d os => Calls.regrown_of (C.out _)
      clear f0 f1 f2 f3 q1 q2 q3 hc3 hbq
      generalize atRow (lo, hi', cl) r = V at *
      go_wp2_with fail
      refine wp_region_quiet_below (by kernel_rfl) (by kernel_rfl) ?_
      repeat (go_big_quiet_step (exact C1 _ _))
      refine wpQuiet_nil ?_
      intro _ hw'
      obtain ⟨⟨dq, osq⟩, hw''⟩ := hw'
      subst hw''
      have hbz := HBQ.out.trans ((below_regrown W1 dq osq).mono (by rw [← HBE.out]; exact HBQ.out.size))
      go_wp2
      go_ret
      exact ⟨by rw [HN3.out]; rfl, by rw [HBE.out]; exact hbz⟩
end Go.Proofs.Ytphhdkffnboboaa

