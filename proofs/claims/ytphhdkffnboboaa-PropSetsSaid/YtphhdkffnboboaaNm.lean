/-
  The names of the classes. Contracts: prop.names, prop.Name, virguleref04.Name.
-/
import Derived.Test.YtphhdkffnboboaaRg1
import Derived.Lib.QuietBelow
import Derived.Great.Walk
import Derived.Laws.Rows
import Derived.Laws.Tables
namespace Go.Proofs.Ytphhdkffnboboaa
open Go.RowKit Go.Shelf
open Go.Lib Go.Great

def nms : List ByteArray := [{ data := #[79, 116, 104, 101, 114] }, { data := #[67, 82] }, { data := #[76, 70] }, { data := #[78, 101, 119, 108, 105, 110, 101] }, { data := #[67, 111, 110, 116, 114, 111, 108] }, { data := #[69, 120, 116, 101, 110, 100] }, { data := #[90, 87, 74] }, { data := #[70, 111, 114, 109, 97, 116] }, { data := #[82, 101, 103, 105, 111, 110, 97, 108] }, { data := #[80, 114, 101, 112, 101, 110, 100] }, { data := #[83, 112, 97, 99, 105, 110, 103] }, { data := #[76] }, { data := #[86] }, { data := #[84] }, { data := #[76, 86] }, { data := #[76, 86, 84] }, { data := #[80, 105, 99, 116] }, { data := #[85, 112, 112, 101, 114] }, { data := #[76, 111, 119, 101, 114] }, { data := #[76, 101, 116, 116, 101, 114] }, { data := #[75, 97, 116, 97, 107, 97, 110, 97] }, { data := #[73, 100, 101, 111, 103, 114, 97, 112, 104] }, { data := #[68, 105, 103, 105, 116] }, { data := #[77, 105, 100, 76, 101, 116, 116, 101, 114] }, { data := #[77, 105, 100, 78, 117, 109] }, { data := #[68, 111, 116] }, { data := #[65, 112, 111, 115, 116, 114, 111, 112, 104, 101] }, { data := #[81, 117, 111, 116, 101] }, { data := #[74, 111, 105, 110, 101, 114] }, { data := #[83, 112, 97, 99, 101] }, { data := #[84, 101, 114, 109] }, { data := #[79, 112, 101, 110] }, { data := #[67, 108, 111, 115, 101] }, { data := #[72, 121, 112, 104, 101, 110] }, { data := #[71, 108, 117, 101] }, { data := #[71, 97, 112] }]
def NM : Array Value := (nms.map Value.string).toArray
def ZNM : Array Value := Array.replicate 36 (.string { data := #[] })

theorem below_setRow {B : Nat} {w w1 : World} (h : Below B w w1) {g : Nat} (hg : B ≤ g) (cs : Array Value) : Below B w (w1.setRow g cs) :=
  h.trans ⟨rfl, rfl, rfl, by simp, fun k hk => setRow_other _ _ _ _ (by omega)⟩
attribute [local irreducible] wpList Code.wp NM ZNM

set_option maxHeartbeats 1000000 in
set_option maxRecDepth 100000 in
theorem names_any (w : World) : Calls Try.prog 60 #[] w fun e w' => e = .returned (.agg NM) ∧ Below w.heap.size w w' := by
  refine calls_of_wp Try.func60 rfl ?_
  refine wp_anyFrame 2 (by as_aux_lemma => kernel_rfl) rfl fun a0 hs hd => ?_
  apply wp_seq_k; intro K hK
  apply wp_region_lit
  refine wpList_allocTo rfl (some 0) rfl (.pointer (some ⟨w.heap.size, 0, none⟩)) (.cells ZNM 101) (by as_aux_lemma => kernel_rfl) ?_
  apply wpList_nil
  refine hK _ _ ?_
  clear hK K
  apply wp_seq_k; intro K hK
  apply wp_region_lit
  refine wpList_readTo rfl (some 1) rfl (.agg NM) (by as_aux_lemma => kernel_rfl) ?_
  have h0 : ((a0.put (some 0) (.pointer (some ⟨w.heap.size, 0, none⟩))).put (some 1) (.agg NM)).eval (.tmp 0) = .pointer (some ⟨w.heap.size, 0, none⟩) := by
    rw [Act.eval_put_ne _ _ _ _ (by decide), Act.eval_put_same _ _ _ (by omega)]
  have h1 : ((a0.put (some 0) (.pointer (some ⟨w.heap.size, 0, none⟩))).put (some 1) (.agg NM)).eval (.tmp 1) = .agg NM := by
    rw [Act.eval_put_same _ _ _ (by simp only [Act.size_put]; omega)]
  have hz := heap_alloc_new w (.cells ZNM 101)
  refine wpList_store_row rfl 101 _ _ rfl w.heap.size NM h0 h1 101 ZNM hz (by as_aux_lemma => kernel_rfl) (by as_aux_lemma => kernel_rfl) (by as_aux_lemma => kernel_rfl) ?_
  apply wpList_nil
  refine hK _ _ ?_
  clear hK K
  refine wp_ret ?_
  refine bodyPost_ret (v := .agg NM) (results_cell_row rfl _ _ w.heap.size 101 NM (0, 0) (.array 36 9) h0 ?_ (by as_aux_lemma => kernel_rfl) rfl (by as_aux_lemma => kernel_rfl)) hd ⟨rfl, ?_⟩
  · exact setRow_heap _ _ _ _ _ _ hz
  · exact below_setRow (below_new w _) (Nat.le_refl _) _

/-- The name of a class. -/
def nmOf (c : Int) : ByteArray := if 0 ≤ c ∧ c < 36 then nms.getD c.toNat { data := #[] } else { data := #[] }
theorem nm_index_0 (w : World) : (Instr.index 101 (.agg NM) (.int .i64 ((0 : Nat) : Int))).run Try.prog w = .ok (.string (nmOf ((0 : Nat) : Int))) w := by kernel_rfl
theorem nm_index_1 (w : World) : (Instr.index 101 (.agg NM) (.int .i64 ((1 : Nat) : Int))).run Try.prog w = .ok (.string (nmOf ((1 : Nat) : Int))) w := by kernel_rfl
theorem nm_index_2 (w : World) : (Instr.index 101 (.agg NM) (.int .i64 ((2 : Nat) : Int))).run Try.prog w = .ok (.string (nmOf ((2 : Nat) : Int))) w := by kernel_rfl
theorem nm_index_3 (w : World) : (Instr.index 101 (.agg NM) (.int .i64 ((3 : Nat) : Int))).run Try.prog w = .ok (.string (nmOf ((3 : Nat) : Int))) w := by kernel_rfl
theorem nm_index_4 (w : World) : (Instr.index 101 (.agg NM) (.int .i64 ((4 : Nat) : Int))).run Try.prog w = .ok (.string (nmOf ((4 : Nat) : Int))) w := by kernel_rfl
theorem nm_index_5 (w : World) : (Instr.index 101 (.agg NM) (.int .i64 ((5 : Nat) : Int))).run Try.prog w = .ok (.string (nmOf ((5 : Nat) : Int))) w := by kernel_rfl
theorem nm_index_6 (w : World) : (Instr.index 101 (.agg NM) (.int .i64 ((6 : Nat) : Int))).run Try.prog w = .ok (.string (nmOf ((6 : Nat) : Int))) w := by kernel_rfl
theorem nm_index_7 (w : World) : (Instr.index 101 (.agg NM) (.int .i64 ((7 : Nat) : Int))).run Try.prog w = .ok (.string (nmOf ((7 : Nat) : Int))) w := by kernel_rfl
theorem nm_index_8 (w : World) : (Instr.index 101 (.agg NM) (.int .i64 ((8 : Nat) : Int))).run Try.prog w = .ok (.string (nmOf ((8 : Nat) : Int))) w := by kernel_rfl
theorem nm_index_9 (w : World) : (Instr.index 101 (.agg NM) (.int .i64 ((9 : Nat) : Int))).run Try.prog w = .ok (.string (nmOf ((9 : Nat) : Int))) w := by kernel_rfl
theorem nm_index_10 (w : World) : (Instr.index 101 (.agg NM) (.int .i64 ((10 : Nat) : Int))).run Try.prog w = .ok (.string (nmOf ((10 : Nat) : Int))) w := by kernel_rfl
theorem nm_index_11 (w : World) : (Instr.index 101 (.agg NM) (.int .i64 ((11 : Nat) : Int))).run Try.prog w = .ok (.string (nmOf ((11 : Nat) : Int))) w := by kernel_rfl
theorem nm_index_12 (w : World) : (Instr.index 101 (.agg NM) (.int .i64 ((12 : Nat) : Int))).run Try.prog w = .ok (.string (nmOf ((12 : Nat) : Int))) w := by kernel_rfl
theorem nm_index_13 (w : World) : (Instr.index 101 (.agg NM) (.int .i64 ((13 : Nat) : Int))).run Try.prog w = .ok (.string (nmOf ((13 : Nat) : Int))) w := by kernel_rfl
theorem nm_index_14 (w : World) : (Instr.index 101 (.agg NM) (.int .i64 ((14 : Nat) : Int))).run Try.prog w = .ok (.string (nmOf ((14 : Nat) : Int))) w := by kernel_rfl
theorem nm_index_15 (w : World) : (Instr.index 101 (.agg NM) (.int .i64 ((15 : Nat) : Int))).run Try.prog w = .ok (.string (nmOf ((15 : Nat) : Int))) w := by kernel_rfl
theorem nm_index_16 (w : World) : (Instr.index 101 (.agg NM) (.int .i64 ((16 : Nat) : Int))).run Try.prog w = .ok (.string (nmOf ((16 : Nat) : Int))) w := by kernel_rfl
theorem nm_index_17 (w : World) : (Instr.index 101 (.agg NM) (.int .i64 ((17 : Nat) : Int))).run Try.prog w = .ok (.string (nmOf ((17 : Nat) : Int))) w := by kernel_rfl
theorem nm_index_18 (w : World) : (Instr.index 101 (.agg NM) (.int .i64 ((18 : Nat) : Int))).run Try.prog w = .ok (.string (nmOf ((18 : Nat) : Int))) w := by kernel_rfl
theorem nm_index_19 (w : World) : (Instr.index 101 (.agg NM) (.int .i64 ((19 : Nat) : Int))).run Try.prog w = .ok (.string (nmOf ((19 : Nat) : Int))) w := by kernel_rfl
theorem nm_index_20 (w : World) : (Instr.index 101 (.agg NM) (.int .i64 ((20 : Nat) : Int))).run Try.prog w = .ok (.string (nmOf ((20 : Nat) : Int))) w := by kernel_rfl
theorem nm_index_21 (w : World) : (Instr.index 101 (.agg NM) (.int .i64 ((21 : Nat) : Int))).run Try.prog w = .ok (.string (nmOf ((21 : Nat) : Int))) w := by kernel_rfl
theorem nm_index_22 (w : World) : (Instr.index 101 (.agg NM) (.int .i64 ((22 : Nat) : Int))).run Try.prog w = .ok (.string (nmOf ((22 : Nat) : Int))) w := by kernel_rfl
theorem nm_index_23 (w : World) : (Instr.index 101 (.agg NM) (.int .i64 ((23 : Nat) : Int))).run Try.prog w = .ok (.string (nmOf ((23 : Nat) : Int))) w := by kernel_rfl
theorem nm_index_24 (w : World) : (Instr.index 101 (.agg NM) (.int .i64 ((24 : Nat) : Int))).run Try.prog w = .ok (.string (nmOf ((24 : Nat) : Int))) w := by kernel_rfl
theorem nm_index_25 (w : World) : (Instr.index 101 (.agg NM) (.int .i64 ((25 : Nat) : Int))).run Try.prog w = .ok (.string (nmOf ((25 : Nat) : Int))) w := by kernel_rfl
theorem nm_index_26 (w : World) : (Instr.index 101 (.agg NM) (.int .i64 ((26 : Nat) : Int))).run Try.prog w = .ok (.string (nmOf ((26 : Nat) : Int))) w := by kernel_rfl
theorem nm_index_27 (w : World) : (Instr.index 101 (.agg NM) (.int .i64 ((27 : Nat) : Int))).run Try.prog w = .ok (.string (nmOf ((27 : Nat) : Int))) w := by kernel_rfl
theorem nm_index_28 (w : World) : (Instr.index 101 (.agg NM) (.int .i64 ((28 : Nat) : Int))).run Try.prog w = .ok (.string (nmOf ((28 : Nat) : Int))) w := by kernel_rfl
theorem nm_index_29 (w : World) : (Instr.index 101 (.agg NM) (.int .i64 ((29 : Nat) : Int))).run Try.prog w = .ok (.string (nmOf ((29 : Nat) : Int))) w := by kernel_rfl
theorem nm_index_30 (w : World) : (Instr.index 101 (.agg NM) (.int .i64 ((30 : Nat) : Int))).run Try.prog w = .ok (.string (nmOf ((30 : Nat) : Int))) w := by kernel_rfl
theorem nm_index_31 (w : World) : (Instr.index 101 (.agg NM) (.int .i64 ((31 : Nat) : Int))).run Try.prog w = .ok (.string (nmOf ((31 : Nat) : Int))) w := by kernel_rfl
theorem nm_index_32 (w : World) : (Instr.index 101 (.agg NM) (.int .i64 ((32 : Nat) : Int))).run Try.prog w = .ok (.string (nmOf ((32 : Nat) : Int))) w := by kernel_rfl
theorem nm_index_33 (w : World) : (Instr.index 101 (.agg NM) (.int .i64 ((33 : Nat) : Int))).run Try.prog w = .ok (.string (nmOf ((33 : Nat) : Int))) w := by kernel_rfl
theorem nm_index_34 (w : World) : (Instr.index 101 (.agg NM) (.int .i64 ((34 : Nat) : Int))).run Try.prog w = .ok (.string (nmOf ((34 : Nat) : Int))) w := by kernel_rfl
theorem nm_index_35 (w : World) : (Instr.index 101 (.agg NM) (.int .i64 ((35 : Nat) : Int))).run Try.prog w = .ok (.string (nmOf ((35 : Nat) : Int))) w := by kernel_rfl
theorem nm_index (n : Nat) (h : n < 36) (w : World) : (Instr.index 101 (.agg NM) (.int .i64 (n : Int))).run Try.prog w = .ok (.string (nmOf n)) w :=
  match n, h with
  | 0, _ => nm_index_0 w
  | 1, _ => nm_index_1 w
  | 2, _ => nm_index_2 w
  | 3, _ => nm_index_3 w
  | 4, _ => nm_index_4 w
  | 5, _ => nm_index_5 w
  | 6, _ => nm_index_6 w
  | 7, _ => nm_index_7 w
  | 8, _ => nm_index_8 w
  | 9, _ => nm_index_9 w
  | 10, _ => nm_index_10 w
  | 11, _ => nm_index_11 w
  | 12, _ => nm_index_12 w
  | 13, _ => nm_index_13 w
  | 14, _ => nm_index_14 w
  | 15, _ => nm_index_15 w
  | 16, _ => nm_index_16 w
  | 17, _ => nm_index_17 w
  | 18, _ => nm_index_18 w
  | 19, _ => nm_index_19 w
  | 20, _ => nm_index_20 w
  | 21, _ => nm_index_21 w
  | 22, _ => nm_index_22 w
  | 23, _ => nm_index_23 w
  | 24, _ => nm_index_24 w
  | 25, _ => nm_index_25 w
  | 26, _ => nm_index_26 w
  | 27, _ => nm_index_27 w
  | 28, _ => nm_index_28 w
  | 29, _ => nm_index_29 w
  | 30, _ => nm_index_30 w
  | 31, _ => nm_index_31 w
  | 32, _ => nm_index_32 w
  | 33, _ => nm_index_33 w
  | 34, _ => nm_index_34 w
  | 35, _ => nm_index_35 w
  | n + 36, h => absurd h (by omega)

set_option maxHeartbeats 1000000 in
theorem name_any (c : Int) (w : World) : Calls Try.prog 31 #[.int .i64 c] w fun e w' => e = .returned (.string (nmOf c)) ∧ Below w.heap.size w w' := by
  by_cases h : 0 ≤ c ∧ c < 36
  · obtain ⟨h1, h2⟩ := h
    obtain ⟨n, rfl⟩ := Int.eq_ofNat_of_zero_le h1
    have hI := Lib.hid (nm_index n (by omega))
    have d1 : decide ((n : Int) < 0) = false := by simp
    have d2 : decide ((36 : Int) ≤ (n : Int)) = false := by simpa using h2
    go_enter Try.func31, Try.ntmps31
    go_wp2_with fail
    refine (names_any _).mono ?_
    rintro e w1 ⟨rfl, hb⟩
    have hJ := hI.out
    go_wp2
    go_ret
    exact ⟨rfl, hb⟩
  · have e : nmOf c = { data := #[] } := by unfold nmOf; rw [if_neg h]
    rw [e]
    by_cases h1 : c < 0
    · go_enter Try.func31, Try.ntmps31
      go_wp2
      go_ret
      exact ⟨rfl, Below.refl _ _⟩
    · have d1 : decide (c < 0) = false := by simpa using h1
      have h2 : 36 ≤ c := by omega
      go_enter Try.func31, Try.ntmps31
      go_wp2
      go_ret
      exact ⟨rfl, Below.refl _ _⟩
end Go.Proofs.Ytphhdkffnboboaa
