/-
  Contracts: a set of places in memory: sixteen words; what one adds, and keeps.
-/
import Derived.Test.YtlbcicoppglgjaaDoorMat
import Derived.Deep.MidRow
import Derived.Laws.Rows
import Derived.Laws.Bits64b
import Derived.Great.Walk
import Derived.IntWalk
import Derived.Maps.AppendAt
namespace Go.Proofs.YtlbcicoppglgjaaDoor
open Go.RowKit Go.Shelf Go.Lib Go.Great

def plL (m : Nat) : List Value := (List.range 16).map fun i => .int .u64 (wd m i : Nat)
theorem plL_len (m : Nat) : (plL m).length = 16 := by simp [plL]
theorem plL_get (m i : Nat) (h : i < 16) : (plL m)[i]? = some (.int .u64 (wd m i : Nat)) := by simp [plL, h]
theorem plL_one (m : Nat) : (plL m).toArray.all (·.oneCell') = true := by
  rw [Array.all_eq_true_iff_forall_mem]
  intro v hv
  simp only [List.mem_toArray, plL, List.mem_map] at hv
  obtain ⟨j, _, rfl⟩ := hv
  rfl
theorem size70 : (Tryd.prog.info? 70).map (·.size) = some 16 := by kernel_rfl
theorem pl_index (m j : Nat) (hj : j < 16) (w : World) : (Instr.index 70 (.agg (plL m).toArray) (.int .i64 (j : Int))).run Tryd.prog w = .ok (.int .u64 (wd m j : Nat)) w := by
  have h := plL_get m j hj
  have hl := plL_len m
  have hE : (plL m).toArray[j]? = some (.int .u64 (wd m j : Nat)) := by simpa using h
  simp [Instr.index, asIntOf, run_underlying Tryd.underlying70, part, Tryd.isAgg37, Tryd.sizeOf37, Sem.run_bind, Result.andThen, h, go_sem]
  omega
/-- Sixteen words from offset o on, which may be written. -/
def PlAt (w : World) (b o m : Nat) : Prop := ∀ i, i < 16 → w.cell? ⟨b, o + i, none⟩ = some (.int .u64 (wd m i : Nat)) ∧ w.frozen? ⟨b, o + i, none⟩ = false
theorem PlAt.lt {w : World} {b o m : Nat} (h : PlAt w b o m) : b < w.heap.size := by
  have := (h 0 (by omega)).1
  unfold World.cell? at this
  cases hb : w.heap[b]? with
  | none => simp [hb] at this
  | some x => exact (Array.getElem?_eq_some_iff.1 hb).1
theorem PlAt.range {w : World} {b o m : Nat} (h : PlAt w b o m) : w.rangeAt b o (plL m) := by
  intro j v hv
  have hj : j < 16 := by have := (List.getElem?_eq_some_iff.1 hv).1; rw [plL_len] at this; exact this
  rw [plL_get m j hj] at hv
  rw [(h j hj).1]
  exact hv
theorem PlAt.block {w w' : World} {b o m : Nat} (h : PlAt w b o m) (hb : w'.heap[b]? = w.heap[b]?) : PlAt w' b o m := fun i hi =>
  ⟨(World.cell?_of_block (w := w) (w' := w') (a := ⟨b, o + i, none⟩) hb).trans (h i hi).1, (World.frozen?_of_block (w := w) (w' := w') (a := ⟨b, o + i, none⟩) hb).trans (h i hi).2⟩
/-- Behind the call one set has turned, and nothing else. -/
structure PlSet (w w' : World) (b o m : Nat) : Prop where
  grown : w.grownBy w' (some b)
  at_ : PlAt w' b o m
  cell : ∀ j, j < o ∨ o + 16 ≤ j → w'.cell? ⟨b, j, none⟩ = w.cell? ⟨b, j, none⟩
  frozen : ∀ j, j < o ∨ o + 16 ≤ j → w'.frozen? ⟨b, j, none⟩ = w.frozen? ⟨b, j, none⟩
/-- The words up to k are those of one set, from there on those of the other. -/
def Mix (w : World) (b o m m' k : Nat) : Prop := ∀ i, i < 16 → w.cell? ⟨b, o + i, none⟩ = some (.int .u64 ((if i < k then wd m' i else wd m i : Nat) : Int)) ∧ w.frozen? ⟨b, o + i, none⟩ = false
theorem Mix.zero {w : World} {b o m m' : Nat} (h : PlAt w b o m) : Mix w b o m m' 0 := fun i hi => by simpa using h i hi
theorem Mix.full {w : World} {b o m m' : Nat} (h : Mix w b o m m' 16) : PlAt w b o m' := fun i hi => by have := h i hi; rw [if_pos hi] at this; exact this
theorem Mix.step {w : World} {b o m m' k : Nat} (h : Mix w b o m m' k) (hk : k < 16) : Mix (w.setCell ⟨b, o + k, none⟩ (.int .u64 (wd m' k : Nat))) b o m m' (k + 1) := fun i hi => by
  obtain ⟨h1, h2⟩ := h i hi
  by_cases e : i = k
  · subst e
    rw [if_pos (by omega)]
    exact ⟨World.cell?_setCell_same _ _ _ h1, by simpa using h2⟩
  · have : (⟨b, o + k, none⟩ : Addr) ≠ ⟨b, o + i, none⟩ := by intro h3; injection h3 with h4 h5; omega
    rw [World.cell?_setCell_other _ _ _ _ this]
    refine ⟨?_, by simpa using h2⟩
    rw [h1]
    by_cases c : i < k
    · rw [if_pos c, if_pos (by omega)]
    · rw [if_neg c, if_neg (by omega)]

theorem Mix.drew {w : World} {b o m m' k : Nat} (h : Mix w b o m m' k) : Mix w.drew b o m m' k := h
/-- In the midst of the loop. -/
structure Mid (w wr : World) (b o m m' k : Nat) : Prop where
  mix : Mix wr b o m m' k
  grown : w.grownBy wr (some b)
  cell : ∀ j, j < o ∨ o + 16 ≤ j → wr.cell? ⟨b, j, none⟩ = w.cell? ⟨b, j, none⟩
  frozen : ∀ j, j < o ∨ o + 16 ≤ j → wr.frozen? ⟨b, j, none⟩ = w.frozen? ⟨b, j, none⟩
theorem Mid.start {w : World} {b o m m' : Nat} (h : PlAt w b o m) (ob : Obj) : Mid w (w.alloc ob) b o m m' 0 := by
  have hb : (w.alloc ob).heap[b]? = w.heap[b]? := Below.heap_alloc w ob b h.lt
  exact ⟨Mix.zero (h.block hb), World.grownBy_alloc _ _ _, fun j _ => World.cell?_of_block (a := ⟨b, j, none⟩) hb, fun j _ => World.frozen?_of_block (a := ⟨b, j, none⟩) hb⟩
theorem Mid.step {w wr : World} {b o m m' k : Nat} (h : Mid w wr b o m m' k) (hk : k < 16) : Mid w (wr.setCell ⟨b, o + k, none⟩ (.int .u64 (wd m' k : Nat))).drew b o m m' (k + 1) := by
  refine ⟨(h.mix.step hk).drew, ?_, fun j hj => ?_, fun j hj => ?_⟩
  · have g2 : wr.grownBy (wr.setCell ⟨b, o + k, none⟩ (.int .u64 (wd m' k : Nat))).drew (some b) := ⟨rfl, rfl, rfl, by simp [World.setCell, World.drew], fun i _ hi => Below.heap_setCell _ _ _ _ (fun e => hi (by rw [e]))⟩
    exact h.grown.trans g2
  · show (wr.setCell ⟨b, o + k, none⟩ (.int .u64 (wd m' k : Nat))).cell? ⟨b, j, none⟩ = _
    rw [World.cell?_setCell_other _ _ _ _ (by intro h3; injection h3 with h4 h5; omega)]
    exact h.cell j hj
  · show (wr.setCell ⟨b, o + k, none⟩ (.int .u64 (wd m' k : Nat))).frozen? ⟨b, j, none⟩ = _
    rw [World.frozen?_setCell]
    exact h.frozen j hj
theorem Mid.full {w wr : World} {b o m m' : Nat} (h : Mid w wr b o m m' 16) : PlSet w wr b o m' := ⟨h.grown, h.mix.full, h.cell, h.frozen⟩

set_option maxHeartbeats 4000000 in
set_option maxRecDepth 100000 in
theorem padd_any (b o m m2 : Nat) (w : World) (h : PlAt w b o m) : Calls Tryd.prog 30 #[.pointer (some ⟨b, o, none⟩), .agg (plL m2).toArray] w fun e w' => e = .returned (.tuple #[]) ∧ PlSet w w' b o (m ||| m2) := by
  have HX := Lib.hid (fun j hj w => pl_index m2 j hj w)
  have HS := Lib.hid (show (plL m2).toArray.size = 16 by simp [plL_len m2])
  generalize (plL m2).toArray = B at *
  have H0 := Lib.hid (fun ob => Mid.start (m' := m ||| m2) h ob)
  clear h
  go_enter Tryd.func30, Tryd.ntmps30
  go_wp2_with (first
    | (refine wpList_load_row rfl 70 (.tmp 3) rfl w.heap.size rfl 70 B (0, 0) (.array 16 37) (heap_alloc_new _ _) Tryd.underlying70 rfl (by rw [size70, HS.out]) ?_)
    | fail)
  go_loopw [7] (fun i wr => ∃ k : Nat, i = .int .i64 (k : Int) ∧ k ≤ 16 ∧ Mid w wr b o m (m ||| m2) k) (fun i _ => 16 - (RowKit.intOf i).toNat)
  case atStart => exact ⟨0, rfl, Nat.zero_le _, H0.out _⟩
  case round =>
    obtain ⟨k, rfl, hk, hM⟩ := hrel
    by_cases hlt : k < 16
    · have i1 : (k : Int) < 16 := by omega
      have hx := HX.out k hlt
      obtain ⟨c1, f1⟩ := hM.mix k hlt
      rw [if_neg (by omega)] at c1
      have hS := hM.step hlt
      have HB := Lib.hid (show bits .or .u64 ((wd m k : Nat) : Int) ((wd m2 k : Nat) : Int) = ((wd (m ||| m2) k : Nat) : Int) by rw [bits_or_u64_nat _ _ (wd_lt _ _) (wd_lt _ _), wd_or])
      rw [← HB.out] at hS
      have hend : ∃ j : Nat, Value.int .i64 ((k : Int) + 1) = .int .i64 (j : Int) ∧ j ≤ 16 ∧ Mid w (wr.setCell ⟨b, o + k, none⟩ (.int .u64 (bits .or .u64 ((wd m k : Nat) : Int) ((wd m2 k : Nat) : Int)))).drew b o m (m ||| m2) j := ⟨k + 1, by simp, by omega, hS⟩
      have HEND := Lib.hid hend
      clear hM hS hend
      go_wp2_with fail
      go_region
      go_wp2_with fail
      go_roundw
      case rel => exact HEND.out
      case measure => simp [RowKit.intOf]; omega
    · obtain rfl : k = 16 := by omega
      have d1 : ¬ ((16 : Nat) : Int) < 16 := by omega
      have HM := Lib.hid hM
      clear hM
      go_wp2_with fail
      go_end0
      exact ⟨rfl, HM.out.full⟩

set_option maxHeartbeats 4000000 in
set_option maxRecDepth 100000 in
theorem pkeep_any (b o m m2 : Nat) (w : World) (h : PlAt w b o m) : Calls Tryd.prog 31 #[.pointer (some ⟨b, o, none⟩), .agg (plL m2).toArray] w fun e w' => e = .returned (.tuple #[]) ∧ PlSet w w' b o (m &&& m2) := by
  have HX := Lib.hid (fun j hj w => pl_index m2 j hj w)
  have HS := Lib.hid (show (plL m2).toArray.size = 16 by simp [plL_len m2])
  generalize (plL m2).toArray = B at *
  have H0 := Lib.hid (fun ob => Mid.start (m' := m &&& m2) h ob)
  clear h
  go_enter Tryd.func31, Tryd.ntmps31
  go_wp2_with (first
    | (refine wpList_load_row rfl 70 (.tmp 3) rfl w.heap.size rfl 70 B (0, 0) (.array 16 37) (heap_alloc_new _ _) Tryd.underlying70 rfl (by rw [size70, HS.out]) ?_)
    | fail)
  go_loopw [7] (fun i wr => ∃ k : Nat, i = .int .i64 (k : Int) ∧ k ≤ 16 ∧ Mid w wr b o m (m &&& m2) k) (fun i _ => 16 - (RowKit.intOf i).toNat)
  case atStart => exact ⟨0, rfl, Nat.zero_le _, H0.out _⟩
  case round =>
    obtain ⟨k, rfl, hk, hM⟩ := hrel
    by_cases hlt : k < 16
    · have i1 : (k : Int) < 16 := by omega
      have hx := HX.out k hlt
      obtain ⟨c1, f1⟩ := hM.mix k hlt
      rw [if_neg (by omega)] at c1
      have hS := hM.step hlt
      have HB := Lib.hid (show bits .and .u64 ((wd m k : Nat) : Int) ((wd m2 k : Nat) : Int) = ((wd (m &&& m2) k : Nat) : Int) by rw [bits_and_u64_nat _ _ (wd_lt _ _) (wd_lt _ _), wd_and])
      rw [← HB.out] at hS
      have hend : ∃ j : Nat, Value.int .i64 ((k : Int) + 1) = .int .i64 (j : Int) ∧ j ≤ 16 ∧ Mid w (wr.setCell ⟨b, o + k, none⟩ (.int .u64 (bits .and .u64 ((wd m k : Nat) : Int) ((wd m2 k : Nat) : Int)))).drew b o m (m &&& m2) j := ⟨k + 1, by simp, by omega, hS⟩
      have HEND := Lib.hid hend
      clear hM hS hend
      go_wp2_with fail
      go_region
      go_wp2_with fail
      go_roundw
      case rel => exact HEND.out
      case measure => simp [RowKit.intOf]; omega
    · obtain rfl : k = 16 := by omega
      have d1 : ¬ ((16 : Nat) : Int) < 16 := by omega
      have HM := Lib.hid hM
      clear hM
      go_wp2_with fail
      go_end0
      exact ⟨rfl, HM.out.full⟩
end Go.Proofs.YtlbcicoppglgjaaDoor
