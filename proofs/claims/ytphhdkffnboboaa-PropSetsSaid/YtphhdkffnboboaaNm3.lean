/-
  Contracts: prop.Number, with its closure.
-/
import Derived.Test.YtphhdkffnboboaaNm2
import Derived.Test.YtphhdkffnboboaaLayP
namespace Go.Proofs.Ytphhdkffnboboaa
open Go.RowKit Go.Shelf
open Go.Lib Go.Great

/-- The class of a name, or a negative number. -/
def noOf (s : ByteArray) : Int := Lib.idxBy (fun _ y => y.toList == s.toList) nms default

set_option maxHeartbeats 1000000 in
theorem eqs_any (y s : ByteArray) (b : Nat) (W : World) (hc : W.cell? ⟨b, 0, none⟩ = some (.string s)) :
    FnGives Try.prog 62 #[.pointer (some ⟨b, 0, none⟩)] #[.string y] (.bool (y.toList == s.toList)) W := by
  have C : Calls Try.prog 62 #[.string y, .pointer (some ⟨b, 0, none⟩)] W fun e w' => e = .returned (.bool (y.toList == s.toList)) ∧ ∃ q, w' = W.drewN q := by
    go_enter Try.func62, Try.ntmps62
    go_wp2
    go_ret
    exact ⟨rfl, 0, rfl⟩
  exact C

def okOf (n : Int) : Value := .tuple #[.int .i64 (if n < 0 then 0 else n), .bool (decide (0 ≤ n))]
theorem okOf_neg {n : Int} (h : n < 0) : okOf n = .tuple #[.int .i64 0, .bool false] := by unfold okOf; rw [if_pos h]; simp; omega
theorem okOf_pos {n : Int} (h : ¬ n < 0) : okOf n = .tuple #[.int .i64 n, .bool true] := by unfold okOf; rw [if_neg h]; simp; omega
set_option maxHeartbeats 1000000 in
theorem number_any (s : ByteArray) (w : World) : Calls Try.prog 32 #[.string s] w fun e w' => e = .returned (okOf (noOf s)) ∧ Below w.heap.size w w' := by
  obtain ⟨n, hn⟩ : ∃ n, noOf s = n := ⟨_, rfl⟩
  rw [hn]
  have HN := Lib.hid hn
  clear hn
  go_enter Try.func32, Try.ntmps32
  go_wp2_with fail
  refine (names_any _).mono ?_
  rintro e w1 ⟨rfl, hb1⟩
  have hs1 := hb1.size
  simp at hs1
  have hc1 : w1.cell? ⟨w.heap.size, 0, none⟩ = some (.string s) := by
    rw [hb1.cell (p := ⟨w.heap.size, 0, none⟩) (by simp)]
    exact cell_new_sl w _ _
  have hb2 := (below_new w (.cells #[.string s] 9)).trans (hb1.mono (by simp))
  clear hb1
  have hb3 := (hb2.alloc (by omega) (.cells ZNM 101))
  have hb4 := below_setRow hb3 (g := w1.heap.size) (by omega) NM
  have hz := heap_alloc_new w1 (.cells ZNM 101)
  have hrow := setRow_heap _ _ _ NM _ _ hz
  have hc2 : ((w1.alloc (.cells ZNM 101)).setRow w1.heap.size NM).cell? ⟨w.heap.size, 0, none⟩ = some (.string s) := by
    rw [cell_setRow_other _ _ _ _ (by simp; omega), (below_new w1 _).cell (p := ⟨w.heap.size, 0, none⟩) (by show w.heap.size < w1.heap.size; omega)]
    exact hc1
  go_wp2_with (first
    | refine wpList_allocTo rfl (some 4) rfl (.pointer (some ⟨w1.heap.size, 0, none⟩)) (.cells ZNM 101) (by kernel_rfl) ?_
    | refine wpList_store_row rfl 101 (.tmp 4) (.tmp 6) rfl w1.heap.size NM rfl rfl 101 ZNM hz (by kernel_rfl) (by kernel_rfl) (by kernel_rfl) ?_)
  generalize (w1.alloc (.cells ZNM 101)).setRow w1.heap.size NM = W at *
  have hI := AnyE.slices_IndexFunc Try.idxS Value.string (fun y => y.toList == s.toList) 62 #[.pointer (some ⟨w.heap.size, 0, none⟩)] (fun _ _ => by kernel_rfl) w1.heap.size 0 36 36 nms W
    (fun W' y hb => eqs_any y s _ W' (by rw [hb.cell (p := ⟨w.heap.size, 0, none⟩) (by have := hb4.size; have := (Array.getElem?_eq_some_iff.1 hrow).1; show w.heap.size < W.heap.size; omega)]; exact hc2))
    (by decide) (by decide) (fun j hj => by
      rw [Nat.zero_add, cell_of_row _ _ _ _ _ _ hrow, nm_cell j hj]
      unfold nmOf
      rw [if_pos (by have : nms.length = 36 := rfl; omega), Int.toNat_natCast, List.getD_eq_getElem?_getD, List.getElem?_eq_getElem hj, getElem!_pos nms j hj]
      rfl)
  have hq := Lib.hid hb4
  have hI2 := hI.mono (fun e w' h => (⟨h.1, by obtain ⟨q, rfl⟩ := h.2; exact (hq.out.trans ((below_drewN (Below.refl _ _) q).mono hq.out.size))⟩ : e = .returned (.int .i64 (noOf s)) ∧ Below w.heap.size w w'))
  clear hI hc1 hc2 hb2 hb3 hb4 hz hrow
  rw [HN.out] at hI2
  refine hI2.mono ?_
  rintro e w2 ⟨rfl, hb⟩
  clear hI2
  by_cases hn : n < 0
  · have H := Lib.hid (okOf_neg hn)
    go_wp2
    go_ret2
    exact ⟨by rw [H.out]; rfl, hb⟩
  · have d : decide (n < 0) = false := by simpa using hn
    have H := Lib.hid (okOf_pos hn)
    go_wp2
    go_ret2
    exact ⟨by rw [H.out]; rfl, hb⟩
end Go.Proofs.Ytphhdkffnboboaa
