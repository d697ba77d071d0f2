/-
  Contracts: virguleref04.Name.
-/
import Derived.Test.YtphhdkffnboboaaNm
namespace Go.Proofs.Ytphhdkffnboboaa
open Go.RowKit Go.Shelf
open Go.Lib Go.Great

theorem nm_cell (n : Nat) (h : n < 36) : NM[n]? = some (.string (nmOf (n : Int))) := by
  have hl : n < nms.length := h
  unfold NM nmOf
  rw [if_pos (by omega)]
  simp [List.getD, hl]

set_option maxHeartbeats 1000000 in
theorem rname_any (c : Int) (w : World) : Calls Try.prog 33 #[.int .i64 c] w fun e w' => e = .returned (.string (nmOf c)) ∧ Below w.heap.size w w' := by
  by_cases h : 0 ≤ c ∧ c < 36
  · obtain ⟨h1, h2⟩ := h
    obtain ⟨n, rfl⟩ := Int.eq_ofNat_of_zero_le h1
    have d1 : decide ((n : Int) < 0) = false := by simp
    have d2 : decide ((35 : Int) < (n : Int)) = false := by simp; omega
    have hc : (w.alloc (.cells NM 9)).cell? ⟨w.heap.size, n, none⟩ = some (.string (nmOf n)) := by
      rw [cell_of_row _ _ _ _ _ _ (heap_alloc_new w (.cells NM 9)), nm_cell n (by omega)]
    have hb := below_new w (.cells NM 9)
    generalize hW : w.alloc (.cells NM 9) = W1 at hc hb
    have HW := Lib.hid hW
    clear hW
    go_enter Try.func33, Try.ntmps33
    go_wp2_with (refine wpList_buildSliceTo rfl 91 9 36 _ rfl _ rfl (some 9) rfl (by kernel_rfl) NM (by kernel_rfl) ?_; rw [HW.out])
    go_ret
    exact ⟨rfl, hb⟩
  · have e : nmOf c = { data := #[] } := by unfold nmOf; rw [if_neg h]
    rw [e]
    by_cases h1 : c < 0
    · go_enter Try.func33, Try.ntmps33
      go_wp2
      go_ret
      exact ⟨rfl, Below.refl _ _⟩
    · have d1 : decide (c < 0) = false := by simpa using h1
      have h2 : 35 < c := by omega
      go_enter Try.func33, Try.ntmps33
      go_wp2
      go_ret
      exact ⟨rfl, Below.refl _ _⟩
end Go.Proofs.Ytphhdkffnboboaa
