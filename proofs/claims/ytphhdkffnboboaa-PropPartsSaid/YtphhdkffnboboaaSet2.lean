/-
  Contracts: prop.Set.
-/
import Derived.Test.YtphhdkffnboboaaSetOf
namespace Go.Proofs.Ytphhdkffnboboaa
open Go.RowKit Go.Shelf
open Go.Lib Go.Great

/-- The set of a class, as prop makes it. -/
noncomputable def setP (c : Int) : List Rng := if c = 0 then norm (notR (norm (hasR (rowsP.flatMap wholeP)))) else norm (hasR (rowsP.flatMap (partP c)))

theorem parts_ok (c : Int) (h0 : c ≠ 0) : ((rowsP.flatMap (partP c)).all may) = true ∧ (rowsP.flatMap (partP c)).length ≤ 1000 := by
  by_cases h : c < 0 ∨ 35 < c
  · rw [part_out h]
    exact ⟨rfl, Nat.zero_le _⟩
  · obtain ⟨n, rfl⟩ := Int.eq_ofNat_of_zero_le (show 0 ≤ c by omega)
    have hr := part_right (c := n) (by omega) (by omega)
    refine ⟨?_, part_len (by omega) (by omega)⟩
    show (rowsP.flatMap (partP (n : Int))).all may = true
    rw [hr.1, List.all_eq_true]
    exact fun x hx => (right_may (b := -1) hr.2 x hx).1

set_option maxHeartbeats 2000000 in
theorem set_any (c : Int) (w : World) : Calls Try.prog 34 #[.int .i64 c] w fun e w' => SP (setP c) w e w' ∧ right (setP c) = true ∧ (setP c).length ≤ 1001 := by
  have hb := below_new w (.cells #[.int .i64 c] 3)
  have hc := cell_new_sl w (.int .i64 c) 3
  have hz : w.heap.size < (w.alloc (.cells #[.int .i64 c] 3)).heap.size := by simp
  generalize hW : w.alloc (.cells #[.int .i64 c] 3) = W0 at *
  have HW := Lib.hid hW
  clear hW
  by_cases h0 : c = 0
  · subst h0
    have e : setP 0 = norm (notR (norm (hasR (rowsP.flatMap wholeP)))) := by unfold setP; rw [if_pos rfl]
    rw [e]
    have C := setOf_any 65 #[] (fun _ _ => by kernel_rfl) wholeP W0 (fun x hx W _ => by
      have := whole_any x.1 x.2.1 x.2.2 (row_i32 hx) W
      exact this) whole_may (by rw [whole_len]; omega)
    generalize rowsP.flatMap wholeP = T at *
    have hr := norm_right (hasR T)
    generalize norm (hasR T) = S at *
    have C2f := fun A c W (hS : SW W A c S) (hl : S.length ≤ 1000) => not_sp A c S W hS hr (by omega)
    have hr2 := norm_right (notR S)
    generalize norm (notR S) = S2 at *
    have C2f := Lib.hid C2f
    have HR2 := Lib.hid hr2
    have C := Lib.hid C
    have HB := Lib.hid hb
    clear e hr hb hz hr2
    go_enter Try.func34, Try.ntmps34
    go_wp2_with fail
    rw [HW.out]
    go_wp2_with fail
    refine C.out.mono ?_
    rintro e w1 ⟨⟨A1, c1, rfl, hS, hb1⟩, _, hl⟩
    have C2 := C2f.out A1 c1 w1 hS hl
    have HL := Lib.hid hl
    have C2 := Lib.hid C2
    have hb2 := HB.out.trans (hb1.mono HB.out.size)
    have HB2 := Lib.hid hb2
    clear hS hb1 hb2 hl
    go_wp2_with fail
    refine C2.out.mono ?_
    rintro e w2 ⟨⟨A2, c2, rfl, hS, hb1⟩, _, hl⟩
    have H := Lib.hid (And.intro hS (And.intro (HB2.out.trans (hb1.mono HB2.out.size)) (show S2.length ≤ 1001 by have := HL.out; omega)))
    clear hS hb1 hl
    go_wp2
    go_ret
    exact ⟨⟨_, _, rfl, H.out.1, H.out.2.1⟩, HR2.out, H.out.2.2⟩
  · have e : setP c = norm (hasR (rowsP.flatMap (partP c))) := by unfold setP; rw [if_neg h0]
    rw [e]
    have hp := parts_ok c h0
    have C := setOf_any 66 #[.pointer (some ⟨w.heap.size, 0, none⟩)] (fun _ _ => by kernel_rfl) (partP c) W0 (fun x hx W hbW => by
      have := pick_any x hx c w.heap.size W (by have := hbW.size; omega) ((hbW.cell (p := ⟨w.heap.size, 0, none⟩) hz).trans hc)
      exact this) hp.1 hp.2
    generalize rowsP.flatMap (partP c) = T at *
    have hr := norm_right (hasR T)
    generalize norm (hasR T) = S at *
    have C := Lib.hid C
    have HR := Lib.hid hr
    have HB := Lib.hid hb
    have d : (c == 0) = false := by simpa using h0
    clear e hr hb hz hp h0
    go_enter Try.func34, Try.ntmps34
    go_wp2_with fail
    rw [HW.out]
    go_wp2_with fail
    refine C.out.mono ?_
    rintro e w1 ⟨⟨A1, c1, rfl, hS, hb1⟩, _, hl⟩
    have H := Lib.hid (And.intro hS (And.intro (HB.out.trans (hb1.mono HB.out.size)) hl))
    clear hS hb1 hl
    go_wp2
    go_ret
    exact ⟨⟨_, _, rfl, H.out.1, H.out.2.1⟩, HR.out, by have := H.out.2.2; omega⟩
end Go.Proofs.Ytphhdkffnboboaa
