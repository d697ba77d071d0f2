/-
  Contracts: virgulelaw04.awake.
-/
import Derived.Test.YtphhdkffnboboaaCls2
namespace Go.Proofs.Ytphhdkffnboboaa
open Go.RowKit Go.Shelf
open Go.Lib

theorem cls65 : classR 65 = 17 := by decide +kernel
theorem cls44032 : classR 44032 = 14 := by decide +kernel
theorem cls44033 : classR 44033 = 15 := by decide +kernel
theorem nm17 : nmOf 17 = { data := #[85, 112, 112, 101, 114] } := by kernel_rfl
theorem no17 : noOf { data := #[85, 112, 112, 101, 114] } = 17 := by kernel_rfl
theorem okOf17 : okOf 17 = .tuple #[.int .i64 17, .bool true] := by kernel_rfl
set_option maxHeartbeats 1000000 in
theorem awake_any (w : World) : Calls Try.prog 30 #[] w fun e w' => e = .returned (.bool true) ∧ Below w.heap.size w w' := by
  have C1 := Lib.hid (fun W => number_any { data := #[85, 112, 112, 101, 114] } W)
  rw [no17, okOf17] at C1
  have C2 := Lib.hid (fun W => class_any 65 W (by decide) (by decide))
  rw [cls65] at C2
  have C3 := Lib.hid (fun W => name_any 17 W)
  rw [nm17] at C3
  have C4 := Lib.hid (fun W => class_any 44032 W (by decide) (by decide))
  rw [cls44032] at C4
  have C5 := Lib.hid (fun W => class_any 44033 W (by decide) (by decide))
  rw [cls44033] at C5
  go_enter Try.func30, Try.ntmps30
  go_wp2_with fail
  refine (C1.out _).mono ?_
  rintro e w1 ⟨rfl, hb1⟩
  go_wp2_with fail
  refine (C2.out _).mono ?_
  rintro e w2 ⟨rfl, hb⟩
  have hb2 := hb1.trans (hb.mono hb1.size)
  clear hb hb1
  go_wp2_with fail
  refine (C3.out _).mono ?_
  rintro e w3 ⟨rfl, hb⟩
  have hb3 := hb2.trans (hb.mono hb2.size)
  clear hb hb2
  go_wp2_with fail
  refine (C4.out _).mono ?_
  rintro e w4 ⟨rfl, hb⟩
  have hb4 := hb3.trans (hb.mono hb3.size)
  clear hb hb3
  go_wp2_with fail
  refine (C5.out _).mono ?_
  rintro e w5 ⟨rfl, hb⟩
  have hb5 := hb4.trans (hb.mono hb4.size)
  clear hb hb4
  go_wp2
  go_ret
  exact ⟨rfl, hb5⟩
end Go.Proofs.Ytphhdkffnboboaa
