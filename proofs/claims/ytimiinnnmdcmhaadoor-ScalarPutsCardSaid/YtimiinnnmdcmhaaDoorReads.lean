/-
  ScalarReads: at any place of any bytes Next answers what the document's search for the longest beginning answers, or 0, 0 outside. The walk of the law.
-/
import Derived.Test.YtimiinnnmdcmhaaDoorAwake
namespace Go.Proofs.YtimiinnnmdcmhaaDoor
open Go.RowKit Go.Shelf
open Go.Lib

set_option maxHeartbeats 2000000 in
set_option maxRecDepth 100000 in
theorem reads_walk (A : Option Addr) (n cap : Nat) (f : Nat → Nat) (at_ : Int) (w : World) (hT : Tabs w) (hS : Sl w w.heap.size A n cap f) :
    Calls Tryd.prog 3 #[.slice A n cap, .int .i64 at_] w fun e w' => e = .returned (.bool true) ∧ Below w.heap.size w w' := by
  have HT := Lib.hid hT
  have HS := Lib.hid hS
  have HA := Lib.hid awake_any
  clear hT hS
  by_cases hl : 300 < n
  · have d : (300 : Int) < (n : Int) := by omega
    go_enter Tryd.func3, Tryd.ntmps3
    go_wp2_with fail
    refine (HA.out _ HT.out).mono ?_
    rintro e w1 ⟨rfl, hb⟩
    go_wp2
    go_ret
    exact ⟨rfl, hb⟩
  · have d : ¬ ((300 : Int) < (n : Int)) := by omega
    by_cases ho : at_ < 0 ∨ (n : Int) ≤ at_
    · have C := Lib.hid (next_out A n cap at_ w ho)
      by_cases h1 : at_ < 0
      · have d1 : decide (at_ < 0) = true := by simpa using h1
        clear ho
        go_enter Tryd.func3, Tryd.ntmps3
        go_wp2_with fail
        refine C.out.mono ?_
        rintro e w1 ⟨rfl, rfl⟩
        go_wp2_with fail
        refine (HA.out _ HT.out).mono ?_
        rintro e w1 ⟨rfl, hb⟩
        go_wp2
        go_ret
        exact ⟨rfl, hb⟩
      · have d1 : decide (at_ < 0) = false := by simpa using h1
        have d2 : (n : Int) ≤ at_ := by omega
        clear ho
        go_enter Tryd.func3, Tryd.ntmps3
        go_wp2_with fail
        refine C.out.mono ?_
        rintro e w1 ⟨rfl, rfl⟩
        go_wp2_with fail
        refine (HA.out _ HT.out).mono ?_
        rintro e w1 ⟨rfl, hb⟩
        go_wp2
        go_ret
        exact ⟨rfl, hb⟩
    · obtain ⟨i, rfl⟩ := Int.eq_ofNat_of_zero_le (show 0 ≤ at_ by omega)
      have hi : i < n := by omega
      obtain ⟨b, off, rfl, hbl, hB⟩ := HS.out.2.2 (by omega)
      have C := next_in b off n cap i f w HT.out hB hi HS.out.1 HS.out.2.1
      have D := fun W (h : Bs W b off n f) => at_any b off n cap i f W h hi HS.out.1 HS.out.2.1
      have d1 : decide ((i : Int) < 0) = false := by simp
      have d2 : (i : Int) < (n : Int) := by omega
      have d3 : decide ((n : Int) ≤ (i : Int)) = false := by simp; omega
      generalize pc (n - i) (fun j => f (i + j)) = P at *
      obtain ⟨R, S, Wh⟩ := P
      have C := Lib.hid C
      have D := Lib.hid D
      have HB := Lib.hid hB
      clear ho hB
      go_enter Tryd.func3, Tryd.ntmps3
      go_wp2_with fail
      refine C.out.mono ?_
      rintro e w1 ⟨rfl, hb1⟩
      go_wp2_with fail
      refine (D.out _ (HB.out.below hb1 hbl)).mono ?_
      rintro e w2 ⟨rfl, hb2⟩
      have hb0 := hb1.trans (hb2.mono hb1.size)
      clear hb1 hb2
      have hs := hb0.size
      go_wp2_with fail
      refine (HA.out _ ((HT.out.below hb0 HT.out.2).alloc _)).mono ?_
      rintro e w3 ⟨rfl, hb3⟩
      have hbz := (hb0.alloc hs _).trans (hb3.mono (by simp; omega))
      go_wp2
      go_ret
      exact ⟨rfl, hbz⟩
end Go.Proofs.YtimiinnnmdcmhaaDoor
