/-
  ScalarParses: any text's scalar; or that it is none's. The walk of the law.
-/
import Derived.Test.YtimiinnnmdcmhaaDoorPi6
import Derived.Test.YtimiinnnmdcmhaaDoorAwake
namespace Go.Proofs.YtimiinnnmdcmhaaDoor
open Go.RowKit Go.Shelf
open Go.Lib

set_option maxHeartbeats 2000000 in
set_option maxRecDepth 100000 in
theorem rf_any (s : ByteArray) (w : World) (hs : s.size ≤ 1000000) :
    Calls Tryd.prog 28 #[.string s] w fun e w' => e = .returned (.int .i32 (rfP s.data.toList)) ∧ w' = w := by
  have hl : s.data.toList.length = s.size := by simp
  by_cases h6 : 6 ≤ s.size
  · by_cases h8 : s.size ≤ 8
    · have j6 : decide ((s.size : Int) < 6) = false := by simp; omega
      have j8 : decide ((8 : Int) < (s.size : Int)) = false := by simp; omega
      have n6 : decide (s.size < 6) = false := by simp; omega
      have n8 : decide (8 < s.size) = false := by simp; omega
      by_cases h2 : s.data.toList.take 2 = [85, 43]
      · by_cases hz : 6 < s.size ∧ s.data.toList[2]? = some 48
        · rw [rfP_short (by rintro ⟨_, _, _, h⟩; exact h ⟨by omega, hz.2⟩)]
          obtain ⟨h7, hz⟩ := hz
          have e2 : (s.extract 0 2).toList = [85, 43] := by
            rw [ByteArray.toList_eq, ByteArray.data_extract, Array.toList_extract, List.extract_eq_take_drop]
            simpa using h2
          have hs2 : 2 < s.size := by omega
          have hc2 : s[2]'hs2 = 48 := by
            have h : s.data.toList[2]? = some (s[2]'hs2) := by
              rw [List.getElem?_eq_getElem (by omega)]
              rfl
            rw [h] at hz
            injection hz
          have i6 : (6 : Int) < (s.size : Int) := by omega
          clear h2 hz hl h6 h8
          go_enter Tryd.func28, Tryd.ntmps28
          go_wp2
          go_ret
          exact ⟨rfl, rfl⟩
        · exact rfl_any s w h6 h8 h2 hz
      · rw [rfP_short (by rintro ⟨_, _, h, _⟩; exact h2 h)]
        have e2 : ((s.extract 0 2).toList == [85, 43]) = false := by
          rw [ByteArray.toList_eq, ByteArray.data_extract, Array.toList_extract, List.extract_eq_take_drop]
          simpa using h2
        have i6 : (6 : Int) ≤ (s.size : Int) := by omega
        clear h2 hl h6 h8
        go_enter Tryd.func28, Tryd.ntmps28
        go_wp2
        go_ret
        exact ⟨rfl, rfl⟩
    · rw [rfP_short (by rintro ⟨_, h, _⟩; omega)]
      have j6 : decide ((s.size : Int) < 6) = false := by simp; omega
      have n6 : decide (s.size < 6) = false := by simp; omega
      have j8 : 8 < s.size := by omega
      clear hl h6 h8
      go_enter Tryd.func28, Tryd.ntmps28
      go_wp2
      go_ret
      exact ⟨rfl, rfl⟩
  · rw [rfP_short (by rintro ⟨h, _⟩; omega)]
    have j6 : s.size < 6 := by omega
    clear hl h6
    go_enter Tryd.func28, Tryd.ntmps28
    go_wp2
    go_ret
    exact ⟨rfl, rfl⟩

set_option maxHeartbeats 2000000 in
theorem parses_walk (s : ByteArray) (w : World) (hm : s.size ≤ 9223372036854775807) (hT : Tabs w) (hZ : TZ w) (hE : EV w) :
    Calls Tryd.prog 7 #[.string s] w fun e w' => e = .returned (.bool true) ∧ Below w.heap.size w w' := by
  have HA := Lib.hid awake_any
  have HT := Lib.hid hT
  by_cases hl : 100 < s.size
  · have d : 100 < s.size := hl
    have d' : (100 : Int) < (s.size : Int) := by omega
    clear hT hZ hE hl
    go_enter Tryd.func7, Tryd.ntmps7
    go_wp2_with fail
    refine (HA.out _ HT.out).mono ?_
    rintro e w1 ⟨rfl, hb⟩
    go_wp2
    go_ret
    exact ⟨rfl, hb⟩
  · have d : decide (100 < s.size) = false := by simpa using hl
    have d' : decide ((100 : Int) < (s.size : Int)) = false := by simp; omega
    have C1 := parse_any s w (by omega) hZ hE
    have C2 := Lib.hid (fun W => rf_any s W (by omega))
    rw [scP_rfP] at C1
    have hpos : rfP s.data.toList = -1 ∨ 0 ≤ rfP s.data.toList := by
      by_cases h : rfP s.data.toList = -1
      · exact .inl h
      · exact .inr ((valid_iff _).1 (rfP_pos h).1).1
    generalize rfP s.data.toList = R at *
    clear hT hZ hE hl
    rcases hpos with h | h
    · subst h
      rw [if_pos rfl] at C1
      have C1 := Lib.hid C1
      go_enter Tryd.func7, Tryd.ntmps7
      go_wp2_with fail
      refine C1.out.mono ?_
      rintro e w1 ⟨rfl, hb⟩
      have HT1 := Lib.hid (HT.out.below hb HT.out.2)
      unfold scPV
      go_wp2_with fail
      refine (C2.out _).mono ?_
      rintro e w2 ⟨rfl, rfl⟩
      go_wp2_with fail
      refine (HA.out _ HT1.out).mono ?_
      rintro e w3 ⟨rfl, hb3⟩
      have hbz := hb.trans (hb3.mono hb.size)
      go_wp2
      go_ret
      exact ⟨rfl, hbz⟩
    · have dn : decide (R < 0) = false := by simp; omega
      rw [if_neg (by omega)] at C1
      have C1 := Lib.hid C1
      clear h
      go_enter Tryd.func7, Tryd.ntmps7
      go_wp2_with fail
      refine C1.out.mono ?_
      rintro e w1 ⟨rfl, hb⟩
      have HT1 := Lib.hid (HT.out.below hb HT.out.2)
      unfold scPV
      go_wp2_with fail
      refine (C2.out _).mono ?_
      rintro e w2 ⟨rfl, rfl⟩
      go_wp2_with fail
      refine (HA.out _ HT1.out).mono ?_
      rintro e w3 ⟨rfl, hb3⟩
      have hbz := hb.trans (hb3.mono hb.size)
      go_wp2
      go_ret
      exact ⟨rfl, hbz⟩
end Go.Proofs.YtimiinnnmdcmhaaDoor
