/-
  Contracts: virguleref01.Right, virguleref01.Parse.
-/
import Derived.Test.YtimiinnnmdcmhaaDoorPi5
namespace Go.Proofs.YtimiinnnmdcmhaaDoor
open Go.RowKit Go.Shelf
open Go.Lib

theorem rr_any (r : Int) (w : World) : Calls Tryd.prog 27 #[.int .i32 r] w fun e w' => e = .returned (.bool (Lib.validRune r)) ∧ w' = w := by
  have hv := valid_iff r
  obtain ⟨V, hV⟩ : ∃ V, Lib.validRune r = V := ⟨_, rfl⟩
  rw [hV] at hv ⊢
  by_cases c1 : 0 ≤ r
  · by_cases c2 : r ≤ 1114111
    · by_cases c3 : r < 55296
      · obtain rfl : V = true := hv.2 (by omega)
        clear hv hV
        go_enter Tryd.func27, Tryd.ntmps27
        go_wp2
        go_ret
        exact ⟨rfl, rfl⟩
      · have d3 : decide (r < 55296) = false := by simpa using c3
        by_cases c4 : 57343 < r
        · obtain rfl : V = true := hv.2 (by omega)
          clear hv hV
          go_enter Tryd.func27, Tryd.ntmps27
          go_wp2
          go_ret
          exact ⟨rfl, rfl⟩
        · have d4 : decide (57343 < r) = false := by simpa using c4
          obtain rfl : V = false := by cases V; rfl; exact absurd (hv.1 rfl) (by omega)
          clear hv hV
          go_enter Tryd.func27, Tryd.ntmps27
          go_wp2
          go_ret
          exact ⟨rfl, rfl⟩
    · have d2 : decide (r ≤ 1114111) = false := by simpa using c2
      obtain rfl : V = false := by cases V; rfl; exact absurd (hv.1 rfl) (by omega)
      clear hv hV
      go_enter Tryd.func27, Tryd.ntmps27
      go_wp2
      go_ret
      exact ⟨rfl, rfl⟩
  · have d1 : decide (0 ≤ r) = false := by simpa using c1
    obtain rfl : V = false := by cases V; rfl; exact absurd (hv.1 rfl) (by omega)
    clear hv hV
    go_enter Tryd.func27, Tryd.ntmps27
    go_wp2
    go_ret
    exact ⟨rfl, rfl⟩

def rfR : Option Nat → Int
  | some m => if Lib.validRune m then (m : Int) else -1
  | none => -1
theorem rfP_short {L : List UInt8} (h : ¬ (6 ≤ L.length ∧ L.length ≤ 8 ∧ L.take 2 = [85, 43] ∧ ¬ (6 < L.length ∧ L[2]? = some 48))) : rfP L = -1 := by unfold rfP; rw [if_neg h]
theorem rfP_long {L : List UInt8} (h : 6 ≤ L.length ∧ L.length ≤ 8 ∧ L.take 2 = [85, 43] ∧ ¬ (6 < L.length ∧ L[2]? = some 48)) : rfP L = rfR (rv (L.drop 2) 0) := by
  unfold rfP
  rw [if_pos h]
  cases rv (L.drop 2) 0 <;> rfl
theorem pow_step (k m d : Nat) (hk : 2 ≤ k) (h : m < 16 ^ (k - 2)) (hd : d < 16) : 16 * m + d < 16 ^ (k + 1 - 2) := by
  rw [show k + 1 - 2 = (k - 2) + 1 by omega, Nat.pow_succ]
  omega
theorem pow_top (k m : Nat) (hk : k ≤ 8) (h : m < 16 ^ (k - 2)) : m < 16777216 := Nat.lt_of_lt_of_le h (Nat.pow_le_pow_right (n := 16) (by omega) (show k - 2 ≤ 6 by omega))

set_option maxHeartbeats 4000000 in
set_option maxRecDepth 100000 in
/-- The digits. -/
theorem rfl_any (s : ByteArray) (w : World) (h6 : 6 ≤ s.size) (h8 : s.size ≤ 8) (h2 : s.data.toList.take 2 = [85, 43]) (hz : ¬ (6 < s.size ∧ s.data.toList[2]? = some 48)) :
    Calls Tryd.prog 28 #[.string s] w fun e w' => e = .returned (.int .i32 (rfP s.data.toList)) ∧ w' = w := by
  have hl : s.data.toList.length = s.size := by simp
  rw [rfP_long ⟨by omega, by omega, h2, by rw [hl]; exact hz⟩]
  have CR := Lib.hid rr_any
  have e2 : (s.extract 0 2).toList = [85, 43] := by
    rw [ByteArray.toList_eq, ByteArray.data_extract, Array.toList_extract, List.extract_eq_take_drop]
    simpa using h2
  have hat : ∀ k (hk : k < s.size), s.data.toList[k]? = some (s[k]'hk) := fun k hk => by
    rw [List.getElem?_eq_getElem (by omega)]
    rfl
  have HAT := Lib.hid hat
  have HL := Lib.hid hl
  have HD : Hid (∀ k (hk : k < s.size), s.data.toList.drop k = (s[k]'hk) :: s.data.toList.drop (k + 1)) := Lib.hid fun k hk => by
    rw [List.drop_eq_getElem_cons (by omega)]
    rfl
  generalize hLL : s.data.toList = L at *
  have i6 : (6 : Int) ≤ (s.size : Int) := by omega
  have j6 : decide ((s.size : Int) < 6) = false := by simp; omega
  have j8 : decide ((8 : Int) < (s.size : Int)) = false := by simp; omega
  have n6 : decide (s.size < 6) = false := by simp; omega
  have n8 : decide (8 < s.size) = false := by simp; omega
  have hs2 : 2 < s.size := by omega
  obtain ⟨c2, hc2⟩ : ∃ c, s[2]'hs2 = c := ⟨_, rfl⟩
  have hcz := hat 2 hs2
  rw [hc2] at hcz
  have K : 6 < s.size → ((c2.toNat : Int) == 48) = false := fun h => by
    simp only [beq_eq_false_iff_ne]
    intro e
    refine hz ⟨h, ?_⟩
    rw [hcz]
    exact congrArg some (UInt8.toNat_inj.1 (by show c2.toNat = 48; omega))
  have HK := Lib.hid K
  clear hat hl h2 hcz hz hLL K
  obtain ⟨R, hR⟩ : ∃ R, rv (L.drop 2) 0 = R := ⟨_, rfl⟩
  rw [hR]
  have HR := Lib.hid hR
  clear hR
  by_cases c7 : 6 < s.size
  all_goals
    first
      | (have k48 := HK.out c7
         have i7 : (6 : Int) < (s.size : Int) := by omega)
      | (have i7 : decide ((6 : Int) < (s.size : Int)) = false := by simp; omega
         have n7 : decide (6 < s.size) = false := by simp; omega)
    clear c7
    go_enter Tryd.func28, Tryd.ntmps28
    go_wp2_with fail
    go_loopw [3, 4] (fun r i wr => ∃ k m : Nat, i = .int .i64 k ∧ k ≤ s.size ∧ 2 ≤ k ∧ r = .int .i32 m ∧ m < 16 ^ (k - 2) ∧ rv (L.drop k) m = R ∧ wr = w) (fun _ i _ => s.size - (RowKit.intOf i).toNat)
    case atStart => exact ⟨2, 0, rfl, by omega, Nat.le_refl _, rfl, by omega, HR.out, rfl⟩
    case round =>
      obtain ⟨k, m, rfl, hk, hk2, rfl, hm, hP, rfl⟩ := hrel
      have HP := Lib.hid hP
      have mt := pow_top k m (by omega) hm
      have m0 : (0 : Int) ≤ (m : Int) := by omega
      have m1 : (m : Int) ≤ 16777215 := by omega
      have HM := Lib.hid (fun d hd => pow_step k m d hk2 hm hd)
      clear hP hm mt
      by_cases hlt : k < s.size
      · obtain ⟨c8, hc8⟩ : ∃ c, s[k]'hlt = c := ⟨_, rfl⟩
        have hd := HD.out k hlt
        rw [hc8] at hd
        have HS : Hid (R = if ud c8.toNat < 16 then rv (L.drop (k + 1)) (16 * m + ud c8.toNat) else none) := Lib.hid (by rw [← HP.out, hd]; rfl)
        have hc256 := UInt8.toNat_lt c8
        generalize hcn : c8.toNat = c at *
        clear hd HP
        have i1 : (k : Int) < (s.size : Int) := by omega
        have c0 : (0 : Int) ≤ (c : Int) := by omega
        have c1 : (c : Int) ≤ 255 := by omega
        by_cases a : 48 ≤ c ∧ c ≤ 57
        · have e : ud c = c - 48 := if_pos a
          rw [e, if_pos (by omega)] at HS
          have a1 : (48 : Int) ≤ (c : Int) := by omega
          have a2 : (c : Int) ≤ 57 := by omega
          have HM2 := Lib.hid (HM.out (c - 48) (by omega))
          clear a e
          go_wp2
          go_roundw
          case rel => exact ⟨k + 1, 16 * m + (c - 48), by go_num, by omega, by omega, by go_num, HM2.out, HS.out.symm, trivial⟩
          case measure => simp [RowKit.intOf]; omega
        · have ep : ud c = if 65 ≤ c ∧ c ≤ 70 then c - 55 else 99 := if_neg a
          by_cases b : 65 ≤ c ∧ c ≤ 70
          · rw [if_pos b] at ep
            rw [ep, if_pos (by omega)] at HS
            have a1 : (48 : Int) ≤ (c : Int) := by omega
            have a2 : decide ((c : Int) ≤ 57) = false := by simp; omega
            have b1 : (65 : Int) ≤ (c : Int) := by omega
            have b2 : (c : Int) ≤ 70 := by omega
            have HM2 := Lib.hid (HM.out (c - 55) (by omega))
            clear a b ep
            go_wp2
            go_roundw
            case rel => exact ⟨k + 1, 16 * m + (c - 55), by go_num, by omega, by omega, by go_num, HM2.out, HS.out.symm, trivial⟩
            case measure => simp [RowKit.intOf]; omega
          · rw [if_neg b] at ep
            rw [ep, if_neg (by omega)] at HS
            have HRR := Lib.hid (show rfR R = -1 by rw [HS.out]; rfl)
            by_cases g1 : 48 ≤ c
            · have a1 : (48 : Int) ≤ (c : Int) := by omega
              have a2 : decide ((c : Int) ≤ 57) = false := by simp; omega
              by_cases g2 : 65 ≤ c
              · have b1 : (65 : Int) ≤ (c : Int) := by omega
                have b2 : decide ((c : Int) ≤ 70) = false := by simp; omega
                clear a b ep g1 g2
                go_wp2
                go_ret
                exact ⟨by rw [HRR.out]; rfl, rfl⟩
              · have b1 : decide ((65 : Int) ≤ (c : Int)) = false := by simp; omega
                clear a b ep g1 g2
                go_wp2
                go_ret
                exact ⟨by rw [HRR.out]; rfl, rfl⟩
            · have a1 : decide ((48 : Int) ≤ (c : Int)) = false := by simp; omega
              have b1 : decide ((65 : Int) ≤ (c : Int)) = false := by simp; omega
              clear a b ep g1
              go_wp2
              go_ret
              exact ⟨by rw [HRR.out]; rfl, rfl⟩
      · have hkn : k = s.size := by omega
        have HE := Lib.hid (show R = some m by rw [← HP.out, List.drop_eq_nil_of_le (by have := HL.out; omega)]; rfl)
        have C1 := CR.out m wr
        obtain ⟨V, hV⟩ : ∃ V, Lib.validRune (m : Int) = V := ⟨_, rfl⟩
        rw [hV] at C1
        have HRR := Lib.hid (show rfR R = if V then (m : Int) else -1 by rw [HE.out, ← hV]; rfl)
        have C1 := Lib.hid C1
        subst hkn
        clear hV
        go_wp2_with fail
        refine C1.out.mono ?_
        rintro e w1 ⟨rfl, rfl⟩
        cases V
        · go_wp2
          go_ret
          exact ⟨by rw [HRR.out]; rfl, rfl⟩
        · go_wp2
          go_ret
          exact ⟨by rw [HRR.out]; rfl, rfl⟩
end Go.Proofs.YtimiinnnmdcmhaaDoor
