/-
  Contract: virguleref04.Class; both are one.
-/
import Derived.Test.YtflhdfbpafhjlaaCin
import Derived.Test.YtflhdfbpafhjlaaCls0
import Derived.Test.YtflhdfbpafhjlaaCcl
namespace Go.Proofs.Ytflhdfbpafhjlaa
open Go.RowKit Go.Shelf Go.Lib
theorem find_range (p : Nat → Bool) (k n : Nat) (hk : k < n) (h1 : ∀ j, j < k → p j = false) (h2 : p k = true) : (List.range n).find? p = some k := by
  rw [List.find?_range_eq_some]
  exact ⟨h2, List.mem_range.2 hk, fun j hj => by simp [h1 j hj]⟩
theorem find_range_none (p : Nat → Bool) (n : Nat) (h1 : ∀ j, j < n → p j = false) : (List.range n).find? p = none := by
  rw [List.find?_eq_none]
  intro j hj
  rw [h1 j (List.mem_range.1 hj)]
  simp

set_option maxHeartbeats 2000000 in
theorem rclass_any (r : Int) (w : World) (hr0 : -2147483648 ≤ r) (hr1 : r ≤ 2147483647) :
    Calls Try.prog 17 #[.int .i32 r] w fun e w' => e = .returned (.int .i64 (classF r : Nat)) ∧ Below w.heap.size w w' := by
  by_cases hlv : 44032 ≤ r ∧ r ≤ 55203
  · have e : classF r = if (r - 44032) % 28 = 0 then 14 else 15 := by unfold classF; rw [if_pos hlv]
    obtain ⟨h1, h2⟩ := hlv
    rw [e]
    clear e
    by_cases cm : (r - 44032) % 28 = 0
    · rw [if_pos cm]
      have d : (((r - 44032) % 28 : Int) == 0) = true := by simpa using cm
      clear cm
      go_enter Try.func17, Try.ntmps17
      go_wp2
      go_ret
      exact ⟨rfl, Below.refl _ _⟩
    · rw [if_neg cm]
      have d : (((r - 44032) % 28 : Int) == 0) = false := by simpa using cm
      clear cm
      go_enter Try.func17, Try.ntmps17
      go_wp2
      go_ret
      exact ⟨rfl, Below.refl _ _⟩
  · have e : classF r = ((List.range 36).find? fun c => hasR (refList c) r).getD 0 := by unfold classF; rw [if_neg hlv]
    obtain ⟨N, hN⟩ : ∃ N, classF r = N := ⟨_, rfl⟩
    rw [hN] at e ⊢
    have HN := Lib.hid e
    clear e hN
    have C := Lib.hid list_any
    have CI := Lib.hid (fun A cap xs W (h : RS W W.heap.size A cap xs) => in_any A cap xs r hr0 hr1 W h)
    have main : Calls Try.prog 17 #[.int .i32 r] w fun e w' => e = .returned (.int .i64 (N : Int)) ∧ Below w.heap.size w w' := by
      rcases (show r < 44032 ∨ (44032 ≤ r ∧ 55203 < r) by omega) with h1 | ⟨h1, h2⟩
      all_goals
        first
        | have d1 : decide ((44032 : Int) ≤ r) = false := by simpa using h1
        | have d2 : decide (r ≤ (55203 : Int)) = false := by simpa using h2
        go_enter Try.func17, Try.ntmps17
        go_wp2
        go_loopw [3] (fun c wr => ∃ k : Nat, c = .int .i64 k ∧ 1 ≤ k ∧ k ≤ 36 ∧ Hid (∀ j, j < k → hasR (refList j) r = false) ∧ Below w.heap.size w wr) (fun c _ => 36 - (RowKit.intOf c).toNat)
        case atStart => exact ⟨1, rfl, Nat.le_refl _, by omega, (fun j hj => by obtain rfl : j = 0 := by omega
                                                                                rfl : ∀ j, j < 1 → hasR (refList j) r = false), Below.refl _ _⟩
        case round =>
          obtain ⟨k, rfl, hk1, hk2, hF, hb⟩ := hrel
          by_cases hlt : k < 36
          · have i1 : (k : Int) ≤ 35 := by omega
            have C1 := Lib.hid (C.out k (by omega) hlt wr)
            obtain ⟨M, hM⟩ : ∃ M, hasR (refList k) r = M := ⟨_, rfl⟩
            have HM := Lib.hid hM
            clear hM
            go_wp2_with fail
            refine C1.out.mono ?_
            rintro e w1 ⟨A1, c1, rfl, hS, hb1⟩
            have C2 := CI.out A1 c1 (refList k) w1 hS.r
            rw [HM.out] at C2
            have C2 := Lib.hid C2
            have hb2 := hb.trans (hb1.mono hb.size)
            clear hS hb hb1
            go_wp2_with fail
            refine C2.out.mono ?_
            rintro e w2 ⟨rfl, rfl⟩
            cases M
            · go_wp2
              go_roundw
              case rel => exact ⟨k + 1, by go_num, by omega, by omega, (fun j hj => by
                  by_cases c : j < k
                  · exact hF.out j c
                  · obtain rfl : j = k := by omega
                    exact HM.out : ∀ j, j < k + 1 → hasR (refList j) r = false), hb2⟩
              case measure => simp [RowKit.intOf]; omega
            · have hq : N = k := by rw [HN.out, find_range _ k 36 hlt hF.out HM.out]; rfl
              have HQ := Lib.hid hq
              clear hq
              go_wp2
              go_ret
              exact ⟨by rw [HQ.out]; rfl, hb2⟩
          · have hkn : k = 36 := by omega
            subst hkn
            have hq : N = 0 := by rw [HN.out, find_range_none _ 36 hF.out]; rfl
            have HQ := Lib.hid hq
            clear hq
            go_wp2
            go_ret
            exact ⟨by rw [HQ.out]; rfl, hb⟩
    exact main
end Go.Proofs.Ytflhdfbpafhjlaa
