/-
  Contract: mayWrite, of the program: may a name be written?
-/
import Derived.Test.YtplnkmojkdbbnaaPln
namespace Go.Proofs.Ytplnkmojkdbbnaa
open Go.RowKit Go.Shelf Go.Lib Go.Maps Go.Sort

theorem str_ne {l : List Nat} (h : 0 < l.length) : ((⟨(u8s l).toArray⟩ : ByteArray).toList == []) = false ∧ ((⟨(u8s l).toArray⟩ : ByteArray).toList != []) = true := by
  have e : (⟨(u8s l).toArray⟩ : ByteArray).toList = u8s l := by simp
  rw [e]
  cases l with
  | nil => simp at h
  | cons a r => exact ⟨rfl, rfl⟩
set_option maxHeartbeats 4000000 in
set_option maxRecDepth 100000 in
theorem mayWrite_any (l : List Nat) (h256 : ∀ x ∈ l, x < 256) (hl : l.length ≤ 1000000) (w : World) :
    Calls Try.prog 26 #[strV l] w fun e w' => e = .returned (.bool (plnB l)) ∧ Below w.heap.size w w' := by
  obtain ⟨cap, W1, hcv, hr, hb1⟩ := conv_str w l h256 hl
  have hne := str_ne (l := l)
  have hez : l.length = 0 → (⟨(u8s l).toArray⟩ : ByteArray) = ⟨#[]⟩ := fun h => by
    rw [List.eq_nil_of_length_eq_zero h]
    rfl
  unfold strV at hcv ⊢
  obtain ⟨N, hN⟩ : ∃ N, l.length = N := ⟨_, rfl⟩
  rw [hN] at hcv hl hne hez
  obtain ⟨S, hS⟩ : ∃ S : ByteArray, ⟨(u8s l).toArray⟩ = S := ⟨_, rfl⟩
  rw [hS] at hcv hne hez ⊢
  have hs := hb1.size
  obtain ⟨G, hG⟩ : ∃ G, w.heap.size = G := ⟨_, rfl⟩
  rw [hG] at hcv hr
  have hB1 := hr.by
  have hlc : N ≤ cap := by rw [← hN]; exact hr.le
  have hcx : cap ≤ 9223372036854775807 := by have := hr.mx; unfold maxLen at this; omega
  have HH := Lib.hid (And.intro hN (And.intro h256 (And.intro hB1 (And.intro hb1 (And.intro hne hez)))))
  clear hr hb1 hN h256 hG hS hB1 hne hez
  obtain ⟨P, hP⟩ : ∃ P, plnB l = P := ⟨_, rfl⟩
  rw [hP]
  have HP := Lib.hid hP
  clear hP
  go_enter Try.func26, Try.ntmps26
  go_wp2_with fail
  go_loopw [10] (fun i wr => ∃ k : Nat, i = .int .i64 (k : Int) ∧ k ≤ N ∧ (∀ (j y : Nat), j < k → l[j]? = some y → pOk j y = true) ∧ wr = W1) (fun i _ => N - (RowKit.intOf i).toNat)
  case atStart => exact ⟨0, by go_num, by omega, fun j y hj => absurd hj (by omega), rfl⟩
  case round =>
    obtain ⟨k, rfl, hk, hj, ew⟩ := hrel
    obtain rfl := ew.symm
    clear ew
    by_cases hlt : k < N
    case neg =>
      obtain rfl : k = N := by omega
      have he := pln_end (l := l) fun j x hx => hj j x (by have := (List.getElem?_eq_some_iff.1 hx).1; rw [HH.out.1] at this; exact this) hx
      rw [HP.out, HH.out.1] at he
      have HE := Lib.hid he
      clear he hj
      by_cases h0 : 0 < k
      · have n1 := (HH.out.2.2.2.2.1 h0).1
        have n2 := (HH.out.2.2.2.2.1 h0).2
        go_wp2_with fail
        go_ret
        exact ⟨by rw [HE.out]; simp [h0, n1, n2], HH.out.2.2.2.1⟩
      · have hz := HH.out.2.2.2.2.2 (by omega)
        rw [hz]
        clear hz
        go_wp2_with fail
        go_ret
        exact ⟨by rw [HE.out]; simp [h0], HH.out.2.2.2.1⟩
    have i1 : (k : Int) < (N : Int) := by omega
    obtain ⟨x, hx⟩ := at_lt (l := l) (k := k) (by rw [HH.out.1]; exact hlt)
    have hx256 := HH.out.2.1 x (List.mem_of_getElem? hx)
    obtain ⟨b', o', e', _, d0⟩ := HH.out.2.2.1.at hx
    obtain ⟨rfl, rfl⟩ : G = b' ∧ 0 = o' := by simpa using e'
    rw [Nat.zero_add] at d0
    by_cases x1 : 97 ≤ x
    · by_cases x2 : x ≤ 122
      · have hp : pOk k x = true := by unfold pOk smB diB; simp; omega
        have HE := Lib.hid (okTo_snoc hx hp hj)
        clear hp hj hx hx256
        have f0 : decide (97 ≤ (x : Int)) = true := by simp; omega
        have f1 : decide ((x : Int) ≤ 122) = true := by simp; omega
        have f2 : decide (48 ≤ (x : Int)) = true := by simp; omega
        have f3 : decide ((x : Int) ≤ 57) = false := by simp; omega
        clear x1 x2 e'
        generalize (x : Int) = X at *
        go_wp2_with fail
        go_roundw
        case rel => exact ⟨k + 1, by go_num, by omega, HE.out, trivial⟩
        case measure => simp [RowKit.intOf]; omega
      · by_cases k0 : k = 0
        · have hp : pOk k x = false := by unfold pOk smB diB; simp; omega
          have he := pln_bad hx hp
          rw [HP.out] at he
          have HE := Lib.hid he
          clear hp hj hx hx256 he
          have f0 : decide (97 ≤ (x : Int)) = true := by simp; omega
          have f1 : decide ((x : Int) ≤ 122) = false := by simp; omega
          have f2 : decide (48 ≤ (x : Int)) = true := by simp; omega
          have f3 : decide ((x : Int) ≤ 57) = false := by simp; omega
          have f4 : ((k : Int) == 0) = true := by simp; omega
          clear x1 x2 k0 e'
          generalize (x : Int) = X at *
          go_wp2_with fail
          go_ret
          exact ⟨by rw [HE.out]; rfl, HH.out.2.2.2.1⟩
        · have hp : pOk k x = false := by unfold pOk smB diB; simp; omega
          have he := pln_bad hx hp
          rw [HP.out] at he
          have HE := Lib.hid he
          clear hp hj hx hx256 he
          have f0 : decide (97 ≤ (x : Int)) = true := by simp; omega
          have f1 : decide ((x : Int) ≤ 122) = false := by simp; omega
          have f2 : decide (48 ≤ (x : Int)) = true := by simp; omega
          have f3 : decide ((x : Int) ≤ 57) = false := by simp; omega
          have f4 : ((k : Int) == 0) = false := by simp; omega
          clear x1 x2 k0 e'
          generalize (x : Int) = X at *
          go_wp2_with fail
          go_ret
          exact ⟨by rw [HE.out]; rfl, HH.out.2.2.2.1⟩
    · by_cases x2 : 48 ≤ x
      · by_cases x3 : x ≤ 57
        · by_cases k0 : k = 0
          · have hp : pOk k x = false := by unfold pOk smB diB; simp; omega
            have he := pln_bad hx hp
            rw [HP.out] at he
            have HE := Lib.hid he
            clear hp hj hx hx256 he
            have f0 : decide (97 ≤ (x : Int)) = false := by simp; omega
            have f1 : decide (48 ≤ (x : Int)) = true := by simp; omega
            have f2 : decide ((x : Int) ≤ 57) = true := by simp; omega
            have f3 : ((k : Int) == 0) = true := by simp; omega
            clear x1 x2 x3 k0 e'
            generalize (x : Int) = X at *
            go_wp2_with fail
            go_ret
            exact ⟨by rw [HE.out]; rfl, HH.out.2.2.2.1⟩
          · have hp : pOk k x = true := by unfold pOk smB diB; simp; omega
            have HE := Lib.hid (okTo_snoc hx hp hj)
            clear hp hj hx hx256
            have f0 : decide (97 ≤ (x : Int)) = false := by simp; omega
            have f1 : decide (48 ≤ (x : Int)) = true := by simp; omega
            have f2 : decide ((x : Int) ≤ 57) = true := by simp; omega
            have f3 : ((k : Int) == 0) = false := by simp; omega
            clear x1 x2 x3 k0 e'
            generalize (x : Int) = X at *
            go_wp2_with fail
            go_roundw
            case rel => exact ⟨k + 1, by go_num, by omega, HE.out, trivial⟩
            case measure => simp [RowKit.intOf]; omega
        · by_cases k0 : k = 0
          · have hp : pOk k x = false := by unfold pOk smB diB; simp; omega
            have he := pln_bad hx hp
            rw [HP.out] at he
            have HE := Lib.hid he
            clear hp hj hx hx256 he
            have f0 : decide (97 ≤ (x : Int)) = false := by simp; omega
            have f1 : decide (48 ≤ (x : Int)) = true := by simp; omega
            have f2 : decide ((x : Int) ≤ 57) = false := by simp; omega
            have f3 : ((k : Int) == 0) = true := by simp; omega
            clear x1 x2 x3 k0 e'
            generalize (x : Int) = X at *
            go_wp2_with fail
            go_ret
            exact ⟨by rw [HE.out]; rfl, HH.out.2.2.2.1⟩
          · have hp : pOk k x = false := by unfold pOk smB diB; simp; omega
            have he := pln_bad hx hp
            rw [HP.out] at he
            have HE := Lib.hid he
            clear hp hj hx hx256 he
            have f0 : decide (97 ≤ (x : Int)) = false := by simp; omega
            have f1 : decide (48 ≤ (x : Int)) = true := by simp; omega
            have f2 : decide ((x : Int) ≤ 57) = false := by simp; omega
            have f3 : ((k : Int) == 0) = false := by simp; omega
            clear x1 x2 x3 k0 e'
            generalize (x : Int) = X at *
            go_wp2_with fail
            go_ret
            exact ⟨by rw [HE.out]; rfl, HH.out.2.2.2.1⟩
      · by_cases k0 : k = 0
        · have hp : pOk k x = false := by unfold pOk smB diB; simp; omega
          have he := pln_bad hx hp
          rw [HP.out] at he
          have HE := Lib.hid he
          clear hp hj hx hx256 he
          have f0 : decide (97 ≤ (x : Int)) = false := by simp; omega
          have f1 : decide (48 ≤ (x : Int)) = false := by simp; omega
          have f2 : ((k : Int) == 0) = true := by simp; omega
          clear x1 x2 k0 e'
          generalize (x : Int) = X at *
          go_wp2_with fail
          go_ret
          exact ⟨by rw [HE.out]; rfl, HH.out.2.2.2.1⟩
        · have hp : pOk k x = false := by unfold pOk smB diB; simp; omega
          have he := pln_bad hx hp
          rw [HP.out] at he
          have HE := Lib.hid he
          clear hp hj hx hx256 he
          have f0 : decide (97 ≤ (x : Int)) = false := by simp; omega
          have f1 : decide (48 ≤ (x : Int)) = false := by simp; omega
          have f2 : ((k : Int) == 0) = false := by simp; omega
          clear x1 x2 k0 e'
          generalize (x : Int) = X at *
          go_wp2_with fail
          go_ret
          exact ⟨by rw [HE.out]; rfl, HH.out.2.2.2.1⟩
end Go.Proofs.Ytplnkmojkdbbnaa
