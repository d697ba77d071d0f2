/-
  Contract: plain, of the law: may a name be written?
-/
import Derived.Test.YtplnkmojkdbbnaaLow
import Derived.Test.YtplnkmojkdbbnaaRlo
namespace Go.Proofs.Ytplnkmojkdbbnaa
open Go.RowKit Go.Shelf Go.Lib Go.Maps Go.Sort

def smB (x : Nat) : Bool := decide (97 ≤ x) && decide (x ≤ 122)
def diB (x : Nat) : Bool := decide (48 ≤ x) && decide (x ≤ 57)
/-- May the byte x stand at place j of a name? -/
def pOk (j x : Nat) : Bool := smB x || (decide (0 < j) && diB x)
def plnB (l : List Nat) : Bool := decide (0 < l.length) && (List.range l.length).all fun j => pOk j (l.getD j 0)
theorem pln_bad {l : List Nat} {k x : Nat} (hx : l[k]? = some x) (h : pOk k x = false) : plnB l = false := by
  obtain ⟨hk, e⟩ := List.getElem?_eq_some_iff.1 hx
  unfold plnB
  rw [Bool.and_eq_false_iff]
  right
  rw [List.all_eq_false]
  refine ⟨k, List.mem_range.2 hk, ?_⟩
  rw [List.getD_eq_getElem?_getD, hx]
  simpa using h
theorem pln_end {l : List Nat} (h : ∀ (j x : Nat), l[j]? = some x → pOk j x = true) : plnB l = decide (0 < l.length) := by
  unfold plnB
  have e : ((List.range l.length).all fun j => pOk j (l.getD j 0)) = true := by
    rw [List.all_eq_true]
    intro j hj
    have hk := List.mem_range.1 hj
    have hx : l[j]? = some (l[j]) := List.getElem?_eq_getElem hk
    rw [List.getD_eq_getElem?_getD, hx]
    exact h j _ hx
  rw [e, Bool.and_true]
theorem pln_at {l : List Nat} (h : plnB l = true) : 0 < l.length ∧ ∀ (j x : Nat), l[j]? = some x → pOk j x = true := by
  unfold plnB at h
  rw [Bool.and_eq_true, List.all_eq_true] at h
  refine ⟨of_decide_eq_true h.1, fun j x hx => ?_⟩
  have hk := (List.getElem?_eq_some_iff.1 hx).1
  have := h.2 j (List.mem_range.2 hk)
  rw [List.getD_eq_getElem?_getD, hx] at this
  exact this
theorem okTo_snoc {l : List Nat} {k x : Nat} (hx : l[k]? = some x) (hp : pOk k x = true) (h : ∀ (j y : Nat), j < k → l[j]? = some y → pOk j y = true) : ∀ (j y : Nat), j < k + 1 → l[j]? = some y → pOk j y = true := fun j y hj hy => by
  by_cases e : j = k
  · subst e
    have := hy.symm.trans hx
    injection this with this
    rw [this]
    exact hp
  · exact h j y (by omega) hy
set_option maxHeartbeats 4000000 in
set_option maxRecDepth 100000 in
theorem plain_any (l : List Nat) (h256 : ∀ x ∈ l, x < 256) (hl : l.length ≤ 1000000) (w : World) :
    Calls Try.prog 12 #[strV l] w fun e w' => e = .returned (.bool (plnB l)) ∧ w' = w := by
  have hsz := size_str l
  obtain ⟨N, hN⟩ : ∃ N, l.length = N := ⟨_, rfl⟩
  have hix := fun k x (hx : l[k]? = some x) => index_str hx (h256 x (List.mem_of_getElem? hx))
  unfold strV
  rw [hN] at hsz hl
  have HH := Lib.hid (And.intro hN (And.intro h256 hix))
  clear hN h256 hix
  obtain ⟨S, hS⟩ : ∃ S : ByteArray, ⟨(u8s l).toArray⟩ = S := ⟨_, rfl⟩
  rw [hS] at hsz ⊢
  have HS := Lib.hid hS
  clear hS
  obtain ⟨P, hP⟩ : ∃ P, plnB l = P := ⟨_, rfl⟩
  rw [hP]
  have HP := Lib.hid hP
  clear hP
  go_enter Try.func12, Try.ntmps12
  go_wp2_with fail
  go_loopw [3] (fun i wr => ∃ k : Nat, i = .int .i64 (k : Int) ∧ k ≤ N ∧ (∀ (j y : Nat), j < k → l[j]? = some y → pOk j y = true) ∧ wr = w) (fun i _ => N - (RowKit.intOf i).toNat)
  case atStart => exact ⟨0, by go_num, by omega, fun j y hj => absurd hj (by omega), rfl⟩
  case round =>
    obtain ⟨k, rfl, hk, hj, ew⟩ := hrel
    obtain rfl := ew.symm
    clear ew
    by_cases hlt : k < N
    case neg =>
      obtain rfl : k = N := by omega
      have he := pln_end (l := l) fun j x hx => hj j x (by have := (List.getElem?_eq_some_iff.1 hx).1; rw [HH.out.1] at this; exact this) hx
      rw [HP.out, HH.out.1] at he
      have HE := Lib.hid he
      clear he hj
      by_cases h0 : 0 < k
      · have i0 : (0 : Int) < (k : Int) := by omega
        go_wp2_with fail
        go_ret
        exact ⟨by rw [HE.out]; simp [h0], rfl⟩
      · have i0 : ¬ (0 : Int) < (k : Int) := by omega
        go_wp2_with fail
        go_ret
        exact ⟨by rw [HE.out]; simp [h0], rfl⟩
    have i1 : (k : Int) < (N : Int) := by omega
    obtain ⟨x, hx⟩ := at_lt (l := l) (k := k) (by rw [HH.out.1]; exact hlt)
    have hx256 := HH.out.2.1 x (List.mem_of_getElem? hx)
    have hi := HH.out.2.2 k x hx
    rw [HS.out] at hi
    by_cases x1 : 97 ≤ x
    · by_cases x2 : x ≤ 122
      · have hp : pOk k x = true := by unfold pOk smB diB; simp; omega
        have HE := Lib.hid (okTo_snoc hx hp hj)
        clear hp hj hx hx256
        have d0 : decide (97 ≤ (x : Int)) = true := by simp; omega
        have d1 : decide ((x : Int) ≤ 122) = true := by simp; omega
        clear x1 x2
        generalize (x : Int) = X at *
        go_wp2_with fail
        go_roundw
        case rel => exact ⟨k + 1, by go_num, by omega, HE.out, trivial⟩
        case measure => simp [RowKit.intOf]; omega
      · by_cases k0 : k = 0
        · have hp : pOk k x = false := by unfold pOk smB diB; simp; omega
          have he := pln_bad hx hp
          rw [HP.out] at he
          have HE := Lib.hid he
          clear hp hj hx hx256 he
          have d0 : decide (97 ≤ (x : Int)) = true := by simp; omega
          have d1 : decide ((x : Int) ≤ 122) = false := by simp; omega
          have d2 : ((k : Int) == 0) = true := by simp; omega
          clear x1 x2 k0
          generalize (x : Int) = X at *
          go_wp2_with fail
          go_ret
          exact ⟨by rw [HE.out]; rfl, rfl⟩
        · by_cases x3 : x < 48
          · have hp : pOk k x = false := by unfold pOk smB diB; simp; omega
            have he := pln_bad hx hp
            rw [HP.out] at he
            have HE := Lib.hid he
            clear hp hj hx hx256 he
            have d0 : decide (97 ≤ (x : Int)) = true := by simp; omega
            have d1 : decide ((x : Int) ≤ 122) = false := by simp; omega
            have d2 : ((k : Int) == 0) = false := by simp; omega
            have d3 : decide ((x : Int) < 48) = true := by simp; omega
            clear x1 x2 k0 x3
            generalize (x : Int) = X at *
            go_wp2_with fail
            go_ret
            exact ⟨by rw [HE.out]; rfl, rfl⟩
          · by_cases x4 : 57 < x
            · have hp : pOk k x = false := by unfold pOk smB diB; simp; omega
              have he := pln_bad hx hp
              rw [HP.out] at he
              have HE := Lib.hid he
              clear hp hj hx hx256 he
              have d0 : decide (97 ≤ (x : Int)) = true := by simp; omega
              have d1 : decide ((x : Int) ≤ 122) = false := by simp; omega
              have d2 : ((k : Int) == 0) = false := by simp; omega
              have d3 : decide ((x : Int) < 48) = false := by simp; omega
              have d4 : decide (57 < (x : Int)) = true := by simp; omega
              clear x1 x2 k0 x3 x4
              generalize (x : Int) = X at *
              go_wp2_with fail
              go_ret
              exact ⟨by rw [HE.out]; rfl, rfl⟩
            · have hp : pOk k x = true := by unfold pOk smB diB; simp; omega
              have HE := Lib.hid (okTo_snoc hx hp hj)
              clear hp hj hx hx256
              have d0 : decide (97 ≤ (x : Int)) = true := by simp; omega
              have d1 : decide ((x : Int) ≤ 122) = false := by simp; omega
              have d2 : ((k : Int) == 0) = false := by simp; omega
              have d3 : decide ((x : Int) < 48) = false := by simp; omega
              have d4 : decide (57 < (x : Int)) = false := by simp; omega
              clear x1 x2 k0 x3 x4
              generalize (x : Int) = X at *
              go_wp2_with fail
              go_roundw
              case rel => exact ⟨k + 1, by go_num, by omega, HE.out, trivial⟩
              case measure => simp [RowKit.intOf]; omega
    · by_cases k0 : k = 0
      · have hp : pOk k x = false := by unfold pOk smB diB; simp; omega
        have he := pln_bad hx hp
        rw [HP.out] at he
        have HE := Lib.hid he
        clear hp hj hx hx256 he
        have d0 : decide (97 ≤ (x : Int)) = false := by simp; omega
        have d1 : ((k : Int) == 0) = true := by simp; omega
        clear x1 k0
        generalize (x : Int) = X at *
        go_wp2_with fail
        go_ret
        exact ⟨by rw [HE.out]; rfl, rfl⟩
      · by_cases x3 : x < 48
        · have hp : pOk k x = false := by unfold pOk smB diB; simp; omega
          have he := pln_bad hx hp
          rw [HP.out] at he
          have HE := Lib.hid he
          clear hp hj hx hx256 he
          have d0 : decide (97 ≤ (x : Int)) = false := by simp; omega
          have d1 : ((k : Int) == 0) = false := by simp; omega
          have d2 : decide ((x : Int) < 48) = true := by simp; omega
          clear x1 k0 x3
          generalize (x : Int) = X at *
          go_wp2_with fail
          go_ret
          exact ⟨by rw [HE.out]; rfl, rfl⟩
        · by_cases x4 : 57 < x
          · have hp : pOk k x = false := by unfold pOk smB diB; simp; omega
            have he := pln_bad hx hp
            rw [HP.out] at he
            have HE := Lib.hid he
            clear hp hj hx hx256 he
            have d0 : decide (97 ≤ (x : Int)) = false := by simp; omega
            have d1 : ((k : Int) == 0) = false := by simp; omega
            have d2 : decide ((x : Int) < 48) = false := by simp; omega
            have d3 : decide (57 < (x : Int)) = true := by simp; omega
            clear x1 k0 x3 x4
            generalize (x : Int) = X at *
            go_wp2_with fail
            go_ret
            exact ⟨by rw [HE.out]; rfl, rfl⟩
          · have hp : pOk k x = true := by unfold pOk smB diB; simp; omega
            have HE := Lib.hid (okTo_snoc hx hp hj)
            clear hp hj hx hx256
            have d0 : decide (97 ≤ (x : Int)) = false := by simp; omega
            have d1 : ((k : Int) == 0) = false := by simp; omega
            have d2 : decide ((x : Int) < 48) = false := by simp; omega
            have d3 : decide (57 < (x : Int)) = false := by simp; omega
            clear x1 k0 x3 x4
            generalize (x : Int) = X at *
            go_wp2_with fail
            go_roundw
            case rel => exact ⟨k + 1, by go_num, by omega, HE.out, trivial⟩
            case measure => simp [RowKit.intOf]; omega
end Go.Proofs.Ytplnkmojkdbbnaa
