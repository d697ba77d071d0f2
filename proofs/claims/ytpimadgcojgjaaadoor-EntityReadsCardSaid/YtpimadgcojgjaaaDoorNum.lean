/-
  Contract: ansi.number.
-/
import Derived.Test.YtpimadgcojgjaaaDoorByt
namespace Go.Proofs.YtpimadgcojgjaaaDoor
open Go.RowKit Go.Shelf Go.Lib Go.Maps

theorem numV_snoc (l : List Nat) (x : Nat) : ∀ cur, numV cur (l ++ [x]) = 10 * numV cur l + (x - 48) := by
  induction l with
  | nil => intro cur; rfl
  | cons c l ih => intro cur; exact ih _
theorem numV_lt (l : List Nat) : ∀ cur P : Nat, l.all dig = true → 10 ^ l.length = P → numV cur l + 1 ≤ (cur + 1) * P := by
  induction l with
  | nil =>
    intro cur P _ hP
    have : P = 1 := by rw [← hP]; rfl
    subst this
    show cur + 1 ≤ (cur + 1) * 1
    omega
  | cons c l ih =>
    intro cur P h hP
    rw [List.all_cons, Bool.and_eq_true] at h
    have hc : 48 ≤ c ∧ c ≤ 57 := by simpa [dig, inR] using h.1
    obtain ⟨Q, hQ⟩ : ∃ Q, 10 ^ l.length = Q := ⟨_, rfl⟩
    have hp : P = 10 * Q := by rw [← hP, List.length_cons, Nat.pow_succ, hQ, Nat.mul_comm]
    have h1 := ih (10 * cur + (c - 48)) Q h.2 hQ
    have h2 : (10 * cur + (c - 48) + 1) * Q ≤ (10 * (cur + 1)) * Q := Nat.mul_le_mul_right _ (by omega)
    have h3 : (cur + 1) * P = (10 * (cur + 1)) * Q := by rw [hp, ← Nat.mul_assoc, Nat.mul_comm (cur + 1) 10]
    rw [h3]
    exact Nat.le_trans h1 h2
theorem numV_small {l : List Nat} (h : l.all dig = true) (h5 : l.length ≤ 5) : numV 0 l ≤ 99999 := by
  have h1 := numV_lt l 0 _ h rfl
  have h2 : 10 ^ l.length ≤ 10 ^ 5 := Nat.pow_le_pow_right (by decide) h5
  omega
def numE (o : Option Nat) : Value := .tuple #[.int .i64 ((o.getD 0 : Nat) : Int), .bool o.isSome]
theorem numT_bad {l : List Nat} {x : Nat} (hx : x ∈ l) (hd : dig x = false) : numT l = none := by
  unfold numT
  rw [if_neg]
  rintro ⟨_, h⟩
  have := List.all_eq_true.1 h x hx
  rw [hd] at this
  cases this
set_option maxHeartbeats 4000000 in
set_option maxRecDepth 100000 in
theorem number_any (xs : List Nat) (A : Option Addr) (cap : Nat) (w : World) (h : BY w w.heap.size xs A cap) :
    Calls Tryd.prog 47 #[.slice A xs.length cap] w fun r w' => r = .returned (numE (numT xs)) ∧ w' = w := by
  have hlen := h.len
  obtain ⟨R, hR⟩ : ∃ R, numT xs = R := ⟨_, rfl⟩
  obtain ⟨N, hN⟩ : ∃ N, xs.length = N := ⟨_, rfl⟩
  rw [hR, hN]
  rw [hN] at hlen
  by_cases h5 : 5 < N
  · have i5 : (5 : Int) < (N : Int) := by omega
    have : R = none := by rw [← hR, numT, if_neg (by omega)]
    subst this
    clear h hR hN
    go_enter Tryd.func47, Tryd.ntmps47
    go_wp2_with fail
    refine bodyPost_ret (v := .tuple #[.int .i64 0, .bool false]) (by simp [results, Tryd.results47, go_sem]) rfl ?_
    exact ⟨rfl, rfl⟩
  have i5 : ¬ (5 : Int) < (N : Int) := by omega
  have HH := Lib.hid (And.intro h (And.intro hR hN))
  have H5 := Lib.hid h5
  clear h hR hN h5
  go_enter Tryd.func47, Tryd.ntmps47
  go_wp2_with fail
  go_loopw [4, 6, 12] (fun n _ i wr => ∃ j m : Nat, n = .int .i64 (m : Int) ∧ i = .int .i64 (j : Int) ∧ j ≤ N ∧ m = numV 0 (xs.take j) ∧ (xs.take j).all dig = true ∧ wr = w) (fun _ _ i _ => N - (RowKit.intOf i).toNat)
  case atStart => exact ⟨0, 0, by go_num, by go_num, by omega, rfl, rfl, rfl⟩
  case round =>
    obtain ⟨j, m, rfl, rfl, hj, hm, ha, e⟩ := hrel
    obtain rfl := e.symm
    have hm9 : m ≤ 99999 := by
      rw [hm]
      refine numV_small ha ?_
      have := H5.out
      rw [List.length_take, HH.out.2.2]
      omega
    have im9 : (m : Int) ≤ 99999 := by omega
    by_cases hlt : j < N
    case neg =>
      obtain rfl : j = N := by omega
      have i1 : ¬ (j : Int) < (j : Int) := by omega
      have : R = some m := by
        have h5 := H5.out
        rw [← HH.out.2.1, numT]
        rw [← HH.out.2.2, List.take_length] at hm ha
        rw [if_pos ⟨by rw [HH.out.2.2]; omega, ha⟩, hm]
      subst this
      clear hm ha
      go_wp2_with fail
      refine bodyPost_ret (v := .tuple #[.int .i64 (m : Int), .bool true]) (by simp [results, Tryd.results47, go_sem]) rfl ?_
      exact ⟨rfl, rfl⟩
    have i1 : (j : Int) < (N : Int) := by omega
    obtain ⟨x, hx⟩ := at_lt (l := xs) (k := j) (by rw [HH.out.2.2]; exact hlt)
    obtain ⟨b, o, rfl, hbl, d0⟩ := HH.out.1.at hx
    obtain ⟨X, hX⟩ : ∃ X : Int, (x : Int) = X := ⟨_, rfl⟩
    rw [hX] at d0
    by_cases hd : 48 ≤ x ∧ x ≤ 57
    · have d1 : decide (X < 48) = false := by simp; omega
      have d2 : decide (57 < X) = false := by simp; omega
      have i2 : 48 ≤ X := by omega
      have i3 : X ≤ 57 := by omega
      have ht : xs.take (j + 1) = xs.take j ++ [x] := by rw [List.take_add_one, hx]; rfl
      have hn : 10 * m + (x - 48) = numV 0 (xs.take (j + 1)) := by rw [ht, numV_snoc, ← hm]
      have hna : (xs.take (j + 1)).all dig = true := by rw [ht, List.all_append, ha]; simp [dig, inR, hd]
      have hq : 10 * (m : Int) + (X - 48) = ((10 * m + (x - 48) : Nat) : Int) := by omega
      obtain ⟨Q, hQ⟩ : ∃ Q : Nat, 10 * m + (x - 48) = Q := ⟨_, rfl⟩
      rw [hQ] at hq hn
      have HK := Lib.hid (And.intro hn hna)
      clear hn hna ht hQ hX hd hm ha hx
      go_wp2_with fail
      go_roundw
      case rel => exact ⟨j + 1, Q, by go_num, by go_num, by omega, HK.out.1, HK.out.2, trivial⟩
      case measure => simp [RowKit.intOf]; omega
    · have : R = none := by
        rw [← HH.out.2.1]
        exact numT_bad (List.mem_of_getElem? hx) (by simp [dig, inR]; omega)
      subst this
      by_cases hlo : x < 48
      · have d1 : decide (X < 48) = true := by simp; omega
        clear hX hd hm ha hx hlo
        go_wp2_with fail
        refine bodyPost_ret (v := .tuple #[.int .i64 0, .bool false]) (by simp [results, Tryd.results47, go_sem]) rfl ?_
        exact ⟨rfl, rfl⟩
      · have d1 : decide (X < 48) = false := by simp; omega
        have d2 : decide (57 < X) = true := by simp; omega
        clear hX hd hm ha hx hlo
        go_wp2_with fail
        refine bodyPost_ret (v := .tuple #[.int .i64 0, .bool false]) (by simp [results, Tryd.results47, go_sem]) rfl ?_
        exact ⟨rfl, rfl⟩
end Go.Proofs.YtpimadgcojgjaaaDoor
