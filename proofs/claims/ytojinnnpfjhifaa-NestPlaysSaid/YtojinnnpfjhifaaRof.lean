/-
  Contract: virguleref21.Of.
-/
import Derived.Test.YtojinnnpfjhifaaLst
namespace Go.Proofs.Ytojinnnpfjhifaa
open Go.RowKit Go.Shelf Go.Lib Go.Maps
attribute [local irreducible] nmL ofN

theorem pow_cases {k : Nat} (hk : k ≤ 7) : 1 ≤ 2 ^ k ∧ (2 ^ k ≤ 64 ↔ k < 7) ∧ (2 ^ k < 128 ↔ k < 7) ∧ 2 ^ (k + 1) = 2 * 2 ^ k ∧ 2 ^ k ≤ 128 := by
  obtain rfl | rfl | rfl | rfl | rfl | rfl | rfl | rfl : k = 0 ∨ k = 1 ∨ k = 2 ∨ k = 3 ∨ k = 4 ∨ k = 5 ∨ k = 6 ∨ k = 7 := by omega
  all_goals decide
theorem strs_at {l : List (List UInt8)} {i : Nat} {x : List UInt8} (h : l[i]? = some x) : (strs l)[i]? = some (.string ⟨x.toArray⟩) := by
  unfold strs
  simp [h]
theorem ofN_succ (n : List UInt8) (j : Nat) : ofN n (j + 1) = ofN n j + (if n ∈ nmL j then 2 ^ j else 0) := by with_unfolding_all rfl
theorem ofN_zero (n : List UInt8) : ofN n 0 = 0 := by with_unfolding_all rfl
theorem nmL_small (j : Nat) (hj : j < 7) : (nmL j).length ≤ 100 := by
  obtain rfl | rfl | rfl | rfl | rfl | rfl | rfl : j = 0 ∨ j = 1 ∨ j = 2 ∨ j = 3 ∨ j = 4 ∨ j = 5 ∨ j = 6 := by omega
  all_goals with_unfolding_all decide +kernel
theorem toList_data (s : ByteArray) : s.toList = s.data.toList := by
  obtain ⟨⟨l⟩⟩ := s
  simp
set_option maxRecDepth 100000 in
set_option maxHeartbeats 8000000 in
theorem refOf_any (s : ByteArray) (w : World) : Calls Try.prog 19 #[.string s] w fun e w' => e = .returned (.int .i64 ((ofN s.data.toList 7 : Nat) : Int)) ∧ Below w.heap.size w w' := by
  obtain ⟨n, hn⟩ : ∃ n, s.data.toList = n := ⟨_, rfl⟩
  rw [hn]
  have HS := Lib.hid hn
  clear hn
  go_enter Try.func19, Try.ntmps19
  go_wp2_with fail
  go_loopw [3, 4] (fun o b wr => ∃ k : Nat, k ≤ 7 ∧ o = .int .i64 ((ofN n k : Nat) : Int) ∧ b = .int .i64 ((2 ^ k : Nat) : Int) ∧ Below w.heap.size w wr) (fun _ b _ => 128 - (RowKit.intOf b).toNat)
  case atStart => exact ⟨0, by omega, by rw [ofN_zero]; rfl, rfl, Below.refl _ _⟩
  case round =>
    obtain ⟨k, hk, rfl, rfl, hb⟩ := hrel
    have hp := pow_cases hk
    have CL := List_any k
    have hs := ofN_succ n k
    have hlt : ofN n k < 2 ^ k := ofN_lt n k
    obtain ⟨b, hbb⟩ : ∃ b, 2 ^ k = b := ⟨_, rfl⟩
    obtain ⟨O, hO⟩ : ∃ o, ofN n k = o := ⟨_, rfl⟩
    rw [hbb] at hp CL hs hlt ⊢
    rw [hO] at hs hlt ⊢
    by_cases lt : k < 7
    case neg =>
      have hk7 : k = 7 := by omega
      have i1 : ¬ (b : Int) ≤ 64 := by omega
      subst hk7
      have HE := Lib.hid (And.intro hO hb)
      clear hp CL hs hlt hbb hO hb
      go_wp2_with fail
      go_ret
      exact ⟨by rw [HE.out.1]; rfl, HE.out.2⟩
    case pos =>
      have i1 : (b : Int) ≤ 64 := by omega
      have hsm := nmL_small k lt
      obtain ⟨L, hL⟩ : ∃ l, nmL k = l := ⟨_, rfl⟩
      have hnd : L.Nodup := by rw [← hL]; exact nm_nodup k
      rw [hL] at CL hs hsm
      obtain ⟨m, hm⟩ : ∃ m, L.length = m := ⟨_, rfl⟩
      rw [hm] at CL hsm
      have HK := Lib.hid (And.intro hb (And.intro hs (And.intro hnd (And.intro hm hp))))
      clear hs hO hL hnd hm hb hbb
      go_wp2_with fail
      refine (CL lt wr).mono ?_
      rintro e w1 ⟨rfl, hc, hb1⟩
      have HC := Lib.hid (And.intro hc (And.intro hb1 (HK.out.1.trans (hb1.mono HK.out.1.size))))
      have hb128 : b ≤ 64 := by omega
      have hO64 : O < 64 := by omega
      clear hc hb1 CL hp
      go_wp2_with fail
      go_loopw [3, 6] (fun o j wr' => ∃ i : Nat, i ≤ m ∧ o = .int .i64 (((O + (if n ∈ L.take i then b else 0)) : Nat) : Int) ∧ j = .int .i64 (i : Int) ∧ Below w1.heap.size w1 wr') (fun _ j _ => m - (RowKit.intOf j).toNat)
      case atStart => exact ⟨0, by omega, by simp, rfl, Below.refl _ _⟩
      case round =>
        obtain ⟨i, hi, rfl, rfl, hb2⟩ := hrel
        by_cases lti : i < m
        case neg =>
          have i2 : ¬ (i : Int) < (m : Int) := by omega
          rw [List.take_of_length_le (by have := HK.out.2.2.2.1; omega)]
          rw [← HK.out.2.1]
          have hpw := HK.out.2.2.2.2
          have HE := Lib.hid (HC.out.2.2.trans (hb2.mono HC.out.2.2.size))
          clear hb2
          have HP := Lib.hid hpw
          clear hpw
          go_wp2_with fail
          go_roundw
          case rel => exact ⟨k + 1, by omega, rfl, by rw [Nat.pow_succ]; have := HP.out.2.2.2.1; rw [Nat.pow_succ] at this; go_num, HE.out⟩
          case measure => simp [RowKit.intOf]; omega
        case pos =>
          have i2 : (i : Int) < (m : Int) := by omega
          obtain ⟨x, hx⟩ : ∃ x, L[i]? = some x := ⟨_, List.getElem?_eq_getElem (by rw [HK.out.2.2.2.1]; exact lti)⟩
          have xc := ((HC.out.1.on hb2).cell i).trans (strs_at hx)
          have ht : L.take (i + 1) = L.take i ++ [x] := by rw [List.take_add_one, hx]; rfl
          have hni : x ∉ L.take i := fun hm => by
            have hnd := HK.out.2.2.1
            have h2 : (L.take (i + 1)).Nodup := hnd.sublist (List.take_sublist _ _)
            rw [ht, List.nodup_append] at h2
            exact h2.2.2 x hm x (by simp) rfl
          obtain ⟨X, hX⟩ : ∃ Z : ByteArray, ⟨x.toArray⟩ = Z := ⟨_, rfl⟩
          rw [hX] at xc
          by_cases e : x = n
          case pos =>
            have hXs : X = s := by
              rw [← hX, e, ← HS.out]
            have h1 : (if n ∈ L.take i then b else 0) = 0 := if_neg (by rw [← e]; exact hni)
            have h2 : (if n ∈ L.take (i + 1) then b else 0) = b := if_pos (by rw [ht, e]; simp)
            rw [h1]
            have HR := Lib.hid (And.intro h2 hb2)
            subst hXs
            clear h1 h2 hX hni ht hx hb2 e
            go_wp2_with fail
            exact ⟨⟨i + 1, by omega, by rw [HR.out.1]; go_num, by go_num, HR.out.2⟩, by simp [RowKit.intOf]; omega⟩
          case neg =>
            have hXs : (X.toList == s.toList) = false := by
              rw [beq_eq_false_iff_ne]
              intro h
              apply e
              rw [← HS.out, ← toList_data, ← h, ← hX, toList_data]
            have h2 : (if n ∈ L.take (i + 1) then b else 0) = (if n ∈ L.take i then b else 0) := by
              rw [ht]
              simp [Ne.symm e]
            obtain ⟨Q, hQ⟩ : ∃ q, (if n ∈ L.take i then b else 0) = q := ⟨_, rfl⟩
            rw [hQ] at h2 ⊢
            have HR := Lib.hid (And.intro h2 hb2)
            clear h2 hX hni ht hx hb2 e hQ
            go_wp2_with fail
            exact ⟨⟨i + 1, by omega, by rw [HR.out.1], by go_num, HR.out.2⟩, by simp [RowKit.intOf]; omega⟩
end Go.Proofs.Ytojinnnpfjhifaa
