/-
  Contracts, the document's side: virguleref16.digit, virguleref16.Number.
-/
import Derived.Test.YtpimadgcojgjaaaDoorDig
import Derived.Test.YtpimadgcojgjaaaDoorPut
namespace Go.Proofs.YtpimadgcojgjaaaDoor
open Go.RowKit Go.Shelf Go.Lib Go.Maps Go.Great

def hxL : List UInt8 := [48, 49, 50, 51, 52, 53, 54, 55, 56, 57, 97, 98, 99, 100, 101, 102, 65, 66, 67, 68, 69, 70]
def dgZ (c : Nat) : Int := if dgB 16 c then (dv c : Int) else -1
theorem dgZ_at : ∀ k, k < 22 → dgZ ((nats hxL).getD k 0) = if 15 < k then (k : Int) - 6 else (k : Int) := by decide +kernel
theorem dgZ_out : ∀ c, c < 256 → (∀ k, k < 22 → (nats hxL).getD k 0 ≠ c) → dgZ c = -1 := by decide +kernel
theorem dgZ_base : ∀ c, c < 256 → (dgB 10 c = (decide (0 ≤ dgZ c) && decide (dgZ c < 10))) ∧ (dgB 16 c = (decide (0 ≤ dgZ c) && decide (dgZ c < 16))) ∧ (0 ≤ dgZ c → dgZ c = (dv c : Int)) ∧ dgZ c ≤ 15 ∧ -1 ≤ dgZ c := by decide +kernel
set_option maxHeartbeats 4000000 in
set_option maxRecDepth 100000 in
theorem refDigit_any (c : Nat) (hc : c < 256) (w : World) : Calls Tryd.prog 55 #[.int .u8 (c : Int)] w fun e w' => e = .returned (.int .i64 (dgZ c)) ∧ w' = w := by
  obtain ⟨DZ, hDZ⟩ : ∃ v, dgZ c = v := ⟨_, rfl⟩
  rw [hDZ]
  have HD := Lib.hid (And.intro hDZ hc)
  clear hDZ hc
  go_enter Tryd.func55, Tryd.ntmps55
  go_wp2_with fail
  go_loopw [3] (fun i wr => ∃ k : Nat, i = .int .i64 (k : Int) ∧ k ≤ 22 ∧ (∀ j, j < k → (nats hxL).getD j 0 ≠ c) ∧ wr = w) (fun i _ => 22 - (RowKit.intOf i).toNat)
  case atStart => exact ⟨0, rfl, by decide, fun j hj => absurd hj (by omega), rfl⟩
  case round =>
    obtain ⟨k, rfl, hk, hj, rfl⟩ := hrel
    by_cases hlt : k < 22
    case neg =>
      obtain rfl : k = 22 := by omega
      have he : DZ = -1 := by rw [← HD.out.1]; exact dgZ_out c HD.out.2 hj
      have HE := Lib.hid he
      clear hj he
      go_wp2_with fail
      go_ret
      exact ⟨by rw [HE.out]; rfl, rfl⟩
    case pos =>
      have i1 : (k : Int) < 22 := by omega
      have hix := index_at hxL k hlt
      dsimp only [hxL] at hix
      obtain ⟨d, hd⟩ : ∃ d, (nats hxL).getD k 0 = d := ⟨_, rfl⟩
      have hd' := hd
      dsimp only [hxL] at hd'
      rw [hd'] at hix
      by_cases hcd : d = c
      case pos =>
        subst hcd
        have hz := dgZ_at k hlt
        rw [hd, HD.out.1] at hz
        by_cases h15 : 15 < k
        · rw [if_pos h15] at hz
          have h15' : (15 : Int) < (k : Int) := by omega
          have w1 : wrap64 ((k : Int) - 6) = (k : Int) - 6 := by unfold wrap64; omega
          have HZ := Lib.hid hz
          clear hz hj hd hd'
          go_wp2_with fail
          go_ret
          exact ⟨by rw [HZ.out]; first | rfl | (simp [w1]), rfl⟩
        · rw [if_neg h15] at hz
          have h15' : ¬ (15 : Int) < (k : Int) := by omega
          have HZ := Lib.hid hz
          clear hz hj hd hd'
          go_wp2_with fail
          go_ret
          exact ⟨by rw [HZ.out]; rfl, rfl⟩
      case neg =>
        have hc1 : ¬ (d : Int) = (c : Int) := by omega
        have hc2 : ((d : Int) == (c : Int)) = false := by simp; omega
        have hend : ∀ j, j < k + 1 → (nats hxL).getD j 0 ≠ c := fun j h => by
          by_cases e : j = k
          · subst e; rw [hd]; exact hcd
          · exact hj j (by omega)
        have HE := Lib.hid hend
        clear hend hj hd hd'
        go_wp2_with fail
        go_roundw
        case rel => exact ⟨k + 1, by go_num, by omega, HE.out, trivial⟩
        case measure => simp [RowKit.intOf]; omega
theorem wrap_id2 (x : Nat) (h : x ≤ 16 * 16777216) : wrap64 ((x : Nat) : Int) = ((x : Nat) : Int) := by unfold wrap64; omega
theorem wrap_add2 (x v : Nat) (d : Int) (hd : d = (v : Int)) (h : x + v ≤ 16 * 16777216 + 15) : wrap64 (((x : Nat) : Int) + d) = ((x + v : Nat) : Int) := by subst hd; unfold wrap64; omega
theorem mnR_num' {b : Nat} (hb : b = 10 ∨ b = 16) (l : List Nat) (h : ∀ x ∈ l, x < 256 ∧ dgB b x = true) (hm : l.length ≤ if b = 10 then 7 else 6) : nbV b l 0 < 16777216 := by
  have h1 := nbV_lt hb l 0 0 h (by rcases hb with rfl | rfl <;> decide)
  rcases hb with rfl | rfl
  · have h3 : 10 ^ (0 + l.length) ≤ 10 ^ 7 := Nat.pow_le_pow_right (by decide) (by simp at hm; omega)
    have h4 : (10 : Nat) ^ 7 = 10000000 := by decide
    omega
  · have h3 : 16 ^ (0 + l.length) ≤ 16 ^ 6 := Nat.pow_le_pow_right (by decide) (by simp at hm; omega)
    have h4 : (16 : Nat) ^ 6 = 16777216 := by decide
    omega
/-- What the document's side says of digits: their scalar, or -1. -/
def numZ (b most : Nat) (u : List Nat) : Int := if u = [] ∨ most < u.length then -1 else if u.all (dgB b) then mnR (nbV b u 0) else -1
theorem dgB_iff {b c : Nat} (hb : b = 10 ∨ b = 16) (hc : c < 256) : dgB b c = (decide (0 ≤ dgZ c) && decide (dgZ c < (b : Int))) := by
  rcases hb with rfl | rfl
  · exact (dgZ_base c hc).1
  · exact (dgZ_base c hc).2.1
theorem nbV_snoc (b : Nat) : ∀ (l : List Nat) (c n : Nat), nbV b (l ++ [c]) n = b * nbV b l n + dv c
  | [], c, n => rfl
  | a :: l, c, n => nbV_snoc b l c (b * n + dv a)
theorem numZ_bad {b most : Nat} {u : List Nat} {c : Nat} (hm : c ∈ u) (hc : dgB b c = false) : numZ b most u = -1 := by
  unfold numZ
  split
  · rfl
  · rw [if_neg]
    intro h
    rw [List.all_eq_true.1 h c hm] at hc
    cases hc
set_option maxHeartbeats 4000000 in
set_option maxRecDepth 100000 in
theorem refNumber_any {b most : Nat} (hb : b = 10 ∨ b = 16) (hmo : most ≤ if b = 10 then 7 else 6) (l : List UInt8) (hl : l.length ≤ 1000000) (w : World) : Calls Tryd.prog 38 #[.string ⟨l.toArray⟩, .int .i64 (b : Int), .int .i64 (most : Int)] w fun e w' => e = .returned (.int .i32 (numZ b most (nats l))) ∧ w' = w := by
  obtain ⟨NZ, hNZ⟩ : ∃ v, numZ b most (nats l) = v := ⟨_, rfl⟩
  rw [hNZ]
  obtain ⟨N, hN⟩ : ∃ n, l.length = n := ⟨_, rfl⟩
  have hnl : (nats l).length = N := by rw [nats, List.length_map, hN]
  have h256 : ∀ x ∈ nats l, x < 256 := fun x hx => by
    obtain ⟨y, _, rfl⟩ := List.mem_map.1 hx
    exact UInt8.toNat_lt y
  have HD := Lib.hid (And.intro hNZ (And.intro hnl (And.intro h256 (And.intro hb hmo))))
  clear hNZ hnl h256 hb hmo
  by_cases h0 : N = 0
  case pos =>
    have he : NZ = -1 := by
      rw [← HD.out.1, numZ, if_pos (Or.inl (List.eq_nil_of_length_eq_zero (by rw [HD.out.2.1]; exact h0)))]
    have HE := Lib.hid he
    subst h0
    clear he
    go_enter Tryd.func38, Tryd.ntmps38
    go_wp2_with fail
    go_ret
    exact ⟨by rw [HE.out]; rfl, rfl⟩
  case neg =>
  have h0z : ¬ (N : Int) = 0 := by omega
  have h0b : ((N : Int) == 0) = false := by simp; omega
  by_cases hbig : most < N
  case pos =>
    have he : NZ = -1 := by rw [← HD.out.1, numZ, if_pos (Or.inr (by rw [HD.out.2.1]; exact hbig))]
    have HE := Lib.hid he
    have hb2 : (most : Int) < (N : Int) := by omega
    clear he
    go_enter Tryd.func38, Tryd.ntmps38
    go_wp2_with fail
    go_ret
    exact ⟨by rw [HE.out]; rfl, rfl⟩
  case neg =>
  have hb2 : ¬ (most : Int) < (N : Int) := by omega
  go_enter Tryd.func38, Tryd.ntmps38
  go_wp2_with fail
  go_loopw [7, 8] (fun n i wr => ∃ k : Nat, i = .int .i64 (k : Int) ∧ k ≤ N ∧ n = .int .i64 (nbV b ((nats l).take k) 0 : Nat) ∧ (∀ x ∈ (nats l).take k, dgB b x = true) ∧ wr = w) (fun _ i _ => N - (RowKit.intOf i).toNat)
  case atStart => exact ⟨0, rfl, by omega, rfl, fun x hx => by simp at hx, rfl⟩
  case round =>
    obtain ⟨k, rfl, hk, rfl, hd, rfl⟩ := hrel
    have hbd : nbV b ((nats l).take k) 0 < 16777216 := mnR_num' HD.out.2.2.2.1 _ (fun x hx => ⟨HD.out.2.2.1 x (List.mem_of_mem_take hx), hd x hx⟩) (by
      have h1 := HD.out.2.1
      have h2 := HD.out.2.2.2.2
      have h3 : ((nats l).take k).length ≤ N := by rw [List.length_take]; omega
      omega)
    by_cases hlt : k < N
    case neg =>
      obtain rfl : k = N := by omega
      have htk : (nats l).take k = nats l := List.take_of_length_le (by rw [HD.out.2.1]; exact Nat.le_refl _)
      rw [htk] at hd hbd ⊢
      have hz : NZ = mnR (nbV b (nats l) 0) := by
        rw [← HD.out.1, numZ, if_neg, if_pos (List.all_eq_true.2 hd)]
        rw [HD.out.2.1]
        rintro (e | e)
        · have := HD.out.2.1
          rw [e] at this
          exact h0 this.symm
        · exact hbig e
      generalize nbV b (nats l) 0 = n at *
      by_cases hn : n = 0
      case pos =>
        subst hn
        have HZ := Lib.hid hz
        clear hz hd hbd
        go_wp2_with fail
        go_ret
        exact ⟨by rw [HZ.out]; rfl, rfl⟩
      case neg =>
        have hn1 : ¬ (n : Int) = 0 := by omega
        have hn2 : ((n : Int) == 0) = false := by simp; omega
        have hw : IntKind.i32.wrap (n : Int) = (n : Int) := IntWalk.i32_in _ ⟨by omega, by omega⟩
        have R := rr_any (n : Int) wr
        cases hv : Lib.validRune (n : Int) with
        | true =>
          rw [hv] at R
          have HZ := Lib.hid (show NZ = (n : Int) by rw [hz, mnR, if_neg hn, scR, if_pos hv])
          have HR := Lib.hid R
          clear hz hd hbd R hv
          go_wp2_with fail
          refine HR.out.mono ?_
          rintro e w1 ⟨rfl, rfl⟩
          go_wp2_with fail
          go_ret
          exact ⟨by rw [HZ.out]; rfl, rfl⟩
        | false =>
          rw [hv] at R
          have HZ := Lib.hid (show NZ = 65533 by rw [hz, mnR, if_neg hn, scR, if_neg (by rw [hv]; decide)])
          have HR := Lib.hid R
          clear hz hd hbd R hv
          go_wp2_with fail
          refine HR.out.mono ?_
          rintro e w1 ⟨rfl, rfl⟩
          go_wp2_with fail
          go_ret
          exact ⟨by rw [HZ.out]; rfl, rfl⟩
    case pos =>
      have i1 : (k : Int) < (N : Int) := by omega
      obtain ⟨c, hc⟩ := at_lt (l := nats l) (k := k) (by rw [HD.out.2.1]; exact hlt)
      have hix := index_at l k (by rw [hN]; exact hlt)
      rw [show (nats l).getD k 0 = c by simp [List.getD_eq_getElem?_getD, hc]] at hix
      have hc256 := HD.out.2.2.1 c (List.mem_of_getElem? hc)
      have C := refDigit_any c hc256 wr
      have hz5 := dgZ_base c hc256
      have hdb := dgB_iff HD.out.2.2.2.1 hc256
      obtain ⟨D, hD⟩ : ∃ d, dgZ c = d := ⟨_, rfl⟩
      rw [hD] at C hz5 hdb
      generalize hn : nbV b ((nats l).take k) 0 = n at *
      cases hq : dgB b c with
      | false =>
        have hbad := numZ_bad (most := most) (List.mem_of_getElem? hc) hq
        have HE := Lib.hid (show NZ = -1 by rw [← HD.out.1]; exact hbad)
        have HC := Lib.hid C
        rw [hq] at hdb
        by_cases hneg : D < 0
        · clear hd hbd hz5 hdb C hn hbad
          go_wp2_with fail
          refine HC.out.mono ?_
          rintro e w1 ⟨rfl, rfl⟩
          go_wp2_with fail
          go_ret
          exact ⟨by rw [HE.out]; rfl, rfl⟩
        · have hge : (b : Int) ≤ D := by
            have h1 : (decide (D < (b : Int))) = false := by
              have h2 : decide (0 ≤ D) = true := by simp; omega
              rw [h2, Bool.true_and] at hdb
              exact hdb.symm
            simp at h1
            omega
          clear hd hbd hz5 hdb C hn hbad
          go_wp2_with fail
          refine HC.out.mono ?_
          rintro e w1 ⟨rfl, rfl⟩
          go_wp2_with fail
          go_ret
          exact ⟨by rw [HE.out]; rfl, rfl⟩
      | true =>
        rw [hq] at hdb
        have hdd := hdb.symm
        simp only [Bool.and_eq_true, decide_eq_true_eq] at hdd
        have hDv := hz5.2.2.1 hdd.1
        have hdvl : dv c ≤ 15 := by omega
        have hb16 : b ≤ 16 := by rcases HD.out.2.2.2.1 with e | e <;> omega
        have hbn : b * n ≤ 16 * n := Nat.mul_le_mul_right _ hb16
        have hneg : ¬ D < 0 := by omega
        have hge : ¬ (b : Int) ≤ D := by omega
        have w1 : wrap64 ((b : Int) * (n : Int)) = ((b * n : Nat) : Int) := by
          rw [← Int.natCast_mul]
          exact wrap_id2 _ (Nat.le_trans hbn (Nat.mul_le_mul_left 16 (Nat.le_of_lt hbd)))
        have w2 : wrap64 (((b * n : Nat) : Int) + D) = ((b * n + dv c : Nat) : Int) := wrap_add2 _ _ _ hDv (Nat.add_le_add (Nat.le_trans hbn (Nat.mul_le_mul_left 16 (Nat.le_of_lt hbd))) hdvl)
        have hnx : nbV b ((nats l).take (k + 1)) 0 = b * n + dv c := by
          rw [List.take_add_one, hc, Option.toList_some, nbV_snoc, hn]
        have hdx : ∀ x ∈ (nats l).take (k + 1), dgB b x = true := fun x hx => by
          rw [List.take_add_one, hc, Option.toList_some] at hx
          rcases List.mem_append.1 hx with h | h
          · exact hd x h
          · rw [List.mem_singleton.1 h]; exact hq
        have HE := Lib.hid (And.intro hnx (And.intro hdx (And.intro w1 w2)))
        have HC := Lib.hid C
        generalize b * n = bn at *
        clear hd hbd hz5 hdb C hn hdd hDv hdvl hbn hnx hdx
        go_wp2_with fail
        refine HC.out.mono ?_
        rintro e w1 ⟨rfl, rfl⟩
        go_wp2_with fail
        go_roundw
        case rel => exact ⟨k + 1, by go_num, by omega, by rw [HE.out.1]; first | rfl | rw [HE.out.2.2.2], HE.out.2.1, trivial⟩
        case measure => simp [RowKit.intOf]; omega
end Go.Proofs.YtpimadgcojgjaaaDoor
