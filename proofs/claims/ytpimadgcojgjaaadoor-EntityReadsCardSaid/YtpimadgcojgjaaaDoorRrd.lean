/-
  Contract: the document's Read of escapes.
-/
import Derived.Test.YtpimadgcojgjaaaDoorAnc
namespace Go.Proofs.YtpimadgcojgjaaaDoor
open Go.RowKit Go.Shelf Go.Lib Go.Maps

theorem inR_yes {lo hi c : Nat} (h1 : lo ≤ c) (h2 : c ≤ hi) : inR lo hi c = true := by simp [inR, h1, h2]
theorem inR_no {lo hi c : Nat} (h : c < lo ∨ hi < c) : inR lo hi c = false := by simp [inR]; omega
theorem rr_nil (st n : Nat) : refR st n [] = ⟨n, false, true, 0⟩ := by rw [refR]
theorem rr0_91 (n : Nat) (r : List Nat) : refR 0 n (91 :: r) = refR 1 (n + 1) r := by rw [refR, if_pos rfl, if_pos rfl]
theorem rr0_mid {n c : Nat} {r : List Nat} (h : c ≠ 91) (h1 : 64 ≤ c) (h2 : c ≤ 95) : refR 0 n (c :: r) = ⟨2, true, false, c⟩ := by rw [refR, if_pos rfl, if_neg h, if_pos (inR_yes h1 h2)]
theorem rr0_no {n c : Nat} {r : List Nat} (h1 : c < 64 ∨ 95 < c) : refR 0 n (c :: r) = ⟨1, false, false, 0⟩ := by rw [refR, if_pos rfl, if_neg (by omega), if_neg (by simp [inR_no h1])]
theorem rr1_par {n c : Nat} {r : List Nat} (h1 : 48 ≤ c) (h2 : c ≤ 63) : refR 1 n (c :: r) = refR 1 (n + 1) r := by rw [refR, if_neg (by decide), if_pos ⟨rfl, inR_yes h1 h2⟩]
theorem rrS_int {st n c : Nat} {r : List Nat} (hs : st ≠ 0) (h1 : 32 ≤ c) (h2 : c ≤ 47) : refR st n (c :: r) = refR 2 (n + 1) r := by
  rw [refR, if_neg hs, if_neg (by simp [inR_no (show c < 48 ∨ 63 < c by omega)]), if_pos (inR_yes h1 h2)]
theorem rrS_fin {st n c : Nat} {r : List Nat} (hs : st ≠ 0) (h1 : 64 ≤ c) (h2 : c ≤ 126) : refR st n (c :: r) = ⟨n + 1, true, false, c⟩ := by
  rw [refR, if_neg hs, if_neg (by simp [inR_no (show c < 48 ∨ 63 < c by omega)]), if_neg (by simp [inR_no (show c < 32 ∨ 47 < c by omega)]), if_pos (inR_yes h1 h2)]
theorem rrS_no {st n c : Nat} {r : List Nat} (hs : st ≠ 0) (h : c < 32 ∨ 126 < c ∨ (st = 2 ∧ 48 ≤ c ∧ c ≤ 63)) : refR st n (c :: r) = ⟨n, false, false, 0⟩ := by
  have a : ¬ (st = 1 ∧ inR 48 63 c = true) := by
    rintro ⟨h1, h2⟩
    simp [inR] at h2
    omega
  rw [refR, if_neg hs, if_neg a, if_neg (by simp [inR_no (show c < 32 ∨ 47 < c by omega)]), if_neg (by simp [inR_no (show c < 64 ∨ 126 < c by omega)])]
set_option maxHeartbeats 8000000 in
set_option maxRecDepth 100000 in
/-- The document's Read. -/
theorem refRead_any (xs : List Nat) (A : Option Addr) (cap : Nat) (I : Int) (w : World) (h : BY w w.heap.size xs A cap) :
    Calls Tryd.prog 26 #[.slice A xs.length cap, .int .i64 I] w fun r w' => r = .returned (escV (readAt xs I)) ∧ Below w.heap.size w w' := by
  have hlen := h.len
  obtain ⟨N, hN⟩ : ∃ N, xs.length = N := ⟨_, rfl⟩
  rw [hN] at hlen ⊢
  by_cases h0 : I < 0
  · have d0 : decide (I < 0) = true := by simpa using h0
    rw [show readAt xs I = escNone by rw [readAt, if_pos h0]]
    clear h hN
    go_enter Tryd.func26, Tryd.ntmps26
    go_wp2_with fail
    refine bodyPost_ret (v := .agg #[.int .i64 0, .bool false, .bool false, .int .u8 0]) (by simp [results, Tryd.results26, go_sem]) rfl ⟨rfl, below_new w _⟩
  have d0 : decide (I < 0) = false := by simpa using h0
  obtain ⟨k, rfl⟩ := Int.eq_ofNat_of_zero_le (show 0 ≤ I by omega)
  rw [show readAt xs (k : Int) = readT (xs.drop k) by rw [readAt, if_neg h0, Int.toNat_natCast]]
  clear h0
  by_cases hlt : k < N
  case neg =>
    have d1 : decide ((N : Int) ≤ (k : Int)) = true := by simp; omega
    rw [List.drop_of_length_le (by omega)]
    clear h hN
    go_enter Tryd.func26, Tryd.ntmps26
    go_wp2_with fail
    refine bodyPost_ret (v := .agg #[.int .i64 0, .bool false, .bool false, .int .u8 0]) (by simp [results, Tryd.results26, go_sem]) rfl ⟨rfl, below_new w _⟩
  have d1 : decide ((N : Int) ≤ (k : Int)) = false := by simp; omega
  obtain ⟨x, hx⟩ := at_lt (l := xs) (k := k) (by rw [hN]; exact hlt)
  obtain ⟨b, o, rfl, hbl, e0⟩ := h.at hx
  have hcap := h.l
  have hmx := h.m
  unfold maxLen at hmx
  rw [hN] at hcap
  by_cases hc : x = 27
  case neg =>
    have d2 : ((x : Int) != 27) = true := by rw [bne_iff_ne]; omega
    rw [drop_at hx, readT_not _ hc]
    clear h hN hx hc
    generalize (x : Int) = X at *
    go_enter Tryd.func26, Tryd.ntmps26
    go_wp2_with fail
    refine bodyPost_ret (v := .agg #[.int .i64 0, .bool false, .bool false, .int .u8 0]) (by simp [results, Tryd.results26, go_sem]) rfl ⟨rfl, below_new w _⟩
  subst hc
  have e0 : w.cell? ⟨b, o + k, none⟩ = some (.int .u8 27) := e0
  obtain ⟨R, hR⟩ : ∃ R, readT (xs.drop k) = R := ⟨_, rfl⟩
  rw [hR]
  rw [drop_at hx, ← ref_read] at hR
  have HH := Lib.hid (And.intro hR (And.intro h hN))
  clear hR h hN hx
  go_enter Tryd.func26, Tryd.ntmps26
  go_wp2_with fail
  go_loopw [5, 6, 7, 8] (fun s i _ _ wr => ∃ st j m : Nat, s = .int .i64 (st : Int) ∧ i = .int .i64 (j : Int) ∧ j = k + m ∧ j ≤ N ∧ 1 ≤ m ∧ st ≤ 2 ∧ refR st m (xs.drop j) = R ∧ wr = w.alloc (.cells #[.int .i64 0, .bool false, .bool false, .int .u8 0] 44)) (fun _ i _ _ _ => N - (RowKit.intOf i).toNat)
  case atStart => exact ⟨0, k + 1, 1, rfl, by go_num, rfl, by omega, by omega, by omega, HH.out.1, rfl⟩
  case round =>
    obtain ⟨st, j, m, rfl, rfl, hjm, hj, hm, hst, hke, rfl⟩ := hrel
    have hsub : (j : Int) - (k : Int) = (m : Int) := by omega
    by_cases hlt2 : j < N
    case neg =>
      obtain rfl : j = N := by omega
      have i1 : ¬ (j : Int) < (j : Int) := by omega
      have hn : R = ⟨m, false, true, 0⟩ := by rw [← hke, ← HH.out.2.2, List.drop_length, rr_nil]
      subst hn
      clear hke hjm
      go_wp2_with fail
      refine bodyPost_ret (v := .agg #[.int .i64 (m : Int), .bool false, .bool true, .int .u8 0]) (by simp [results, Tryd.results26, go_sem]) rfl ⟨rfl, below_new w _⟩
    have i1 : (j : Int) < (N : Int) := by omega
    obtain ⟨c, hc⟩ := at_lt (l := xs) (k := j) (by rw [HH.out.2.2]; exact hlt2)
    obtain ⟨b', o', e, _, e1⟩ := HH.out.2.1.at hc
    obtain ⟨rfl, rfl⟩ : b = b' ∧ o = o' := by simpa using e
    rw [drop_at hc] at hke
    have hnx : j + 1 = k + (m + 1) := by omega
    obtain ⟨C, hC⟩ : ∃ C : Int, (c : Int) = C := ⟨_, rfl⟩
    rw [hC] at e1
    clear hc e
    rcases (show st = 0 ∨ st = 1 ∨ st = 2 by omega) with rfl | rfl | rfl
    · by_cases h91 : c = 91
      · subst h91
        have c1 : (C == 91) = true := by rw [beq_iff_eq]; omega
        rw [rr0_91] at hke
        have HK := Lib.hid hke
        have HC := Lib.hid hC
        have HS := Lib.hid (And.intro hnx hjm)
        clear hke hC hnx hjm 
        go_wp2_with fail
        go_roundw
        case rel => exact ⟨1, j + 1, m + 1, rfl, by go_num, HS.out.1, by omega, by omega, by omega, HK.out, trivial⟩
        case measure => simp [RowKit.intOf]; omega
      · by_cases hm2 : 64 ≤ c ∧ c ≤ 95
        · obtain ⟨ha, hb⟩ := hm2
          have c1 : (C == 91) = false := by rw [beq_eq_false_iff_ne]; omega
          have c2 : (decide (64 ≤ C)) = true := by simp; omega
          have c3 : (decide (C ≤ 95)) = true := by simp; omega
          rw [rr0_mid h91 ha hb] at hke
          subst hke
          have HC := Lib.hid hC
          clear hC hnx hjm h91 ha hb
          go_wp2_with fail
          refine bodyPost_ret (v := .agg #[.int .i64 2, .bool true, .bool false, .int .u8 C]) (by simp [results, Tryd.results26, go_sem]) rfl ⟨by rw [← HC.out]; rfl, below_new w _⟩
        · by_cases hlo : c < 64
          · have c1 : (C == 91) = false := by rw [beq_eq_false_iff_ne]; omega
            have c2 : (decide (64 ≤ C)) = false := by simp; omega
            rw [rr0_no (.inl hlo)] at hke
            subst hke
            have HC := Lib.hid hC
            clear hC hnx hjm h91 hm2 hlo
            go_wp2_with fail
            refine bodyPost_ret (v := .agg #[.int .i64 1, .bool false, .bool false, .int .u8 0]) (by simp [results, Tryd.results26, go_sem]) rfl ⟨rfl, below_new w _⟩
          · have c1 : (C == 91) = false := by rw [beq_eq_false_iff_ne]; omega
            have c2 : (decide (64 ≤ C)) = true := by simp; omega
            have c3 : (decide (C ≤ 95)) = false := by simp; omega
            rw [rr0_no (.inr (by omega))] at hke
            subst hke
            have HC := Lib.hid hC
            clear hC hnx hjm h91 hm2 hlo
            go_wp2_with fail
            refine bodyPost_ret (v := .agg #[.int .i64 1, .bool false, .bool false, .int .u8 0]) (by simp [results, Tryd.results26, go_sem]) rfl ⟨rfl, below_new w _⟩
    · rcases (show c < 32 ∨ (32 ≤ c ∧ c ≤ 47) ∨ (48 ≤ c ∧ c ≤ 63) ∨ (64 ≤ c ∧ c ≤ 126) ∨ 126 < c by omega) with h | h | h | h | h
      · have a48 : (decide (48 ≤ C)) = false := by simp; omega
        have b63 : (decide (C ≤ 63)) = true := by simp; omega
        have a32 : (decide (32 ≤ C)) = false := by simp; omega
        have b47 : (decide (C ≤ 47)) = true := by simp; omega
        have a64 : (decide (64 ≤ C)) = false := by simp; omega
        have b126 : (decide (C ≤ 126)) = true := by simp; omega
        rw [rrS_no (by decide) (.inl h)] at hke
        subst hke
        have HC := Lib.hid hC
        clear hC hnx hjm h
        go_wp2_with fail
        refine bodyPost_ret (v := .agg #[.int .i64 (m : Int), .bool false, .bool false, .int .u8 0]) (by simp [results, Tryd.results26, go_sem]) rfl ⟨rfl, below_new w _⟩
      · have a48 : (decide (48 ≤ C)) = false := by simp; omega
        have b63 : (decide (C ≤ 63)) = true := by simp; omega
        have a32 : (decide (32 ≤ C)) = true := by simp; omega
        have b47 : (decide (C ≤ 47)) = true := by simp; omega
        have a64 : (decide (64 ≤ C)) = false := by simp; omega
        have b126 : (decide (C ≤ 126)) = true := by simp; omega
        rw [rrS_int (by decide) h.1 h.2] at hke
        have HK := Lib.hid hke
        have HC := Lib.hid hC
        have HS := Lib.hid (And.intro hnx hjm)
        clear hke hC hnx hjm h
        go_wp2_with fail
        go_roundw
        case rel => exact ⟨2, j + 1, m + 1, rfl, by go_num, HS.out.1, by omega, by omega, by omega, HK.out, trivial⟩
        case measure => simp [RowKit.intOf]; omega
      · have a48 : (decide (48 ≤ C)) = true := by simp; omega
        have b63 : (decide (C ≤ 63)) = true := by simp; omega
        have a32 : (decide (32 ≤ C)) = true := by simp; omega
        have b47 : (decide (C ≤ 47)) = false := by simp; omega
        have a64 : (decide (64 ≤ C)) = false := by simp; omega
        have b126 : (decide (C ≤ 126)) = true := by simp; omega
        rw [rr1_par h.1 h.2] at hke
        have HK := Lib.hid hke
        have HC := Lib.hid hC
        have HS := Lib.hid (And.intro hnx hjm)
        clear hke hC hnx hjm h
        go_wp2_with fail
        go_roundw
        case rel => exact ⟨1, j + 1, m + 1, rfl, by go_num, HS.out.1, by omega, by omega, by omega, HK.out, trivial⟩
        case measure => simp [RowKit.intOf]; omega
      · have a48 : (decide (48 ≤ C)) = true := by simp; omega
        have b63 : (decide (C ≤ 63)) = false := by simp; omega
        have a32 : (decide (32 ≤ C)) = true := by simp; omega
        have b47 : (decide (C ≤ 47)) = false := by simp; omega
        have a64 : (decide (64 ≤ C)) = true := by simp; omega
        have b126 : (decide (C ≤ 126)) = true := by simp; omega
        rw [rrS_fin (by decide) h.1 h.2] at hke
        subst hke
        have HC := Lib.hid hC
        clear hC hnx hjm h
        go_wp2_with fail
        refine bodyPost_ret (v := .agg #[.int .i64 ((m : Int) + 1), .bool true, .bool false, .int .u8 C]) (by simp [results, Tryd.results26, go_sem]) rfl ⟨by rw [← HC.out]; rfl, below_new w _⟩
      · have a48 : (decide (48 ≤ C)) = true := by simp; omega
        have b63 : (decide (C ≤ 63)) = false := by simp; omega
        have a32 : (decide (32 ≤ C)) = true := by simp; omega
        have b47 : (decide (C ≤ 47)) = false := by simp; omega
        have a64 : (decide (64 ≤ C)) = true := by simp; omega
        have b126 : (decide (C ≤ 126)) = false := by simp; omega
        rw [rrS_no (by decide) (.inr (.inl h))] at hke
        subst hke
        have HC := Lib.hid hC
        clear hC hnx hjm h
        go_wp2_with fail
        refine bodyPost_ret (v := .agg #[.int .i64 (m : Int), .bool false, .bool false, .int .u8 0]) (by simp [results, Tryd.results26, go_sem]) rfl ⟨rfl, below_new w _⟩
    · rcases (show c < 32 ∨ (32 ≤ c ∧ c ≤ 47) ∨ (48 ≤ c ∧ c ≤ 63) ∨ (64 ≤ c ∧ c ≤ 126) ∨ 126 < c by omega) with h | h | h | h | h
      · have a48 : (decide (48 ≤ C)) = false := by simp; omega
        have b63 : (decide (C ≤ 63)) = true := by simp; omega
        have a32 : (decide (32 ≤ C)) = false := by simp; omega
        have b47 : (decide (C ≤ 47)) = true := by simp; omega
        have a64 : (decide (64 ≤ C)) = false := by simp; omega
        have b126 : (decide (C ≤ 126)) = true := by simp; omega
        rw [rrS_no (by decide) (.inl h)] at hke
        subst hke
        have HC := Lib.hid hC
        clear hC hnx hjm h
        go_wp2_with fail
        refine bodyPost_ret (v := .agg #[.int .i64 (m : Int), .bool false, .bool false, .int .u8 0]) (by simp [results, Tryd.results26, go_sem]) rfl ⟨rfl, below_new w _⟩
      · have a48 : (decide (48 ≤ C)) = false := by simp; omega
        have b63 : (decide (C ≤ 63)) = true := by simp; omega
        have a32 : (decide (32 ≤ C)) = true := by simp; omega
        have b47 : (decide (C ≤ 47)) = true := by simp; omega
        have a64 : (decide (64 ≤ C)) = false := by simp; omega
        have b126 : (decide (C ≤ 126)) = true := by simp; omega
        rw [rrS_int (by decide) h.1 h.2] at hke
        have HK := Lib.hid hke
        have HC := Lib.hid hC
        have HS := Lib.hid (And.intro hnx hjm)
        clear hke hC hnx hjm h
        go_wp2_with fail
        go_roundw
        case rel => exact ⟨2, j + 1, m + 1, rfl, by go_num, HS.out.1, by omega, by omega, by omega, HK.out, trivial⟩
        case measure => simp [RowKit.intOf]; omega
      · have a48 : (decide (48 ≤ C)) = true := by simp; omega
        have b63 : (decide (C ≤ 63)) = true := by simp; omega
        have a32 : (decide (32 ≤ C)) = true := by simp; omega
        have b47 : (decide (C ≤ 47)) = false := by simp; omega
        have a64 : (decide (64 ≤ C)) = false := by simp; omega
        have b126 : (decide (C ≤ 126)) = true := by simp; omega
        rw [rrS_no (by decide) (.inr (.inr ⟨rfl, h⟩))] at hke
        subst hke
        have HC := Lib.hid hC
        clear hC hnx hjm h
        go_wp2_with fail
        refine bodyPost_ret (v := .agg #[.int .i64 (m : Int), .bool false, .bool false, .int .u8 0]) (by simp [results, Tryd.results26, go_sem]) rfl ⟨rfl, below_new w _⟩
      · have a48 : (decide (48 ≤ C)) = true := by simp; omega
        have b63 : (decide (C ≤ 63)) = false := by simp; omega
        have a32 : (decide (32 ≤ C)) = true := by simp; omega
        have b47 : (decide (C ≤ 47)) = false := by simp; omega
        have a64 : (decide (64 ≤ C)) = true := by simp; omega
        have b126 : (decide (C ≤ 126)) = true := by simp; omega
        rw [rrS_fin (by decide) h.1 h.2] at hke
        subst hke
        have HC := Lib.hid hC
        clear hC hnx hjm h
        go_wp2_with fail
        refine bodyPost_ret (v := .agg #[.int .i64 ((m : Int) + 1), .bool true, .bool false, .int .u8 C]) (by simp [results, Tryd.results26, go_sem]) rfl ⟨by rw [← HC.out]; rfl, below_new w _⟩
      · have a48 : (decide (48 ≤ C)) = true := by simp; omega
        have b63 : (decide (C ≤ 63)) = false := by simp; omega
        have a32 : (decide (32 ≤ C)) = true := by simp; omega
        have b47 : (decide (C ≤ 47)) = false := by simp; omega
        have a64 : (decide (64 ≤ C)) = true := by simp; omega
        have b126 : (decide (C ≤ 126)) = false := by simp; omega
        rw [rrS_no (by decide) (.inr (.inl h))] at hke
        subst hke
        have HC := Lib.hid hC
        clear hC hnx hjm h
        go_wp2_with fail
        refine bodyPost_ret (v := .agg #[.int .i64 (m : Int), .bool false, .bool false, .int .u8 0]) (by simp [results, Tryd.results26, go_sem]) rfl ⟨rfl, below_new w _⟩
end Go.Proofs.YtpimadgcojgjaaaDoor
