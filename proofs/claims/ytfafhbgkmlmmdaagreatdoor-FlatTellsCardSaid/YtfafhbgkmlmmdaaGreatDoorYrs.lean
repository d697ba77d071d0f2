/-
  What the rows of flat lean on, part s.
-/
import Derived.Test.YtfafhbgkmlmmdaaGreatDoorYqk
import Derived.Test.YtfafhbgkmlmmdaaGreatDoorYqg
import Derived.Test.YtfafhbgkmlmmdaaGreatDoorYrq
set_option maxRecDepth 100000
set_option maxHeartbeats 40000000
namespace Go.Proofs.YtfafhbgkmlmmdaaGreatDoor
open Go.RowKit Go.Shelf Go.Lib Go.Maps
theorem inR_yes {lo hi c : Nat} (h1 : lo ≤ c) (h2 : c ≤ hi) : inR lo hi c = true := by simp [inR, h1, h2]
theorem inR_no {lo hi c : Nat} (h : c < lo ∨ hi < c) : inR lo hi c = false := by simp [inR]; omega
theorem rr_nil (st n : Nat) : refR st n [] = ⟨n, false, true, 0⟩ := by rw [refR]
theorem rr0_91 (n : Nat) (r : List Nat) : refR 0 n (91 :: r) = refR 1 (n + 1) r := by rw [refR, if_pos rfl, if_pos rfl]
theorem rr0_mid {n c : Nat} {r : List Nat} (h : c ≠ 91) (h1 : 64 ≤ c) (h2 : c ≤ 95) : refR 0 n (c :: r) = ⟨2, true, false, c⟩ := by rw [refR, if_pos rfl, if_neg h, if_pos (inR_yes h1 h2)]
theorem rr0_no {n c : Nat} {r : List Nat} (h1 : c < 64 ∨ 95 < c) : refR 0 n (c :: r) = ⟨1, false, false, 0⟩ := by rw [refR, if_pos rfl, if_neg (by omega), if_neg (by simp [inR_no h1])]
theorem rr1_par {n c : Nat} {r : List Nat} (h1 : 48 ≤ c) (h2 : c ≤ 63) : refR 1 n (c :: r) = refR 1 (n + 1) r := by rw [refR, if_neg (by decide), if_pos ⟨rfl, inR_yes h1 h2⟩]
theorem rrS_int {st n c : Nat} {r : List Nat} (hs : st ≠ 0) (h1 : 32 ≤ c) (h2 : c ≤ 47) : refR st n (c :: r) = refR 2 (n + 1) r := by
 rw [refR, if_neg hs, if_neg (by simp [inR_no (show c < 48 ∨ 63 < c by omega)]), if_pos (inR_yes h1 h2)]
theorem rrS_fin {st n c : Nat} {r : List Nat} (hs : st ≠ 0) (h1 : 64 ≤ c) (h2 : c ≤ 126) : refR st n (c :: r) = ⟨n + 1, true, false, c⟩ := by
 rw [refR, if_neg hs, if_neg (by simp [inR_no (show c < 48 ∨ 63 < c by omega)]), if_neg (by simp [inR_no (show c < 32 ∨ 47 < c by omega)]), if_pos (inR_yes h1 h2)]
theorem rrS_no {st n c : Nat} {r : List Nat} (hs : st ≠ 0) (h : c < 32 ∨ 126 < c ∨ (st = 2 ∧ 48 ≤ c ∧ c ≤ 63)) : refR st n (c :: r) = ⟨n, false, false, 0⟩ := by
 have a : ¬ (st = 1 ∧ inR 48 63 c = true) := by
  rintro ⟨h1, h2⟩
  simp [inR] at h2
  omega
 rw [refR, if_neg hs, if_neg a, if_neg (by simp [inR_no (show c < 32 ∨ 47 < c by omega)]), if_neg (by simp [inR_no (show c < 64 ∨ 126 < c by omega)])]
theorem refRead_any (xs : List Nat) (A : Option Addr) (cap : Nat) (I : Int) (w : World) (h : BY w w.heap.size xs A cap) :
  Calls Tryz.prog 45 #[.slice A xs.length cap, .int .i64 I] w fun r w' => r = .returned (escV (readAt xs I)) ∧ Below w.heap.size w w' := by
 have hlen := h.len
 obtain ⟨N, hN⟩ : ∃ N, xs.length = N := ⟨_, rfl⟩
 rw [hN] at hlen ⊢
 by_cases h0 : I < 0
 ·have d0 : decide (I < 0) = true := by simpa using h0
  rw [show readAt xs I = escNone by rw [readAt, if_pos h0]]
  clear h hN
  go_enter Tryz.func45, Tryz.ntmps45
  go_wp2_with fail
  refine bodyPost_ret (v := .agg #[.int .i64 0, .bool false, .bool false, .int .u8 0]) (by simp [results, Tryz.results45, go_sem]) rfl ⟨rfl, below_new w _⟩
 have d0 : decide (I < 0) = false := by simpa using h0
 obtain ⟨k, rfl⟩ := Int.eq_ofNat_of_zero_le (show 0 ≤ I by omega)
 rw [show readAt xs (k : Int) = readT (xs.drop k) by rw [readAt, if_neg h0, Int.toNat_natCast]]
 clear h0
 by_cases hlt : k < N
 case neg =>
  have d1 : decide ((N : Int) ≤ (k : Int)) = true := by simp; omega
  rw [List.drop_of_length_le (by omega)]
  clear h hN
  go_enter Tryz.func45, Tryz.ntmps45
  go_wp2_with fail
  refine bodyPost_ret (v := .agg #[.int .i64 0, .bool false, .bool false, .int .u8 0]) (by simp [results, Tryz.results45, go_sem]) rfl ⟨rfl, below_new w _⟩
 have d1 : decide ((N : Int) ≤ (k : Int)) = false := by simp; omega
 obtain ⟨x, hx⟩ := at_lt (l := xs) (k := k) (by rw [hN]; exact hlt)
 obtain ⟨b, o, rfl, hbl, e0⟩ := h.at hx
 have hcap := h.l
 have hmx := h.m
 unfold maxLen at hmx
 rw [hN] at hcap
 by_cases hc : x = 27
 case neg =>
  have d2 : ((x : Int) != 27) = true := by rw [bne_iff_ne]; omega
  rw [drop_at hx, readT_not _ hc]
  clear h hN hx hc
  generalize (x : Int) = X at *
  go_enter Tryz.func45, Tryz.ntmps45
  go_wp2_with fail
  refine bodyPost_ret (v := .agg #[.int .i64 0, .bool false, .bool false, .int .u8 0]) (by simp [results, Tryz.results45, go_sem]) rfl ⟨rfl, below_new w _⟩
 subst hc
 have e0 : w.cell? ⟨b, o + k, none⟩ = some (.int .u8 27) := e0
 obtain ⟨R, hR⟩ : ∃ R, readT (xs.drop k) = R := ⟨_, rfl⟩
 rw [hR]
 rw [drop_at hx, ← ref_read] at hR
 have HH := Lib.hid (And.intro hR (And.intro h hN))
 clear hR h hN hx
 go_enter Tryz.func45, Tryz.ntmps45
 go_wp2_with fail
 go_loopw [5, 6, 7, 8] (fun s i _ _ wr => ∃ st j m : Nat, s = .int .i64 (st : Int) ∧ i = .int .i64 (j : Int) ∧ j = k + m ∧ j ≤ N ∧ 1 ≤ m ∧ st ≤ 2 ∧ refR st m (xs.drop j) = R ∧ wr = w.alloc (.cells #[.int .i64 0, .bool false, .bool false, .int .u8 0] 79)) (fun _ i _ _ _ => N - (RowKit.intOf i).toNat)
 case atStart => exact ⟨0, k + 1, 1, rfl, by go_num, rfl, by omega, by omega, by omega, HH.out.1, rfl⟩
 case round =>
  obtain ⟨st, j, m, rfl, rfl, hjm, hj, hm, hst, hke, rfl⟩ := hrel
  have hsub : (j : Int) - (k : Int) = (m : Int) := by omega
  by_cases hlt2 : j < N
  case neg =>
   obtain rfl : j = N := by omega
   have i1 : ¬ (j : Int) < (j : Int) := by omega
   have hn : R = ⟨m, false, true, 0⟩ := by rw [← hke, ← HH.out.2.2, List.drop_length, rr_nil]
   subst hn
   clear hke hjm
   go_wp2_with fail
   refine bodyPost_ret (v := .agg #[.int .i64 (m : Int), .bool false, .bool true, .int .u8 0]) (by simp [results, Tryz.results45, go_sem]) rfl ⟨rfl, below_new w _⟩
  have i1 : (j : Int) < (N : Int) := by omega
  obtain ⟨c, hc⟩ := at_lt (l := xs) (k := j) (by rw [HH.out.2.2]; exact hlt2)
  obtain ⟨b', o', e, _, e1⟩ := HH.out.2.1.at hc
  obtain ⟨rfl, rfl⟩ : b = b' ∧ o = o' := by simpa using e
  rw [drop_at hc] at hke
  have hnx : j + 1 = k + (m + 1) := by omega
  obtain ⟨C, hC⟩ : ∃ C : Int, (c : Int) = C := ⟨_, rfl⟩
  rw [hC] at e1
  clear hc e
  rcases (show st = 0 ∨ st = 1 ∨ st = 2 by omega) with rfl | rfl | rfl
  ·by_cases h91 : c = 91
   ·subst h91
    have c1 : (C == 91) = true := by rw [beq_iff_eq]; omega
    rw [rr0_91] at hke
    have HK := Lib.hid hke
    have HC := Lib.hid hC
    have HS := Lib.hid (And.intro hnx hjm)
    clear hke hC hnx hjm 
    go_wp2_with fail
    go_roundw
    case rel => exact ⟨1, j + 1, m + 1, rfl, by go_num, HS.out.1, by omega, by omega, by omega, HK.out, trivial⟩
    case measure => simp [RowKit.intOf]; omega
   ·by_cases hm2 : 64 ≤ c ∧ c ≤ 95
    ·obtain ⟨ha, hb⟩ := hm2
     have c1 : (C == 91) = false := by rw [beq_eq_false_iff_ne]; omega
     have c2 : (decide (64 ≤ C)) = true := by simp; omega
     have c3 : (decide (C ≤ 95)) = true := by simp; omega
     rw [rr0_mid h91 ha hb] at hke
     subst hke
     have HC := Lib.hid hC
     clear hC hnx hjm h91 ha hb
     go_wp2_with fail
     refine bodyPost_ret (v := .agg #[.int .i64 2, .bool true, .bool false, .int .u8 C]) (by simp [results, Tryz.results45, go_sem]) rfl ⟨by rw [← HC.out]; rfl, below_new w _⟩
    ·by_cases hlo : c < 64
     ·have c1 : (C == 91) = false := by rw [beq_eq_false_iff_ne]; omega
      have c2 : (decide (64 ≤ C)) = false := by simp; omega
      rw [rr0_no (.inl hlo)] at hke
      subst hke
      have HC := Lib.hid hC
      clear hC hnx hjm h91 hm2 hlo
      go_wp2_with fail
      refine bodyPost_ret (v := .agg #[.int .i64 1, .bool false, .bool false, .int .u8 0]) (by simp [results, Tryz.results45, go_sem]) rfl ⟨rfl, below_new w _⟩
     ·have c1 : (C == 91) = false := by rw [beq_eq_false_iff_ne]; omega
      have c2 : (decide (64 ≤ C)) = true := by simp; omega
      have c3 : (decide (C ≤ 95)) = false := by simp; omega
      rw [rr0_no (.inr (by omega))] at hke
      subst hke
      have HC := Lib.hid hC
      clear hC hnx hjm h91 hm2 hlo
      go_wp2_with fail
      refine bodyPost_ret (v := .agg #[.int .i64 1, .bool false, .bool false, .int .u8 0]) (by simp [results, Tryz.results45, go_sem]) rfl ⟨rfl, below_new w _⟩
  ·rcases (show c < 32 ∨ (32 ≤ c ∧ c ≤ 47) ∨ (48 ≤ c ∧ c ≤ 63) ∨ (64 ≤ c ∧ c ≤ 126) ∨ 126 < c by omega) with h | h | h | h | h
   ·have a48 : (decide (48 ≤ C)) = false := by simp; omega
    have b63 : (decide (C ≤ 63)) = true := by simp; omega
    have a32 : (decide (32 ≤ C)) = false := by simp; omega
    have b47 : (decide (C ≤ 47)) = true := by simp; omega
    have a64 : (decide (64 ≤ C)) = false := by simp; omega
    have b126 : (decide (C ≤ 126)) = true := by simp; omega
    rw [rrS_no (by decide) (.inl h)] at hke
    subst hke
    have HC := Lib.hid hC
    clear hC hnx hjm h
    go_wp2_with fail
    refine bodyPost_ret (v := .agg #[.int .i64 (m : Int), .bool false, .bool false, .int .u8 0]) (by simp [results, Tryz.results45, go_sem]) rfl ⟨rfl, below_new w _⟩
   ·have a48 : (decide (48 ≤ C)) = false := by simp; omega
    have b63 : (decide (C ≤ 63)) = true := by simp; omega
    have a32 : (decide (32 ≤ C)) = true := by simp; omega
    have b47 : (decide (C ≤ 47)) = true := by simp; omega
    have a64 : (decide (64 ≤ C)) = false := by simp; omega
    have b126 : (decide (C ≤ 126)) = true := by simp; omega
    rw [rrS_int (by decide) h.1 h.2] at hke
    have HK := Lib.hid hke
    have HC := Lib.hid hC
    have HS := Lib.hid (And.intro hnx hjm)
    clear hke hC hnx hjm h
    go_wp2_with fail
    go_roundw
    case rel => exact ⟨2, j + 1, m + 1, rfl, by go_num, HS.out.1, by omega, by omega, by omega, HK.out, trivial⟩
    case measure => simp [RowKit.intOf]; omega
   ·have a48 : (decide (48 ≤ C)) = true := by simp; omega
    have b63 : (decide (C ≤ 63)) = true := by simp; omega
    have a32 : (decide (32 ≤ C)) = true := by simp; omega
    have b47 : (decide (C ≤ 47)) = false := by simp; omega
    have a64 : (decide (64 ≤ C)) = false := by simp; omega
    have b126 : (decide (C ≤ 126)) = true := by simp; omega
    rw [rr1_par h.1 h.2] at hke
    have HK := Lib.hid hke
    have HC := Lib.hid hC
    have HS := Lib.hid (And.intro hnx hjm)
    clear hke hC hnx hjm h
    go_wp2_with fail
    go_roundw
    case rel => exact ⟨1, j + 1, m + 1, rfl, by go_num, HS.out.1, by omega, by omega, by omega, HK.out, trivial⟩
    case measure => simp [RowKit.intOf]; omega
   ·have a48 : (decide (48 ≤ C)) = true := by simp; omega
    have b63 : (decide (C ≤ 63)) = false := by simp; omega
    have a32 : (decide (32 ≤ C)) = true := by simp; omega
    have b47 : (decide (C ≤ 47)) = false := by simp; omega
    have a64 : (decide (64 ≤ C)) = true := by simp; omega
    have b126 : (decide (C ≤ 126)) = true := by simp; omega
    rw [rrS_fin (by decide) h.1 h.2] at hke
    subst hke
    have HC := Lib.hid hC
    clear hC hnx hjm h
    go_wp2_with fail
    refine bodyPost_ret (v := .agg #[.int .i64 ((m : Int) + 1), .bool true, .bool false, .int .u8 C]) (by simp [results, Tryz.results45, go_sem]) rfl ⟨by rw [← HC.out]; rfl, below_new w _⟩
   ·have a48 : (decide (48 ≤ C)) = true := by simp; omega
    have b63 : (decide (C ≤ 63)) = false := by simp; omega
    have a32 : (decide (32 ≤ C)) = true := by simp; omega
    have b47 : (decide (C ≤ 47)) = false := by simp; omega
    have a64 : (decide (64 ≤ C)) = true := by simp; omega
    have b126 : (decide (C ≤ 126)) = false := by simp; omega
    rw [rrS_no (by decide) (.inr (.inl h))] at hke
    subst hke
    have HC := Lib.hid hC
    clear hC hnx hjm h
    go_wp2_with fail
    refine bodyPost_ret (v := .agg #[.int .i64 (m : Int), .bool false, .bool false, .int .u8 0]) (by simp [results, Tryz.results45, go_sem]) rfl ⟨rfl, below_new w _⟩
  ·rcases (show c < 32 ∨ (32 ≤ c ∧ c ≤ 47) ∨ (48 ≤ c ∧ c ≤ 63) ∨ (64 ≤ c ∧ c ≤ 126) ∨ 126 < c by omega) with h | h | h | h | h
   ·have a48 : (decide (48 ≤ C)) = false := by simp; omega
    have b63 : (decide (C ≤ 63)) = true := by simp; omega
    have a32 : (decide (32 ≤ C)) = false := by simp; omega
    have b47 : (decide (C ≤ 47)) = true := by simp; omega
    have a64 : (decide (64 ≤ C)) = false := by simp; omega
    have b126 : (decide (C ≤ 126)) = true := by simp; omega
    rw [rrS_no (by decide) (.inl h)] at hke
    subst hke
    have HC := Lib.hid hC
    clear hC hnx hjm h
    go_wp2_with fail
    refine bodyPost_ret (v := .agg #[.int .i64 (m : Int), .bool false, .bool false, .int .u8 0]) (by simp [results, Tryz.results45, go_sem]) rfl ⟨rfl, below_new w _⟩
   ·have a48 : (decide (48 ≤ C)) = false := by simp; omega
    have b63 : (decide (C ≤ 63)) = true := by simp; omega
    have a32 : (decide (32 ≤ C)) = true := by simp; omega
    have b47 : (decide (C ≤ 47)) = true := by simp; omega
    have a64 : (decide (64 ≤ C)) = false := by simp; omega
    have b126 : (decide (C ≤ 126)) = true := by simp; omega
    rw [rrS_int (by decide) h.1 h.2] at hke
    have HK := Lib.hid hke
    have HC := Lib.hid hC
    have HS := Lib.hid (And.intro hnx hjm)
    clear hke hC hnx hjm h
    go_wp2_with fail
    go_roundw
    case rel => exact ⟨2, j + 1, m + 1, rfl, by go_num, HS.out.1, by omega, by omega, by omega, HK.out, trivial⟩
    case measure => simp [RowKit.intOf]; omega
   ·have a48 : (decide (48 ≤ C)) = true := by simp; omega
    have b63 : (decide (C ≤ 63)) = true := by simp; omega
    have a32 : (decide (32 ≤ C)) = true := by simp; omega
    have b47 : (decide (C ≤ 47)) = false := by simp; omega
    have a64 : (decide (64 ≤ C)) = false := by simp; omega
    have b126 : (decide (C ≤ 126)) = true := by simp; omega
    rw [rrS_no (by decide) (.inr (.inr ⟨rfl, h⟩))] at hke
    subst hke
    have HC := Lib.hid hC
    clear hC hnx hjm h
    go_wp2_with fail
    refine bodyPost_ret (v := .agg #[.int .i64 (m : Int), .bool false, .bool false, .int .u8 0]) (by simp [results, Tryz.results45, go_sem]) rfl ⟨rfl, below_new w _⟩
   ·have a48 : (decide (48 ≤ C)) = true := by simp; omega
    have b63 : (decide (C ≤ 63)) = false := by simp; omega
    have a32 : (decide (32 ≤ C)) = true := by simp; omega
    have b47 : (decide (C ≤ 47)) = false := by simp; omega
    have a64 : (decide (64 ≤ C)) = true := by simp; omega
    have b126 : (decide (C ≤ 126)) = true := by simp; omega
    rw [rrS_fin (by decide) h.1 h.2] at hke
    subst hke
    have HC := Lib.hid hC
    clear hC hnx hjm h
    go_wp2_with fail
    refine bodyPost_ret (v := .agg #[.int .i64 ((m : Int) + 1), .bool true, .bool false, .int .u8 C]) (by simp [results, Tryz.results45, go_sem]) rfl ⟨by rw [← HC.out]; rfl, below_new w _⟩
   ·have a48 : (decide (48 ≤ C)) = true := by simp; omega
    have b63 : (decide (C ≤ 63)) = false := by simp; omega
    have a32 : (decide (32 ≤ C)) = true := by simp; omega
    have b47 : (decide (C ≤ 47)) = false := by simp; omega
    have a64 : (decide (64 ≤ C)) = true := by simp; omega
    have b126 : (decide (C ≤ 126)) = false := by simp; omega
    rw [rrS_no (by decide) (.inr (.inl h))] at hke
    subst hke
    have HC := Lib.hid hC
    clear hC hnx hjm h
    go_wp2_with fail
    refine bodyPost_ret (v := .agg #[.int .i64 (m : Int), .bool false, .bool false, .int .u8 0]) (by simp [results, Tryz.results45, go_sem]) rfl ⟨rfl, below_new w _⟩
end Go.Proofs.YtfafhbgkmlmmdaaGreatDoor
namespace Go.Proofs.YtfafhbgkmlmmdaaGreatDoor.G
open Go.RowKit Go.Shelf Go.Lib Go.Maps Go.Sort
theorem slice_mid (b o len cap l k : Nat) (hc : l < cap) (hh : l + k ≤ cap) (W : World) :
  (Instr.slice 22 (.slice (some ⟨b, o, none⟩) len cap) (some (.int .i64 (l : Int))) (some (.int .i64 ((l : Int) + (k : Int)))) none).run Tryz.prog W = .ok (.slice (some ⟨b, o + l, none⟩) k (cap - l)) W := by
 have := slice_win b o len cap l (l + k) (by omega) hh hc W
 rw [Nat.add_sub_cancel_left] at this
 exact this
theorem upGo_short (N kind : Nat) (e : List Nat) : ∀ l, l.length < e.length → upGo N kind e l = ⟨kind, N, [], [], false, false⟩
 | [], _ => rfl
 | c :: t, h => by
  rw [upGo]
  have hp : e.isPrefixOf (c :: t) = false := by
   rw [Bool.eq_false_iff]
   intro hh
   have := (List.isPrefixOf_iff_prefix.1 hh).length_le
   omega
  rw [hp]
  simp at h
  exact upGo_short N kind e t (by omega)
theorem prefix_take {e l : List Nat} (_h : e.length ≤ l.length) : e.isPrefixOf l = (l.take e.length == e) := by
 rw [Bool.eq_iff_iff, List.isPrefixOf_iff_prefix, beq_iff_eq, List.prefix_iff_eq_take]
 exact eq_comm
theorem upToC_any (b o cap : Nat) (xs : List Nat) (w : World) (hb : BY w w.heap.size xs (some ⟨b, o, none⟩) cap) (hl : xs.length ≤ 100000) :
  Calls Tryz.prog 76 #[.slice (some ⟨b, o, none⟩) xs.length cap, .int .i64 4, .int .i64 2, .string ⟨#[45, 45, 62]⟩] w (UpOk w (upGo xs.length 2 [45, 45, 62] (xs.drop 4))) := by
 have hcap := hb.l
 obtain ⟨T, hT⟩ : ∃ T, upGo xs.length 2 [45, 45, 62] (xs.drop 4) = T := ⟨_, rfl⟩
 rw [hT]
 have hok : ∀ (v : Value) w', v = .agg #[.int .i64 (T.kind : Int), .int .i64 (T.size : Int), .string ⟨#[]⟩, .slice none 0 0, .bool false, .bool T.closed] → Below w.heap.size w w' → UpOk w T (.returned v) w' := fun v w' h1 h2 => ⟨by rw [h1], h2⟩
 obtain ⟨Q, hQ⟩ : ∃ Q, UpOk w T = Q := ⟨_, rfl⟩
 rw [hQ] at hok ⊢
 obtain ⟨W1, hW1⟩ : ∃ W, w.alloc (.cells #[.int .i64 0, .int .i64 0, .string ⟨#[]⟩, .slice none 0 0, .bool false, .bool false] 83) = W := ⟨_, rfl⟩
 have b1 : Below w.heap.size w W1 := by rw [← hW1]; exact below_new _ _
 have x1 : Cells W1 w.heap.size 83 #[.int .i64 0, .int .i64 0, .string ⟨#[]⟩, .slice none 0 0, .bool false, .bool false] := by rw [← hW1]; exact cells_new _ _ _
 have hb1 := hb.on b1
 obtain ⟨N, hN⟩ : ∃ N, xs.length = N := ⟨_, rfl⟩
 rw [hN] at hcap hl hT ⊢
 have s0 := x1.cell 0
 have s1 := x1.cell 1
 have s2 := x1.cell 2
 have s3 := x1.cell 3
 have s4 := x1.cell 4
 have s5 := x1.cell 5
 have t0 := x1.froz 0
 have t1 := x1.froz 1
 have t2 := x1.froz 2
 have t3 := x1.froz 3
 have t4 := x1.froz 4
 have t5 := x1.froz 5
 have hg := x1.lt
 simp at s0 s1 s2 s3 s4 s5
 have HH := Lib.hid (And.intro hok (And.intro b1 (And.intro hb1 (And.intro hN hT))))
 clear hok b1 x1 hb1 hb hN hQ hT
 go_enter Tryz.func76, Tryz.ntmps76
 go_wp2_with fail
 clear hW1
 go_loopw [9] (fun i wr => ∃ j : Nat, i = .int .i64 (j : Int) ∧ j ≤ N + 4 ∧ upGo N 2 [45, 45, 62] (xs.drop j) = T ∧ wr = W1) (fun i _ => N + 10 - (RowKit.intOf i).toNat)
 case atStart => exact ⟨4, rfl, by omega, HH.out.2.2.2.2, rfl⟩
 case round =>
  obtain ⟨j, rfl, hj, hT, e⟩ := hrel
  obtain rfl := e.symm
  have e1 : IntKind.i64.wrap ((j : Int) + 3) = (j : Int) + 3 := IntWalk.i64_in _ (by omega)
  by_cases hlt : j + 3 ≤ N
  case neg =>
   have i1 : ¬ ((j : Int) + 3 ≤ (N : Int)) := by omega
   rw [upGo_short N 2 [45, 45, 62] (xs.drop j) (by rw [List.length_drop, HH.out.2.2.2.1]; simp; omega)] at hT
   have HT := Lib.hid hT
   clear hT
   go_wp2_with fail
   refine bodyPost_ret (v := .agg #[.int .i64 2, .int .i64 (N : Int), .string ⟨#[]⟩, .slice none 0 0, .bool false, .bool false]) ?_ rfl ?_
   ·simp [results, Tryz.results76, go_sem, s0, s1, s2, s3, s4, s5]
   ·exact HH.out.1 _ _ (by rw [← HT.out]; rfl) ((((((HH.out.2.1.setc (Nat.le_refl _) 0 _).setc (Nat.le_refl _) 1 _).setc (Nat.le_refl _) 2 _).setc (Nat.le_refl _) 3 _).setc (Nat.le_refl _) 4 _).setc (Nat.le_refl _) 5 _)
  case pos =>
   have i1 : (j : Int) + 3 ≤ (N : Int) := by omega
   have hsl : ∀ W, (Instr.slice 22 (.slice (some ⟨b, o, none⟩) N cap) (some (.int .i64 (j : Int))) (some (.int .i64 ((j : Int) + 3))) none).run Tryz.prog W = .ok (.slice (some ⟨b, o + j, none⟩) 3 (cap - j)) W := fun W => slice_mid b o N cap j 3 (by omega) (by omega) W
   have hwin : BY W1 W1.heap.size ((xs.drop j).take 3) (some ⟨b, o + j, none⟩) (cap - j) := (HH.out.2.2.1.dropL (by rw [HH.out.2.2.2.1]; omega)).take 3
   have htl : ((xs.drop j).take 3).length = 3 := by rw [List.length_take, List.length_drop, HH.out.2.2.2.1]; omega
   have hcv : (convert 22 9 (.slice (some ⟨b, o + j, none⟩) 3 (cap - j))).run Tryz.prog W1 = .ok (.string ⟨(u8s ((xs.drop j).take 3)).toArray⟩) W1 := by
    have h := conv_by hwin
    rw [htl] at h
    exact h
   have h256 : ∀ x ∈ (xs.drop j).take 3, x < 256 := hwin.i
   have hp := prefix_take (e := [45, 45, 62]) (l := xs.drop j) (by rw [List.length_drop, HH.out.2.2.2.1]; simp; omega)
   obtain ⟨x, hx⟩ := at_lt (l := xs) (k := j) (by rw [HH.out.2.2.2.1]; omega)
   have hdx := drop_at hx
   have hlen2 : (xs.drop (j + 1)).length = N - (j + 1) := by rw [List.length_drop, HH.out.2.2.2.1]
   have e2 : IntKind.i64.wrap ((j : Int) + 1) = (j : Int) + 1 := IntWalk.i64_in _ (by omega)
   by_cases htk : (xs.drop j).take 3 = [45, 45, 62]
   ·have hT2 : (⟨2, j + 3, [], [], false, true⟩ : TG) = T := by
     rw [show ([45, 45, 62] : List Nat).length = 3 from rfl, htk] at hp
     rw [← hT]
     rw [hdx] at hp ⊢
     rw [upGo, hp, hlen2]
     simp
     omega
    rw [htk] at hcv
    have HT := Lib.hid hT2
    clear hT hT2 hwin htl h256 hp hx hdx hlen2 htk
    go_wp2_with fail
    refine bodyPost_ret (v := .agg #[.int .i64 2, .int .i64 ((j : Int) + 3), .string ⟨#[]⟩, .slice none 0 0, .bool false, .bool true]) ?_ rfl ?_
    ·simp [results, Tryz.results76, go_sem, s0, s1, s2, s3, s4, s5]
    ·exact HH.out.1 _ _ (by rw [← HT.out]; rfl) ((((((HH.out.2.1.setc (Nat.le_refl _) 0 _).setc (Nat.le_refl _) 1 _).setc (Nat.le_refl _) 2 _).setc (Nat.le_refl _) 3 _).setc (Nat.le_refl _) 4 _).setc (Nat.le_refl _) 5 _)
   ·have hT2 : upGo N 2 [45, 45, 62] (xs.drop (j + 1)) = T := by
     rw [show ([45, 45, 62] : List Nat).length = 3 from rfl, beq_eq_false_iff_ne.2 htk] at hp
     rw [← hT]
     rw [hdx] at hp ⊢
     rw [upGo, hp]
     rfl
    have hne : ¬ u8s ((xs.drop j).take 3) = u8s [45, 45, 62] := fun e => htk (u8s_inj h256 (by decide) e)
    obtain ⟨SA, hSA⟩ : ∃ S : ByteArray, ⟨(u8s ((xs.drop j).take 3)).toArray⟩ = S := ⟨_, rfl⟩
    rw [hSA] at hcv
    have hl1 : (SA.toList == [45, 45, 62]) = false := by
     rw [beq_eq_false_iff_ne, ← hSA]
     intro e
     apply hne
     have : (⟨(u8s ((xs.drop j).take 3)).toArray⟩ : ByteArray).toList = u8s ((xs.drop j).take 3) := by first | exact ByteArray.toList_mk _ | simp
     rw [← this, e]
     rfl
    have HT := Lib.hid hT2
    clear hT hT2 hwin htl h256 hp hx hdx hlen2 htk hne hSA
    go_wp2_with fail
    go_roundw
    case rel => exact ⟨j + 1, by go_num, by omega, HT.out, trivial⟩
    case measure => simp [RowKit.intOf]; omega
theorem upToD_any (b o cap : Nat) (xs : List Nat) (w : World) (hb : BY w w.heap.size xs (some ⟨b, o, none⟩) cap) (hl : xs.length ≤ 100000) :
  Calls Tryz.prog 76 #[.slice (some ⟨b, o, none⟩) xs.length cap, .int .i64 2, .int .i64 3, .string ⟨#[62]⟩] w (UpOk w (upGo xs.length 3 [62] (xs.drop 2))) := by
 have hcap := hb.l
 obtain ⟨T, hT⟩ : ∃ T, upGo xs.length 3 [62] (xs.drop 2) = T := ⟨_, rfl⟩
 rw [hT]
 have hok : ∀ (v : Value) w', v = .agg #[.int .i64 (T.kind : Int), .int .i64 (T.size : Int), .string ⟨#[]⟩, .slice none 0 0, .bool false, .bool T.closed] → Below w.heap.size w w' → UpOk w T (.returned v) w' := fun v w' h1 h2 => ⟨by rw [h1], h2⟩
 obtain ⟨Q, hQ⟩ : ∃ Q, UpOk w T = Q := ⟨_, rfl⟩
 rw [hQ] at hok ⊢
 obtain ⟨W1, hW1⟩ : ∃ W, w.alloc (.cells #[.int .i64 0, .int .i64 0, .string ⟨#[]⟩, .slice none 0 0, .bool false, .bool false] 83) = W := ⟨_, rfl⟩
 have b1 : Below w.heap.size w W1 := by rw [← hW1]; exact below_new _ _
 have x1 : Cells W1 w.heap.size 83 #[.int .i64 0, .int .i64 0, .string ⟨#[]⟩, .slice none 0 0, .bool false, .bool false] := by rw [← hW1]; exact cells_new _ _ _
 have hb1 := hb.on b1
 obtain ⟨N, hN⟩ : ∃ N, xs.length = N := ⟨_, rfl⟩
 rw [hN] at hcap hl hT ⊢
 have s0 := x1.cell 0
 have s1 := x1.cell 1
 have s2 := x1.cell 2
 have s3 := x1.cell 3
 have s4 := x1.cell 4
 have s5 := x1.cell 5
 have t0 := x1.froz 0
 have t1 := x1.froz 1
 have t2 := x1.froz 2
 have t3 := x1.froz 3
 have t4 := x1.froz 4
 have t5 := x1.froz 5
 have hg := x1.lt
 simp at s0 s1 s2 s3 s4 s5
 have HH := Lib.hid (And.intro hok (And.intro b1 (And.intro hb1 (And.intro hN hT))))
 clear hok b1 x1 hb1 hb hN hQ hT
 go_enter Tryz.func76, Tryz.ntmps76
 go_wp2_with fail
 clear hW1
 go_loopw [9] (fun i wr => ∃ j : Nat, i = .int .i64 (j : Int) ∧ j ≤ N + 2 ∧ upGo N 3 [62] (xs.drop j) = T ∧ wr = W1) (fun i _ => N + 10 - (RowKit.intOf i).toNat)
 case atStart => exact ⟨2, rfl, by omega, HH.out.2.2.2.2, rfl⟩
 case round =>
  obtain ⟨j, rfl, hj, hT, e⟩ := hrel
  obtain rfl := e.symm
  have e1 : IntKind.i64.wrap ((j : Int) + 1) = (j : Int) + 1 := IntWalk.i64_in _ (by omega)
  by_cases hlt : j + 1 ≤ N
  case neg =>
   have i1 : ¬ ((j : Int) + 1 ≤ (N : Int)) := by omega
   rw [upGo_short N 3 [62] (xs.drop j) (by rw [List.length_drop, HH.out.2.2.2.1]; simp; omega)] at hT
   have HT := Lib.hid hT
   clear hT
   go_wp2_with fail
   refine bodyPost_ret (v := .agg #[.int .i64 3, .int .i64 (N : Int), .string ⟨#[]⟩, .slice none 0 0, .bool false, .bool false]) ?_ rfl ?_
   ·simp [results, Tryz.results76, go_sem, s0, s1, s2, s3, s4, s5]
   ·exact HH.out.1 _ _ (by rw [← HT.out]; rfl) ((((((HH.out.2.1.setc (Nat.le_refl _) 0 _).setc (Nat.le_refl _) 1 _).setc (Nat.le_refl _) 2 _).setc (Nat.le_refl _) 3 _).setc (Nat.le_refl _) 4 _).setc (Nat.le_refl _) 5 _)
  case pos =>
   have i1 : (j : Int) + 1 ≤ (N : Int) := by omega
   have hsl : ∀ W, (Instr.slice 22 (.slice (some ⟨b, o, none⟩) N cap) (some (.int .i64 (j : Int))) (some (.int .i64 ((j : Int) + 1))) none).run Tryz.prog W = .ok (.slice (some ⟨b, o + j, none⟩) 1 (cap - j)) W := fun W => slice_mid b o N cap j 1 (by omega) (by omega) W
   have hwin : BY W1 W1.heap.size ((xs.drop j).take 1) (some ⟨b, o + j, none⟩) (cap - j) := (HH.out.2.2.1.dropL (by rw [HH.out.2.2.2.1]; omega)).take 1
   have htl : ((xs.drop j).take 1).length = 1 := by rw [List.length_take, List.length_drop, HH.out.2.2.2.1]; omega
   have hcv : (convert 22 9 (.slice (some ⟨b, o + j, none⟩) 1 (cap - j))).run Tryz.prog W1 = .ok (.string ⟨(u8s ((xs.drop j).take 1)).toArray⟩) W1 := by
    have h := conv_by hwin
    rw [htl] at h
    exact h
   have h256 : ∀ x ∈ (xs.drop j).take 1, x < 256 := hwin.i
   have hp := prefix_take (e := [62]) (l := xs.drop j) (by rw [List.length_drop, HH.out.2.2.2.1]; simp; omega)
   obtain ⟨x, hx⟩ := at_lt (l := xs) (k := j) (by rw [HH.out.2.2.2.1]; omega)
   have hdx := drop_at hx
   have hlen2 : (xs.drop (j + 1)).length = N - (j + 1) := by rw [List.length_drop, HH.out.2.2.2.1]
   have e2 : IntKind.i64.wrap ((j : Int) + 1) = (j : Int) + 1 := IntWalk.i64_in _ (by omega)
   by_cases htk : (xs.drop j).take 1 = [62]
   ·have hT2 : (⟨3, j + 1, [], [], false, true⟩ : TG) = T := by
     rw [show ([62] : List Nat).length = 1 from rfl, htk] at hp
     rw [← hT]
     rw [hdx] at hp ⊢
     rw [upGo, hp, hlen2]
     simp
     omega
    rw [htk] at hcv
    have HT := Lib.hid hT2
    clear hT hT2 hwin htl h256 hp hx hdx hlen2 htk
    go_wp2_with fail
    refine bodyPost_ret (v := .agg #[.int .i64 3, .int .i64 ((j : Int) + 1), .string ⟨#[]⟩, .slice none 0 0, .bool false, .bool true]) ?_ rfl ?_
    ·simp [results, Tryz.results76, go_sem, s0, s1, s2, s3, s4, s5]
    ·exact HH.out.1 _ _ (by rw [← HT.out]; rfl) ((((((HH.out.2.1.setc (Nat.le_refl _) 0 _).setc (Nat.le_refl _) 1 _).setc (Nat.le_refl _) 2 _).setc (Nat.le_refl _) 3 _).setc (Nat.le_refl _) 4 _).setc (Nat.le_refl _) 5 _)
   ·have hT2 : upGo N 3 [62] (xs.drop (j + 1)) = T := by
     rw [show ([62] : List Nat).length = 1 from rfl, beq_eq_false_iff_ne.2 htk] at hp
     rw [← hT]
     rw [hdx] at hp ⊢
     rw [upGo, hp]
     rfl
    have hne : ¬ u8s ((xs.drop j).take 1) = u8s [62] := fun e => htk (u8s_inj h256 (by decide) e)
    obtain ⟨SA, hSA⟩ : ∃ S : ByteArray, ⟨(u8s ((xs.drop j).take 1)).toArray⟩ = S := ⟨_, rfl⟩
    rw [hSA] at hcv
    have hl1 : (SA.toList == [62]) = false := by
     rw [beq_eq_false_iff_ne, ← hSA]
     intro e
     apply hne
     have : (⟨(u8s ((xs.drop j).take 1)).toArray⟩ : ByteArray).toList = u8s ((xs.drop j).take 1) := by first | exact ByteArray.toList_mk _ | simp
     rw [← this, e]
     rfl
    have HT := Lib.hid hT2
    clear hT hT2 hwin htl h256 hp hx hdx hlen2 htk hne hSA
    go_wp2_with fail
    go_roundw
    case rel => exact ⟨j + 1, by go_num, by omega, HT.out, trivial⟩
    case measure => simp [RowKit.intOf]; omega
end Go.Proofs.YtfafhbgkmlmmdaaGreatDoor.G
