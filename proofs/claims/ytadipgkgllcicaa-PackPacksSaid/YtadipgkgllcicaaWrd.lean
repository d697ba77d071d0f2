/-
  Contracts: the words of slots.
-/
import Derived.Test.YtadipgkgllcicaaPkm
namespace Go.Proofs.Ytadipgkgllcicaa
open Go.RowKit Go.Shelf Go.Lib Go.Maps

set_option maxHeartbeats 4000000 in
set_option maxRecDepth 100000 in
theorem word_any (T : List Nat) (A : Option Addr) (cap : Nat) (i : Nat) (_hi : i < 100000) (w : World) (h : UsAt w w.heap.size T A cap) :
    Calls Try.prog 40 #[.slice A T.length cap, .int .i64 (i : Int)] w fun r w' => r = .returned (.int .u64 ((T.getD i 0 : Nat) : Int)) ∧ w' = w := by
  have hl : T.length ≤ 9223372036854775807 := by have := h.l; have := h.m; unfold maxLen at this; omega
  by_cases hlt : i < T.length
  · have hx : T[i]? = some (T.getD i 0) := by simp [List.getD_eq_getElem?_getD, List.getElem?_eq_getElem hlt]
    obtain ⟨b, o, rfl, _, hc⟩ := h.r (by rintro rfl; simp at hlt)
    have d0 := hc i _ hx
    generalize T.getD i 0 = x at *
    clear h hx hc
    generalize T.length = n at *
    have j1 : (i : Int) < (n : Int) := by omega
    have j2 : ¬ (n : Int) ≤ (i : Int) := by omega
    go_enter Try.func40, Try.ntmps40
    go_wp2_with fail
    go_ret
    exact ⟨rfl, rfl⟩
  · rw [show T.getD i 0 = 0 by rw [List.getD_eq_getElem?_getD, List.getElem?_eq_none (by omega)]; rfl]
    clear h
    generalize T.length = n at *
    have j2 : (n : Int) ≤ (i : Int) := by omega
    go_enter Try.func40, Try.ntmps40
    go_wp2_with fail
    go_ret
    exact ⟨rfl, rfl⟩
theorem shl_mod (Y c : Nat) : ((Y : Int) * 2 ^ c) % 18446744073709551616 = (((Y * 2 ^ c) % 2 ^ 64 : Nat) : Int) := by
  rw [show (2 ^ 64 : Nat) = 18446744073709551616 by decide, Int.natCast_emod, Int.natCast_mul, Int.natCast_pow]
  rfl
theorem shr_div (X c : Nat) : (X : Int) / 2 ^ c = ((X / 2 ^ c : Nat) : Int) := by
  rw [Int.natCast_ediv, Int.natCast_pow]
  rfl
set_option maxHeartbeats 4000000 in
set_option maxRecDepth 100000 in
theorem from_any (T : List Nat) (A : Option Addr) (cap : Nat) (base : Nat) (hi : base < 1000000) (w : World) (h : UsAt w w.heap.size T A cap) :
    Calls Try.prog 39 #[.slice A T.length cap, .int .i64 (base : Int)] w fun r w' => r = .returned (.int .u64 ((frm T base : Nat) : Int)) ∧ Below w.heap.size w w' := by
  obtain ⟨q, b, hb, hqb⟩ : ∃ q b : Nat, b < 64 ∧ base = 64 * q + b := ⟨base / 64, base % 64, Nat.mod_lt _ (by omega), by omega⟩
  have hq : q < 100000 := by omega
  have e1 : (base : Int) / 64 = (q : Int) := by omega
  have e2 : (base : Int) % 64 = (b : Int) := by omega
  have C1 := fun m => word_any T A cap q (by omega) (w.drewN m) (h.on (below_drewN (Below.refl _ _) m))
  have C2 := fun m => word_any T A cap (q + 1) (by omega) (w.drewN m) (h.on (below_drewN (Below.refl _ _) m))
  have e3 : ((q + 1 : Nat) : Int) = (q : Int) + 1 := by omega
  rw [e3] at C2
  have hF : frm T base = T.getD q 0 / 2 ^ b ||| (T.getD (q + 1) 0 * 2 ^ (64 - b)) % 2 ^ 64 := by
    unfold frm
    rw [show base / 64 = q by omega, show base % 64 = b by omega]
  have g1 := getD_lt (fun x hx => h.i x hx) q
  have g2 := getD_lt (fun x hx => h.i x hx) (q + 1)
  generalize T.getD q 0 = X at *
  generalize T.getD (q + 1) 0 = Y at *
  generalize frm T base = F at *
  generalize T.length = n at *
  have H1 := Lib.hid C1
  have H2 := Lib.hid C2
  have hB : bits .or .u64 ((X : Int) / 2 ^ b) (IntKind.u64.wrap ((Y : Int) * 2 ^ (64 - b))) = (F : Int) := by
    rw [IntKind.wrap_u64, hF]
    rw [shr_div, shl_mod]
    exact bits_or_u64_nat _ _ (Nat.lt_of_le_of_lt (Nat.div_le_self _ _) g1) (Nat.mod_lt _ (by decide))
  have HE := Lib.hid (And.intro e1 (And.intro e2 hB))
  clear C1 C2 h e1 e2 e3 hqb hB hF g1 g2
  go_enter Try.func39, Try.ntmps39
  go_wp2_with fail
  rw [HE.out.1, HE.out.2.1]
  go_quiet (first | (go_at_call 40; with_reducible refine Calls.quiet_of_same (H1.out _)) | (go_at_call 40; with_reducible refine Calls.quiet_of_same (H2.out _)))
  rw [HE.out.2.2]
  go_wp2_with fail
  go_ret
  exact ⟨rfl, below_drewN (Below.refl _ _) _⟩
theorem leastB_step {f : Nat → Bool} {n b : Nat} (h : f b = false) : leastB f (n + 1) b = leastB f n (b + 1) := by
  show (if f b = true then b else leastB f n (b + 1)) = _
  rw [if_neg (by rw [h]; simp)]
theorem leastB_hit {f : Nat → Bool} {n b : Nat} (h : f b = true) : leastB f n b = b := by
  cases n with
  | zero => rfl
  | succ n => show (if f b = true then b else leastB f n (b + 1)) = _; rw [if_pos h]
def fitB (T : List Nat) (m : Nat) (b : Nat) : Bool := decide (frm T b &&& m = 0)
theorem fitB_end (T : List Nat) (h : ∀ x ∈ T, x < 2 ^ 64) (m : Nat) : fitB T m (64 * T.length) = true := by
  unfold fitB
  have : frm T (64 * T.length) = 0 := by
    refine Nat.eq_of_testBit_eq fun i => ?_
    rw [Nat.zero_testBit]
    by_cases hi : i < 64
    · rw [frm_bit h _ _ hi]; exact usedB_none (by omega)
    · exact Nat.testBit_lt_two_pow (Nat.lt_of_lt_of_le (frm_lt h _) (Nat.pow_le_pow_right (by decide) (by omega)))
  rw [this]; simp
def findR (T : List Nat) (m : Nat) : Nat := leastB (fitB T m) (64 * T.length) 0
set_option maxHeartbeats 4000000 in
set_option maxRecDepth 100000 in
theorem find_any (T : List Nat) (A : Option Addr) (cap : Nat) (m : Nat) (hm : m < 18446744073709551616) (hT : T.length ≤ 10000) (w : World) (h : UsAt w w.heap.size T A cap) :
    Calls Try.prog 35 #[.slice A T.length cap, .int .u64 (m : Int)] w fun r w' => r = .returned (.int .i64 ((findR T m : Nat) : Int)) ∧ Below w.heap.size w w' := by
  have hi64 : ∀ x ∈ T, x < 2 ^ 64 := fun x hx => h.i x hx
  obtain ⟨N, hN⟩ : ∃ N, 64 * T.length = N := ⟨_, rfl⟩
  have hNl : N ≤ 640000 := by omega
  have hend := fitB_end T hi64 m
  rw [hN] at hend
  obtain ⟨R, hR⟩ : ∃ R, findR T m = R := ⟨_, rfl⟩
  have hR0 : leastB (fitB T m) (N - 0) 0 = R := by rw [← hN, Nat.sub_zero]; exact hR
  rw [hR]
  have C := fun (k : Nat) (hk : k ≤ N) (w' : World) (hb : Below w.heap.size w w') => from_any T A cap k (by omega) w' (h.on hb)
  obtain ⟨n, hn⟩ : ∃ n, T.length = n := ⟨_, rfl⟩
  rw [hn] at C ⊢
  have H := Lib.hid (And.intro hend (And.intro hi64 hR0))
  have HC := Lib.hid C
  clear h hi64 hN hend hR hR0 C hn hT
  go_enter Try.func35, Try.ntmps35
  go_wp2_with fail
  go_loopw [5] (fun i wr => ∃ k : Nat, i = .int .i64 (k : Int) ∧ k ≤ N ∧ leastB (fitB T m) (N - k) k = R ∧ Below w.heap.size w wr) (fun i _ => N - (RowKit.intOf i).toNat)
  case atStart => exact ⟨0, rfl, by omega, H.out.2.2, Below.refl _ _⟩
  case round =>
    obtain ⟨k, rfl, hk, hle, hb⟩ := hrel
    have C := HC.out k hk wr hb
    have hF := frm_lt H.out.2.1 k
    have hf : fitB T m k = decide (frm T k &&& m = 0) := rfl
    generalize frm T k = F at *
    have HB := Lib.hid (show bits .and .u64 (F : Int) (m : Int) = ((F &&& m : Nat) : Int) from bits_and_u64_nat _ _ hF hm)
    have HK := Lib.hid (And.intro C (And.intro hle hb))
    by_cases hz : F &&& m = 0
    · obtain rfl : R = k := by
        rw [← HK.out.2.1]
        exact leastB_hit (by rw [hf, hz]; rfl)
      have hq : (((F &&& m : Nat) : Int) == 0) = true := by rw [hz]; rfl
      have HQ := Lib.hid hq
      clear C hF hf hle hb hz hq
      go_wp2_with fail
      refine HK.out.1.mono ?_
      rintro r w2 ⟨rfl, hb2⟩
      have HB2 := Lib.hid (HK.out.2.2.trans (hb2.mono HK.out.2.2.size))
      clear hb2
      have hq : (bits .and .u64 (F : Int) (m : Int) == 0) = true := by rw [HB.out]; exact HQ.out
      go_wp2_with fail
      go_ret
      exact ⟨rfl, HB2.out⟩
    · have hlt : k < N := by
        rcases Nat.lt_or_ge k N with e | e
        · exact e
        · exfalso
          obtain rfl : k = N := by omega
          have := H.out.1
          rw [hf] at this
          simp [hz] at this
      have hnext : leastB (fitB T m) (N - (k + 1)) (k + 1) = R := by
        rw [← HK.out.2.1, show N - k = (N - (k + 1)) + 1 by omega]
        exact (leastB_step (by rw [hf]; simp [hz])).symm
      have hq : (((F &&& m : Nat) : Int) == 0) = false := by simp only [beq_eq_false_iff_ne, ne_eq]; omega
      have HQ := Lib.hid (And.intro hq hnext)
      clear C hF hf hle hb hz hq hnext
      go_wp2_with fail
      refine HK.out.1.mono ?_
      rintro r w2 ⟨rfl, hb2⟩
      have HB2 := Lib.hid (HK.out.2.2.trans (hb2.mono HK.out.2.2.size))
      clear hb2
      have hq : (bits .and .u64 (F : Int) (m : Int) == 0) = false := by rw [HB.out]; exact HQ.out.1
      go_wp2_with fail
      go_roundw
      case rel => exact ⟨k + 1, by go_num, by omega, HQ.out.2, HB2.out⟩
      case measure => simp [RowKit.intOf]; omega
end Go.Proofs.Ytadipgkgllcicaa
