/-
  Contracts: entity.isDigit, entity.ofNumber, what is asked of a number's bytes, entity.numeric, entity.styles.
-/
import Derived.Test.YtpimadgcojgjaaaDoorClo
import Derived.Test.YtpimadgcojgjaaaDoorLpi
import Derived.Test.YtpimadgcojgjaaaDoorSPi2
import Derived.Test.YtpimadgcojgjaaaDoorNer
import Derived.Lib.ParseIntBCases
namespace Go.Proofs.YtpimadgcojgjaaaDoor
open Go.RowKit Go.Shelf Go.Lib Go.Maps Go.Great
attribute [local irreducible] NR ZNR FR nmE

/-- Is a byte a digit of a base? -/
def dgB (base c : Nat) : Bool := decide (48 ≤ c) && decide (c ≤ 57) || decide (base = 16) && (decide (97 ≤ c) && decide (c ≤ 102) || decide (65 ≤ c) && decide (c ≤ 70))
def dv (c : Nat) : Nat := if c ≤ 57 then c - 48 else if c ≤ 70 then c - 55 else c - 87
def nbV (base : Nat) : List Nat → Nat → Nat
  | [], n => n
  | c :: r, n => nbV base r (base * n + dv c)
/-- What a number means. -/
def mnR (n : Nat) : Int := if n = 0 then 65533 else scR n
theorem dv_16 : ∀ c, c < 256 → dgB 16 c = true → S.pd c = dv c ∧ dv c < 16 ∧ c ≠ 43 ∧ c ≠ 45 := by decide +kernel
theorem dv_10 : ∀ c, c < 256 → dgB 10 c = true → 48 ≤ c ∧ c ≤ 57 ∧ dv c = c - 48 ∧ dv c < 10 := by decide +kernel
theorem dv_lt {b c : Nat} (hb : b = 10 ∨ b = 16) (hc : c < 256) (h : dgB b c = true) : dv c < b := by
  rcases hb with rfl | rfl
  · exact (dv_10 c hc h).2.2.2
  · exact (dv_16 c hc h).2.1
theorem nbV_lt {b : Nat} (hb : b = 10 ∨ b = 16) : ∀ (l : List Nat) (n m : Nat), (∀ x ∈ l, x < 256 ∧ dgB b x = true) → n < b ^ m → nbV b l n < b ^ (m + l.length)
  | [], n, m, _, h => by simpa [nbV] using h
  | c :: r, n, m, hd, h => by
    have h1 := dv_lt hb (hd c (by simp)).1 (hd c (by simp)).2
    have h2 : b * n + dv c < b ^ (m + 1) := by
      rw [Nat.pow_succ, Nat.mul_comm (b ^ m) b]
      calc b * n + dv c < b * n + b := by omega
        _ = b * (n + 1) := by rw [Nat.mul_add, Nat.mul_one]
        _ ≤ b * b ^ m := Nat.mul_le_mul_left _ h
    have := nbV_lt hb r _ (m + 1) (fun x hx => hd x (by simp [hx])) h2
    rw [nbV, List.length_cons, show m + (r.length + 1) = m + 1 + r.length by omega]
    exact this
theorem pu_num : ∀ (l : List UInt8) (n m : Nat), (∀ x ∈ nats l, x < 256 ∧ dgB 16 x = true) → n < 16 ^ m → m + l.length ≤ 7 → S.pu l n = .ok (nbV 16 (nats l) n)
  | [], n, m, _, _, _ => rfl
  | c :: r, n, m, hd, h, hm => by
    have h1 := dv_16 c.toNat (UInt8.toNat_lt _) (hd c.toNat (by simp [nats])).2
    have h2 : 16 * n + dv c.toNat < 16 ^ (m + 1) := by rw [Nat.pow_succ]; omega
    have h3 : 16 ^ (m + 1) ≤ 16 ^ 7 := Nat.pow_le_pow_right (by decide) (by simp at hm; omega)
    have h4 : (16 : Nat) ^ 7 = 268435456 := by decide
    rw [S.pu, h1.1, if_pos h1.2.1, if_pos (by omega), pu_num r _ (m + 1) (fun x hx => hd x (by simp [nats] at hx ⊢; exact Or.inr hx)) h2 (by simp at hm; omega)]
    rfl
theorem piE_num (l : List UInt8) (hd : ∀ x ∈ nats l, x < 256 ∧ dgB 16 x = true) (h0 : l ≠ []) (hm : l.length ≤ 6) : S.piE l = .ok (nbV 16 (nats l) 0 : Nat) := by
  cases l with
  | nil => exact absurd rfl h0
  | cons c r =>
    have h1 := dv_16 c.toNat (UInt8.toNat_lt _) (hd c.toNat (by simp [nats])).2
    have hu := pu_num (c :: r) 0 0 hd (by decide) (by omega)
    have n1 : c ≠ 43 := by rintro rfl; exact h1.2.2.1 rfl
    have n2 : c ≠ 45 := by rintro rfl; exact h1.2.2.2 rfl
    have hb := nbV_lt (Or.inr rfl) (nats (c :: r)) 0 0 hd (by decide)
    have h3 : 16 ^ (0 + (nats (c :: r)).length) ≤ 16 ^ 6 := Nat.pow_le_pow_right (by decide) (by rw [nats, List.length_map]; omega)
    have h4 : (16 : Nat) ^ 6 = 16777216 := by decide
    rw [S.piE, if_neg n1, if_neg n2, S.puE, if_neg h0, hu, S.piR]
    simp only [Bool.false_eq_true, if_false]
    rw [if_pos (by omega)]
theorem pum_num : ∀ (l : List UInt8) (n m : Nat), (∀ x ∈ nats l, x < 256 ∧ dgB 10 x = true) → n < 10 ^ m → m + l.length ≤ 7 → Lib.parseUintM (2 ^ 32 - 1) n l = .ok (nbV 10 (nats l) n)
  | [], n, m, _, _, _ => rfl
  | c :: r, n, m, hd, h, hm => by
    have h1 := dv_10 c.toNat (UInt8.toNat_lt _) (hd c.toNat (by simp [nats])).2
    have h2 : 10 * n + dv c.toNat < 10 ^ (m + 1) := by rw [Nat.pow_succ]; omega
    have h3 : 10 ^ (m + 1) ≤ 10 ^ 7 := Nat.pow_le_pow_right (by decide) (by simp at hm; omega)
    have h4 : (10 : Nat) ^ 7 = 10000000 := by decide
    have e : n * 10 + (c.toNat - 48) = 10 * n + dv c.toNat := by omega
    rw [Lib.parseUintM, if_pos ⟨h1.1, h1.2.1⟩, if_neg (by omega), if_neg (by omega), e, pum_num r _ (m + 1) (fun x hx => hd x (by simp [nats] at hx ⊢; exact Or.inr hx)) h2 (by simp at hm; omega)]
    rfl
theorem piB_num (l : List UInt8) (hd : ∀ x ∈ nats l, x < 256 ∧ dgB 10 x = true) (h0 : l ≠ []) (hm : l.length ≤ 7) : Lib.parseIntB 32 l = .ok (nbV 10 (nats l) 0 : Nat) := by
  cases l with
  | nil => exact absurd rfl h0
  | cons c r =>
    have h1 := dv_10 c.toNat (UInt8.toNat_lt _) (hd c.toNat (by simp [nats])).2
    have hu := pum_num (c :: r) 0 0 hd (by decide) (by omega)
    have hb := nbV_lt (Or.inl rfl) (nats (c :: r)) 0 0 hd (by decide)
    have h3 : 10 ^ (0 + (nats (c :: r)).length) ≤ 10 ^ 7 := Nat.pow_le_pow_right (by decide) (by rw [nats, List.length_map]; omega)
    have h4 : (10 : Nat) ^ 7 = 10000000 := by decide
    rw [Lib.parseIntB_plain 32 c r (by omega) (by omega), Lib.parseUintB, if_neg h0, hu, Lib.signlessC]
    rw [if_neg (by have : (2 : Nat) ^ (32 - 1) = 2147483648 := by decide
                   omega)]

set_option maxHeartbeats 4000000 in
set_option maxRecDepth 100000 in
theorem isDigit_any (c base : Nat) (hb : base = 10 ∨ base = 16) (w : World) :
    Calls Tryd.prog 68 #[.int .u8 (c : Int), .int .i64 (base : Int)] w fun e w' => e = .returned (.bool (dgB base c)) ∧ w' = w := by
  go_enter Tryd.func68, Tryd.ntmps68
  have fin : ∀ (b : Bool), dgB base c = b → dgB base c = b := fun _ h => h
  by_cases h1 : (48 : Int) ≤ (c : Int)
  all_goals by_cases h2 : (c : Int) ≤ 57
  all_goals by_cases h3 : (base : Int) = 16
  all_goals by_cases h4 : (97 : Int) ≤ (c : Int)
  all_goals by_cases h5 : (c : Int) ≤ 102
  all_goals by_cases h6 : (65 : Int) ≤ (c : Int)
  all_goals by_cases h7 : (c : Int) ≤ 70
  all_goals first
    | (exfalso; omega)
    | skip
  all_goals go_wp2_with fail
  all_goals go_ret
  all_goals refine ⟨?_, rfl⟩
  all_goals simp [dgB]
  all_goals omega
end Go.Proofs.YtpimadgcojgjaaaDoor
