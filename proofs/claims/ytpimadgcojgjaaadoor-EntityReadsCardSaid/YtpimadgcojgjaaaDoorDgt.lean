/-
  Contract: virgulelaw17.digits.
-/
import Derived.Test.YtpimadgcojgjaaaDoorWrt
namespace Go.Proofs.YtpimadgcojgjaaaDoor
open Go.RowKit Go.Shelf Go.Lib Go.Maps

def decE (n : Nat) : List UInt8 := if n = 0 then [] else Lib.decDigits n
def decC (d : Nat) : UInt8 := UInt8.ofNat (48 + d)
theorem decD (m : Nat) : decE (m / 10) ++ [decC (m % 10)] = Lib.decDigits m := by
  unfold decE decC
  by_cases h : m < 10
  · rw [if_pos (by omega), Lib.decDigits, dif_pos h, List.nil_append, Nat.mod_eq_of_lt h]
  · rw [if_neg (by omega), Lib.decDigits.eq_def m, dif_neg h]
theorem decE_pos {m : Nat} (h : 0 < m) : decE m = decE (m / 10) ++ [decC (m % 10)] := by rw [decD, decE, if_neg (by omega)]
def sLen : Value → Nat
  | .string s => s.size
  | _ => 0
theorem sLen_str (L : List UInt8) : sLen (.string ⟨L.toArray⟩) = L.length := rfl
def decLit : ByteArray := ⟨#[48, 49, 50, 51, 52, 53, 54, 55, 56, 57]⟩
theorem decLit_at : ∀ d, d < 10 → decLit.extract d (d + 1) = ⟨#[decC d]⟩ := by decide +kernel
theorem dec_slice (m : Nat) (w : World) : (Instr.slice 9 (.string ⟨#[48, 49, 50, 51, 52, 53, 54, 55, 56, 57]⟩) (some (.int .i64 ((m : Int) % 10))) (some (.int .i64 ((m : Int) % 10 + 1))) none).run Tryd.prog w = .ok (.string ⟨#[decC (m % 10)]⟩) w := by
  have := run_slice_string (P := Tryd.prog) w 9 decLit .i64 .i64 ((m : Int) % 10) ((m : Int) % 10 + 1) Tryd.underlying9 (by omega) (by omega) (by show _ ≤ ((10 : Nat) : Int); omega)
  rw [show ((m : Int) % 10).toNat = m % 10 by omega, show ((m : Int) % 10 + 1).toNat = m % 10 + 1 by omega, decLit_at _ (by omega)] at this
  exact this
theorem cons_str (c : UInt8) (L : List UInt8) : (⟨#[c]⟩ ++ ⟨L.toArray⟩ : ByteArray) = ⟨(c :: L).toArray⟩ := by simp [ByteArray.ext_iff]
set_option maxHeartbeats 1000000 in
set_option maxRecDepth 100000 in
theorem digits_any (n : Nat) (hn : n ≤ 99999) (w : World) : Calls Tryd.prog 32 #[.int .i64 (n : Int)] w fun r w' => r = .returned (.string (strB (Lib.decDigits n))) ∧ w' = w := by
  have hL : (Lib.decDigits n).length ≤ 5 := by rw [Lib.decDigits_length]; exact nd_le 4 _ (by omega)
  have hstep := decD n
  obtain ⟨out, hout⟩ : ∃ out, Lib.decDigits n = out := ⟨_, rfl⟩
  rw [hout] at hL hstep ⊢
  have HO := Lib.hid (And.intro hstep hL)
  clear hstep hL hout
  go_enter Tryd.func32, Tryd.ntmps32
  go_wp2
  go_loopw [0, 3] (fun r s wr => ∃ (m : Nat) (L : List UInt8), r = .int .i64 m ∧ s = .string ⟨L.toArray⟩ ∧ m ≤ n ∧ (L = [] → m = n) ∧ (L ≠ [] → decE m ++ L = out) ∧ wr = w) (fun r s _ => 2 * (RowKit.intOf r).toNat + (1 - sLen s))
  case atStart => exact ⟨n, [], rfl, rfl, Nat.le_refl _, fun _ => rfl, fun h => absurd rfl h, rfl⟩
  case round =>
    obtain ⟨m, L, rfl, rfl, hm, hP, hQ, e⟩ := hrel
    obtain rfl := e.symm
    have b0 : (0 : Int) ≤ (m : Int) := by omega
    have b1 : (m : Int) ≤ 99999 := by omega
    have hs := dec_slice m
    have hLl : L.length ≤ 8 := by
      by_cases h : L = []
      · subst h; simp
      · have h1 := congrArg List.length (hQ h)
        have h2 := HO.out.2
        simp at h1
        omega
    have hnext : (L = [] ∨ 0 < m) → decE (m / 10) ++ decC (m % 10) :: L = out := fun h => by
      by_cases hl : L = []
      · subst hl
        have := hP rfl
        subst this
        exact HO.out.1
      · have h0 : 0 < m := by rcases h with h | h; exact absurd h hl; exact h
        have := hQ hl
        rw [decE_pos h0, List.append_assoc] at this
        exact this
    have hfin : L ≠ [] → m = 0 → L = out := fun h h0 => by
      have := hQ h
      rw [h0] at this
      exact this
    have HP := Lib.hid (And.intro hnext hfin)
    have HC := Lib.hid cons_str
    clear hnext hfin hP hQ
    by_cases c : 0 < m
    · have d : (0 : Int) < (m : Int) := by omega
      have HR := Lib.hid (HP.out.1 (.inr c))
      go_wp2_with fail
      rw [HC.out]
      go_roundw
      case rel => exact ⟨m / 10, decC (m % 10) :: L, by rw [Int.natCast_ediv]; rfl, rfl, by omega, fun h => by simp at h, fun _ => HR.out, trivial⟩
      case measure => rw [sLen_str, sLen_str]; simp [RowKit.intOf]; omega
    · have hm0 : m = 0 := by omega
      subst hm0
      have d : decide ((0 : Int) < ((0 : Nat) : Int)) = false := by decide
      clear c
      by_cases hl : L = []
      · subst hl
        have HR := Lib.hid (HP.out.1 (.inl rfl))
        go_wp2_with fail
        have e2 : ({ data := #[48, 49, 50, 51, 52, 53, 54, 55, 56, 57] } : ByteArray).extract 0 1 = ⟨#[decC (0 % 10)]⟩ := by decide +kernel
        rw [e2]
        have e3 : (⟨#[decC (0 % 10)]⟩ ++ ⟨#[]⟩ : ByteArray) = ⟨([decC (0 % 10)]).toArray⟩ := HC.out _ []
        rw [e3]
        go_roundw
        case rel => exact ⟨0, [decC (0 % 10)], rfl, rfl, by omega, fun h => by simp at h, fun _ => HR.out, trivial⟩
        case measure => decide
      · have hne : (L == ([] : List UInt8)) = false := by
          cases L with
          | nil => exact absurd rfl hl
          | cons a b => rfl
        have HR := Lib.hid (HP.out.2 hl rfl)
        go_wp2_with fail
        go_ret
        exact ⟨by rw [← HR.out]; rfl, rfl⟩
end Go.Proofs.YtpimadgcojgjaaaDoor
