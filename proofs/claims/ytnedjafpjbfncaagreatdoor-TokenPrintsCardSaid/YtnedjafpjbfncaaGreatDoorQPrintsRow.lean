/-
  TokenPrints HOLDS: any token has the text that the document gives it, any kind its name: for every input, in whatever memory in which the listed tables read as the library lays them.
  An argument that is a token of the document.
  TokenPrints' walk.
  Contract: virgulelaw19.num.
  Contract: virguleref01.Hex.
-/
import Derived.Lib.AppendIntMem
import Derived.Deep.Slices
import Derived.Deep.MidRow
import Derived.Lay
import Derived.LaidOnce
import Derived.LaidMore
import Derived.ChangeOld
import Derived.ShutString
import Derived.SevenTiedAt
import Derived.Test.YtnedjafpjbfncaaGreatDoorXqa
import Derived.Test.YtnedjafpjbfncaaGreatDoorXqb
import Derived.Test.YtnedjafpjbfncaaGreatDoorXqc
import Derived.Test.YtnedjafpjbfncaaGreatDoorXqd
import Derived.Test.YtnedjafpjbfncaaGreatDoorXqe
import Derived.Test.YtnedjafpjbfncaaGreatDoorXqf
import Derived.Test.YtnedjafpjbfncaaGreatDoorXqg
import Derived.Test.YtnedjafpjbfncaaGreatDoorXqh
import Derived.Test.YtnedjafpjbfncaaGreatDoorXqi
import Derived.Test.YtnedjafpjbfncaaGreatDoorXqj
import Derived.Test.YtnedjafpjbfncaaGreatDoorCards
import Derived.Test.YtnedjafpjbfncaaGreatDoorTie
namespace Go.Proofs.YtnedjafpjbfncaaGreatDoor.P
open Go.RowKit Go.Shelf
open Go.Lib

theorem hexU_lt {n : Nat} (h : n < 16) : hexU n = [upperB (hexC n)] := by unfold hexU toUpperA; rw [hexD_lt h]; rfl
theorem hexU_ge {n : Nat} (h : ¬ n < 16) : hexU n = hexU (n / 16) ++ [upperB (hexC (n % 16))] := by
  unfold hexU toUpperA
  rw [hexD_ge h, List.map_append]
  rfl
theorem pad_len (n : Nat) : (pad4 (hexU n)).length = max 4 (hexD n).length := by
  unfold pad4
  rw [List.length_append, List.length_replicate, hexU_len]
  omega
def hexUE (n : Nat) : List UInt8 := if n = 0 then [] else hexU n
theorem hexUE_pos {n : Nat} (h : 0 < n) : hexUE n = hexUE (n / 16) ++ [upperB (hexC (n % 16))] := by
  unfold hexUE
  rw [if_neg (by omega)]
  by_cases c : n < 16
  · rw [if_pos (by omega), hexU_lt c, show n % 16 = n by omega]; rfl
  · rw [if_neg (by omega), hexU_ge c]
theorem pad4_UE (n : Nat) : pad4 (hexUE n) = pad4 (hexU n) := by
  unfold hexUE
  split
  · subst n; rw [hexU_lt (by omega)]; decide +kernel
  · rfl
theorem hexUE_len (n : Nat) (h : n < 4294967296) : (hexUE n).length ≤ 8 := by
  have := (hexD_len n).2 7 (by omega)
  unfold hexUE
  split
  · simp
  · rw [hexU_len]; omega
theorem pad4_cons' (L : List UInt8) (h : L.length < 4) : pad4 (48 :: L) = pad4 L := by
  unfold pad4
  rw [show 4 - L.length = (4 - (48 :: L).length) + 1 by simp; omega, List.replicate_succ']
  simp
theorem pad4_long' (L : List UInt8) (h : 4 ≤ L.length) : pad4 L = L := by
  unfold pad4
  rw [show 4 - L.length = 0 by omega]
  rfl
def hexLitU : ByteArray := ⟨#[48, 49, 50, 51, 52, 53, 54, 55, 56, 57, 65, 66, 67, 68, 69, 70]⟩
theorem hexLitU_at : ∀ d, d < 16 → hexLitU.extract d (d + 1) = ⟨#[upperB (hexC d)]⟩ := by decide +kernel
theorem hexU_slice (m : Nat) (w : World) : (Instr.slice 9 (.string ⟨#[48, 49, 50, 51, 52, 53, 54, 55, 56, 57, 65, 66, 67, 68, 69, 70]⟩) (some (.int .i64 ((m : Int) % 16))) (some (.int .i64 ((m : Int) % 16 + 1))) none).run Tryz.prog w = .ok (.string ⟨#[upperB (hexC (m % 16))]⟩) w := by
  have := run_slice_string (P := Tryz.prog) w 9 hexLitU .i64 .i64 ((m : Int) % 16) ((m : Int) % 16 + 1) Tryz.underlying9 (by omega) (by omega) (by show _ ≤ ((16 : Nat) : Int); omega)
  rw [show ((m : Int) % 16).toNat = m % 16 by omega, show ((m : Int) % 16 + 1).toNat = m % 16 + 1 by omega, hexLitU_at _ (by omega)] at this
  exact this
theorem cons_str' (c : UInt8) (L : List UInt8) : (⟨#[c]⟩ ++ ⟨L.toArray⟩ : ByteArray) = ⟨(c :: L).toArray⟩ := by simp [ByteArray.ext_iff]
def sLen' : Value → Nat
  | .string b => b.size
  | _ => 0
theorem sLen'_str (L : List UInt8) : sLen' (.string ⟨L.toArray⟩) = L.length := rfl

set_option maxHeartbeats 1000000 in
set_option maxRecDepth 100000 in
theorem hexu_any (n : Nat) (hn : n < 4294967296) (w : World) :
    Calls Tryz.prog 16 #[.int .i64 n, .int .i64 4] w fun e w' => e = .returned (.string ⟨(pad4 (hexU n)).toArray⟩) ∧ w' = w := by
  have hE := pad4_UE n
  have hL := hexUE_len n (by omega)
  generalize pad4 (hexU n) = out at *
  have HO := Lib.hid (And.intro hE hL)
  have b0 : (0 : Int) ≤ (n : Int) := by omega
  have b1 : (n : Int) < 4294967296 := by omega
  have dn : decide ((n : Int) < 0) = false := by simp
  clear hE hL
  go_enter Tryz.func16, Tryz.ntmps16
  go_wp2
  go_loopw [0, 5] (fun r s wr => ∃ (m : Nat) (L : List UInt8), r = .int .i64 m ∧ s = .string ⟨L.toArray⟩ ∧ m ≤ n ∧ pad4 (hexUE m ++ L) = out ∧ (hexUE m ++ L).length ≤ 8 ∧ wr = w) (fun r s _ => (RowKit.intOf r).toNat + (4 - sLen' s))
  case atStart => exact ⟨n, [], rfl, rfl, Nat.le_refl _, by rw [List.append_nil]; exact HO.out.1, by rw [List.append_nil]; exact HO.out.2, rfl⟩
  case round =>
    obtain ⟨m, L, rfl, rfl, hm, hP, hLn, rfl⟩ := hrel
    have hLl : L.length ≤ 8 := by simp at hLn; omega
    have HP := Lib.hid (And.intro hP hLn)
    clear hP hLn
    have b2 : (0 : Int) ≤ (m : Int) := by omega
    have b3 : (m : Int) ≤ 4294967295 := by omega
    by_cases c : 0 < m
    · have d : (0 : Int) < (m : Int) := by omega
      have hs := hexU_slice m
      have hE := hexUE_pos c
      have HR := Lib.hid (show pad4 (hexUE (m / 16) ++ upperB (hexC (m % 16)) :: L) = out ∧ (hexUE (m / 16) ++ upperB (hexC (m % 16)) :: L).length ≤ 8 by
        have h := HP.out
        rw [hE, List.append_assoc] at h
        exact h)
      have HC := Lib.hid cons_str'
      clear hE
      go_wp2_with fail
      rw [HC.out]
      go_roundw
      case rel => exact ⟨m / 16, upperB (hexC (m % 16)) :: L, by rw [Int.natCast_ediv]; rfl, rfl, by omega, HR.out.1, HR.out.2, trivial⟩
      case measure => rw [sLen'_str, sLen'_str]; simp [RowKit.intOf]; omega
    · have hm0 : m = 0 := by omega
      subst hm0
      have e0 : hexUE 0 = [] := rfl
      rw [e0, List.nil_append] at HP
      have d : decide ((0 : Int) < ((0 : Nat) : Int)) = false := by decide
      by_cases c4 : L.length < 4
      · have d4 : (L.length : Int) < 4 := by omega
        have HC := Lib.hid cons_str'
        have HR := Lib.hid (show pad4 (hexUE 0 ++ 48 :: L) = out ∧ (hexUE 0 ++ 48 :: L).length ≤ 8 by
          rw [e0, List.nil_append, pad4_cons' L c4]
          exact ⟨HP.out.1, by simp; omega⟩)
        clear e0
        go_wp2_with fail
        have e2 : ({ data := #[48, 49, 50, 51, 52, 53, 54, 55, 56, 57, 65, 66, 67, 68, 69, 70] } : ByteArray).extract 0 1 = ⟨#[48]⟩ := by decide +kernel
        rw [e2, HC.out]
        go_roundw
        case rel => exact ⟨0, 48 :: L, rfl, rfl, by omega, HR.out.1, HR.out.2, trivial⟩
        case measure => rw [sLen'_str, sLen'_str]; simp [RowKit.intOf]; omega
      · have d4 : decide ((L.length : Int) < 4) = false := by simp; omega
        have HR := Lib.hid (show L = out by rw [← HP.out.1, pad4_long' L (by omega)])
        clear e0
        go_wp2
        go_ret
        exact ⟨by rw [← HR.out]; rfl, rfl⟩

def hexS (r : Int) : List UInt8 := (if r < 0 then [45] else []) ++ pad4 (hexU r.natAbs)
theorem scT_hexS (r : Int) : scT r = [85, 43] ++ hexS r := by unfold scT hexS; rw [List.append_assoc]
theorem hexS_len (r : Int) (h0 : -2147483648 ≤ r) (h1 : r ≤ 2147483647) : (hexS r).length ≤ 9 := by
  have := pad_len r.natAbs
  have := (hexD_len r.natAbs).2 7 (by omega)
  unfold hexS
  split <;> simp <;> omega
set_option maxRecDepth 100000 in
theorem hexs_any (r : Int) (h0 : -2147483648 ≤ r) (h1 : r ≤ 2147483647) (w : World) :
    Calls Tryz.prog 16 #[.int .i64 r, .int .i64 4] w fun e w' => e = .returned (.string ⟨(hexS r).toArray⟩) ∧ w' = w := by
  by_cases c : r < 0
  · obtain ⟨n, hn⟩ : ∃ n : Nat, r.natAbs = n := ⟨_, rfl⟩
    have C := Lib.hid (hexu_any n (by omega) w)
    have e : hexS r = 45 :: pad4 (hexU n) := by
      unfold hexS
      rw [if_pos c, hn]
      simp
    have hl := pad_len n
    have hl2 := (hexD_len n).2 7 (by omega)
    rw [e]
    have HRN := Lib.hid (show -r = (n : Int) by omega)
    have b3 : (pad4 (hexU n)).length ≤ 8 := by omega
    generalize pad4 (hexU n) = out at *
    have HC := Lib.hid cons_str'
    clear e hl hl2 hn
    go_enter Tryz.func16, Tryz.ntmps16
    go_wp2_with fail
    rw [HRN.out]
    refine C.out.mono ?_
    rintro e w1 ⟨rfl, rfl⟩
    go_wp2
    go_ret
    exact ⟨by rw [← HC.out]; rfl, rfl⟩
  · obtain ⟨n, rfl⟩ : ∃ n : Nat, r = (n : Int) := ⟨r.toNat, by omega⟩
    have e : hexS (n : Int) = pad4 (hexU n) := by
      unfold hexS
      rw [if_neg c]
      simp
    rw [e]
    exact hexu_any n (by omega) w

end Go.Proofs.YtnedjafpjbfncaaGreatDoor.P

namespace Go.Proofs.YtnedjafpjbfncaaGreatDoor
open Go.RowKit Go.Shelf Go.Lib Go.Maps Go.Great

def digC (d : Nat) : UInt8 := UInt8.ofNat (48 + d)
def decE (n : Nat) : List UInt8 := if n = 0 then [] else decDigits n
theorem dec_lt {n : Nat} (h : n < 10) : decDigits n = [UInt8.ofNat (48 + n)] := by rw [decDigits, dif_pos h]
theorem dec_ge {n : Nat} (h : ¬ n < 10) : decDigits n = decDigits (n / 10) ++ [UInt8.ofNat (48 + n % 10)] := by rw [decDigits, dif_neg h]
theorem dec_step (n : Nat) : decDigits n = decE (n / 10) ++ [digC (n % 10)] := by
  unfold digC
  unfold decE
  by_cases c : n < 10
  · rw [if_pos (by omega), dec_lt c, show n % 10 = n by omega]; rfl
  · rw [if_neg (by omega), dec_ge c]
theorem dec_len (n : Nat) : ∀ k, n < 10 ^ (k + 1) → (decDigits n).length ≤ k + 1 := by
  induction n using Nat.strongRecOn with
  | ind n ih =>
    intro k hk
    by_cases c : n < 10
    · rw [dec_lt c]; simp
    · rw [dec_ge c]
      cases k with
      | zero => simp at hk; omega
      | succ k =>
        have := ih (n / 10) (by omega) k (by rw [Nat.pow_succ] at hk; omega)
        simp
        exact this
theorem itoa_len (n : Int) (h0 : -9223372036854775808 ≤ n) (h1 : n ≤ 9223372036854775807) : (itoa n).length ≤ 30 := by
  unfold itoa
  split
  · have := dec_len n.natAbs 18 (by omega)
    simp only [List.length_cons]
    omega
  · have := dec_len n.toNat 18 (by omega)
    omega
def digLit : ByteArray := ⟨#[48, 49, 50, 51, 52, 53, 54, 55, 56, 57]⟩
theorem digLit_at : ∀ d, d < 10 → digLit.extract d (d + 1) = ⟨#[digC d]⟩ := by decide +kernel
theorem dig_slice (m : Nat) (w : World) : (Instr.slice 9 (.string ⟨#[48, 49, 50, 51, 52, 53, 54, 55, 56, 57]⟩) (some (.int .i64 ((m : Int) % 10))) (some (.int .i64 ((m : Int) % 10 + 1))) none).run Tryz.prog w = .ok (.string ⟨#[digC (m % 10)]⟩) w := by
  have := run_slice_string (P := Tryz.prog) w 9 digLit .i64 .i64 ((m : Int) % 10) ((m : Int) % 10 + 1) Tryz.underlying9 (by omega) (by omega) (by show _ ≤ ((10 : Nat) : Int); omega)
  rw [show ((m : Int) % 10).toNat = m % 10 by omega, show ((m : Int) % 10 + 1).toNat = m % 10 + 1 by omega, digLit_at _ (by omega)] at this
  exact this
theorem cons_s (c : UInt8) (L : List UInt8) : (⟨#[c]⟩ ++ ⟨L.toArray⟩ : ByteArray) = ⟨(c :: L).toArray⟩ := by simp [ByteArray.ext_iff]
def sLen9 : Value → Nat
  | .string b => b.size
  | _ => 0
theorem sLen9_str (L : List UInt8) : sLen9 (.string ⟨L.toArray⟩) = L.length := rfl
set_option maxHeartbeats 2000000 in
set_option maxRecDepth 100000 in
theorem num_pos (n : Nat) (hn : n ≤ 9223372036854775807) (w : World) : Calls Tryz.prog 15 #[.int .i64 (n : Int)] w fun e w' => e = .returned (.string ⟨(decDigits n).toArray⟩) ∧ w' = w := by
  have hlen := dec_len n 18 (by omega)
  obtain ⟨out, ho⟩ : ∃ l, decDigits n = l := ⟨_, rfl⟩
  have h00 : decide ((n : Int) < 0) = false := by simp
  rw [ho] at hlen ⊢
  have HO := Lib.hid (And.intro ho hlen)
  clear ho hlen
  go_enter Tryz.func15, Tryz.ntmps15
  go_wp2_with fail
  go_loopw [0, 5] (fun r s wr => ∃ (m : Nat) (L : List UInt8), r = .int .i64 (m : Int) ∧ s = .string ⟨L.toArray⟩ ∧ m ≤ n ∧ ((L = [] ∧ m = n) ∨ (L ≠ [] ∧ decE m ++ L = out)) ∧ wr = w) (fun r s _ => (RowKit.intOf r).toNat + (1 - sLen9 s))
  case atStart => exact ⟨n, [], rfl, rfl, Nat.le_refl _, .inl ⟨rfl, rfl⟩, rfl⟩
  case round =>
    obtain ⟨m, L, rfl, rfl, hm, hP, rfl⟩ := hrel
    have b1 : (m : Int) ≤ 9223372036854775807 := by omega
    have hL20 : L.length ≤ 19 := by
      rcases hP with ⟨rfl, _⟩ | ⟨_, h⟩
      · simp
      · have := congrArg List.length h
        have := HO.out.2
        simp at *
        omega
    have HC := Lib.hid cons_s
    by_cases c : 0 < m
    · have d : (0 : Int) < (m : Int) := by omega
      have hs := dig_slice m
      have HR := Lib.hid (show decE (m / 10) ++ (digC (m % 10) :: L) = out by
        rcases hP with ⟨rfl, rfl⟩ | ⟨_, h⟩
        · rw [← HO.out.1, dec_step m]
        · rw [← h, show decE m = decDigits m from by unfold decE; rw [if_neg (by omega)], dec_step m, List.append_assoc]
          rfl)
      clear hP
      go_wp2_with fail
      rw [HC.out]
      go_roundw
      case rel => exact ⟨m / 10, digC (m % 10) :: L, by rw [Int.natCast_ediv]; rfl, rfl, by omega, .inr ⟨by simp, HR.out⟩, trivial⟩
      case measure => rw [sLen9_str, sLen9_str]; simp [RowKit.intOf]; omega
    · have hm0 : m = 0 := by omega
      subst hm0
      have d : decide ((0 : Int) < ((0 : Nat) : Int)) = false := by decide
      cases L with
      | nil =>
        have HR := Lib.hid (show decE 0 ++ [48] = out by
          rcases hP with ⟨_, h⟩ | ⟨h, _⟩
          · subst h
            rw [← HO.out.1, dec_lt (by omega)]
            rfl
          · exact absurd rfl h)
        clear hP
        go_wp2_with fail
        have e2 : ({ data := #[48, 49, 50, 51, 52, 53, 54, 55, 56, 57] } : ByteArray).extract 0 1 = ⟨#[48]⟩ := by decide +kernel
        rw [e2]
        go_roundw
        case rel => exact ⟨0, [48], rfl, rfl, by omega, .inr ⟨by simp, HR.out⟩, trivial⟩
        case measure =>
          simp [RowKit.intOf, sLen9]
          decide
      | cons c0 L0 =>
        have HR := Lib.hid (show (c0 :: L0) = out by
          rcases hP with ⟨h, _⟩ | ⟨_, h⟩
          · cases h
          · exact h)
        clear hP
        have hne : ((⟨(c0 :: L0).toArray⟩ : ByteArray).toList == ([] : List UInt8)) = false := by simp
        obtain ⟨SB, hSB⟩ : ∃ Z : ByteArray, ⟨(c0 :: L0).toArray⟩ = Z := ⟨_, rfl⟩
        rw [hSB] at hne ⊢
        have HB := Lib.hid hSB
        clear hSB
        go_wp2_with fail
        go_ret
        exact ⟨by rw [← HR.out, HB.out]; rfl, rfl⟩
theorem dig_slice' (d : Nat) (h : d < 10) (w : World) : (Instr.slice 9 (.string ⟨#[48, 49, 50, 51, 52, 53, 54, 55, 56, 57]⟩) (some (.int .i64 (d : Int))) (some (.int .i64 ((d : Int) + 1))) none).run Tryz.prog w = .ok (.string ⟨#[digC d]⟩) w := by
  have := run_slice_string (P := Tryz.prog) w 9 digLit .i64 .i64 (d : Int) ((d : Int) + 1) Tryz.underlying9 (by omega) (by omega) (by show _ ≤ ((10 : Nat) : Int); omega)
  rw [show ((d : Int)).toNat = d by omega, show ((d : Int) + 1).toNat = d + 1 by omega, digLit_at _ h] at this
  exact this
set_option maxHeartbeats 2000000 in
set_option maxRecDepth 100000 in
theorem num_neg (n : Nat) (h0 : 0 < n) (hn : n ≤ 9223372036854775808) (w : World) : Calls Tryz.prog 15 #[.int .i64 (-(n : Int))] w fun e w' => e = .returned (.string ⟨(45 :: decDigits n).toArray⟩) ∧ w' = w := by
  have hlen := dec_len n 18 (by omega)
  obtain ⟨out, ho⟩ : ∃ l, decDigits n = l := ⟨_, rfl⟩
  have h00 : -(n : Int) < 0 := by omega
  rw [ho] at hlen ⊢
  have HO := Lib.hid (And.intro (show decE n ++ [] = out by unfold decE; rw [if_neg (by omega), List.append_nil]; exact ho) hlen)
  clear ho hlen
  go_enter Tryz.func15, Tryz.ntmps15
  go_wp2_with fail
  go_loopw [0, 3, 4] (fun r s _ wr => ∃ (m : Nat) (L : List UInt8), r = .int .i64 (-(m : Int)) ∧ s = .string ⟨L.toArray⟩ ∧ m ≤ n ∧ decE m ++ L = out ∧ wr = w) (fun r _ _ _ => (RowKit.intOf r).natAbs)
  case atStart => exact ⟨n, [], rfl, rfl, Nat.le_refl _, HO.out.1, rfl⟩
  case round =>
    obtain ⟨m, L, rfl, rfl, hm, hP, rfl⟩ := hrel
    have b1 : -9223372036854775808 ≤ -(m : Int) := by omega
    have hL20 : L.length ≤ 19 := by
      have := congrArg List.length hP
      have := HO.out.2
      simp at *
      omega
    have HC := Lib.hid cons_s
    by_cases c : m = 0
    · have HR := Lib.hid (show L = out by rw [← hP, c]; rfl)
      have d : (-(m : Int) != 0) = false := by simp; omega
      obtain ⟨SB, hSB⟩ : ∃ Z : ByteArray, ⟨L.toArray⟩ = Z := ⟨_, rfl⟩
      have hz : SB.size ≤ 19 := by rw [← hSB]; exact hL20
      rw [hSB]
      have HB := Lib.hid hSB
      clear hSB hP c
      go_wp2_with fail
      go_ret
      refine ⟨?_, rfl⟩
      rw [← HR.out, ← HB.out, ← HC.out]
      rfl
    · have d : (-(m : Int) != 0) = true := by simp; omega
      obtain ⟨D, hD⟩ : ∃ x, m % 10 = x := ⟨_, rfl⟩
      obtain ⟨Q, hQ⟩ : ∃ x, m / 10 = x := ⟨_, rfl⟩
      have hr : Int.tmod (-(m : Int)) 10 = -(D : Int) := by rw [Int.neg_tmod, Int.tmod_eq_emod_of_nonneg (by omega)]; omega
      have hq : Int.tdiv (-(m : Int)) 10 = -(Q : Int) := by rw [Int.neg_tdiv, Int.tdiv_eq_ediv_of_nonneg (by omega)]; omega
      have hD10 : D < 10 := by omega
      have hQm : Q < m := by omega
      have hs := dig_slice' D hD10
      have HR := Lib.hid (show decE Q ++ (digC D :: L) = out by
        rw [← hP, show decE m = decDigits m from by unfold decE; rw [if_neg c], dec_step m, List.append_assoc, hD, hQ]
        rfl)
      clear hP hD hQ
      go_wp2_with fail
      rw [HC.out]
      go_roundw
      case rel => exact ⟨Q, digC D :: L, rfl, rfl, by omega, HR.out, trivial⟩
      case measure => simp [RowKit.intOf]; omega
theorem num_any (n : Int) (h0 : -9223372036854775808 ≤ n) (h1 : n ≤ 9223372036854775807) (w : World) : Calls Tryz.prog 15 #[.int .i64 n] w fun e w' => e = .returned (.string ⟨(itoa n).toArray⟩) ∧ w' = w := by
  unfold itoa
  by_cases c : n < 0
  · rw [if_pos c]
    obtain ⟨m, hm⟩ : ∃ m : Nat, n = -(m : Int) := ⟨n.natAbs, by omega⟩
    rw [show n.natAbs = m by omega]
    subst hm
    exact num_neg m (by omega) (by omega) w
  · rw [if_neg c]
    obtain ⟨m, rfl⟩ : ∃ m : Nat, n = (m : Int) := ⟨n.toNat, by omega⟩
    rw [Int.toNat_natCast]
    exact num_pos m (by omega) w
end Go.Proofs.YtnedjafpjbfncaaGreatDoor

namespace Go.Proofs.YtnedjafpjbfncaaGreatDoor
open Go.RowKit Go.Shelf Go.Lib Go.Maps Go.Great
open Go.Sort (grow)

theorem PT.on {w w' : World} (h : PT w) (hb : Below w.heap.size w w') : PT w' := Lib.tabBelow_of_tabIs h w' hb
theorem below_rn (w : World) (k : Nat) (os : Array Obj) : Below w.heap.size w (grow (w.drewN k) os) :=
  ⟨rfl, rfl, rfl, by simp [grow], fun i hi => by
    show ((w.drewN k).heap ++ os)[i]? = _
    rw [Array.getElem?_append_left (by simpa using hi)]
    rfl⟩
theorem itoa_at (n : Int) (h0 : -9223372036854775808 ≤ n) (h1 : n ≤ 9223372036854775807) (w : World) (h : PT w) : ItoaAt w n := fun W hb => by
  refine (Tryz.strconv_Itoa n h0 h1 W (h.on hb)).mono ?_
  rintro e w' ⟨h, k, os, rfl⟩
  exact ⟨h, below_rn W k os⟩
set_option maxHeartbeats 4000000 in
set_option maxRecDepth 100000 in
theorem Print_no (k : Int) (h : ¬ (0 ≤ k ∧ k < 8)) (f t : Int) (SS : ByteArray) (r : Int) (sg : Bool) (w : World) :
    Calls Tryz.prog 14 #[.agg #[.int .i64 k, .int .i64 f, .int .i64 t, .string SS, .int .i32 r, .bool sg]] w fun e w' => e = .returned (.string ⟨#[]⟩) ∧ Below w.heap.size w w' := by
  have C := Lib.hid (fun W => Kind_no k h W)
  have HB := Lib.hid (below_new w (.cells #[.int .i64 k, .int .i64 f, .int .i64 t, .string SS, .int .i32 r, .bool sg] 30))
  go_enter Tryz.func14, Tryz.ntmps14
  go_wp2_with fail
  refine (C.out _).mono ?_
  rintro e w2 ⟨rfl, hw⟩
  rw [hw]
  clear hw
  go_wp2_with fail
  go_ret
  exact ⟨rfl, HB.out⟩
set_option maxHeartbeats 16000000 in
set_option maxRecDepth 100000 in
theorem printsLaw (k f t : Int) (hk0 : -9223372036854775808 ≤ k) (hk1 : k ≤ 9223372036854775807) (hf0 : -9223372036854775808 ≤ f) (hf1 : f ≤ 9223372036854775807) (ht0 : -9223372036854775808 ≤ t) (ht1 : t ≤ 9223372036854775807) (SS : ByteArray) (hSm : SS.size ≤ 9223372036854775807) (r : Int) (hr : -2147483648 ≤ r ∧ r ≤ 2147483647) (sg cl : Bool) (w : World) (hM : G.MX w) (hT : S.Tabs w) (hZ : P.TZ w) (hP : PT w) :
    Calls Tryz.prog 6 #[.agg #[.int .i64 k, .int .i64 f, .int .i64 t, .string SS, .int .i32 r, .bool sg, .bool cl]] w fun e w' => e = .returned (.bool true) ∧ Below w.heap.size w w' := by
  obtain ⟨W1, hW1⟩ : ∃ Z, w.alloc (.cells #[.int .i64 k, .int .i64 f, .int .i64 t, .string SS, .int .i32 r, .bool sg, .bool cl] 33) = Z := ⟨_, rfl⟩
  have b1 : Below w.heap.size w W1 := by rw [← hW1]; exact below_new _ _
  have x1 : Cells W1 w.heap.size 33 #[.int .i64 k, .int .i64 f, .int .i64 t, .string SS, .int .i32 r, .bool sg, .bool cl] := by rw [← hW1]; exact cells_new _ _ _
  have AW := awake_any W1 (hM.on hM.pos b1) (hT.below b1 (by have := hT.2; omega)) (hZ.below b1)
  have p3 := x1.cell 3
  simp at p3
  have HH := Lib.hid (And.intro AW (And.intro b1 (And.intro x1 (And.intro hZ hP))))
  clear AW b1 x1 hM hT hZ hP
  by_cases c : 60 < SS.size
  · have c1 : (60 : Int) < (SS.size : Int) := by omega
    go_enter Tryz.func6, Tryz.ntmps6
    go_wp2_with fail
    refine HH.out.1.mono ?_
    rintro e w1 ⟨rfl, hb⟩
    have HB := Lib.hid (HH.out.2.1.trans (hb.mono HH.out.2.1.size))
    clear hb
    go_wp2_with fail
    go_ret
    exact ⟨rfl, HB.out⟩
  · have c1 : decide ((60 : Int) < (SS.size : Int)) = false := by rw [decide_eq_false_iff_not]; omega
    have hS60 : SS.size ≤ 60 := by omega
    go_enter Tryz.func6, Tryz.ntmps6
    go_wp2_with fail
    refine HH.out.1.mono ?_
    rintro e w2 ⟨rfl, hb2⟩
    have b2 := HH.out.2.1.trans (hb2.mono HH.out.2.1.size)
    have x2 := HH.out.2.2.1.on hb2
    have p0 := x2.cell 0
    have p1 := x2.cell 1
    have p2 := x2.cell 2
    have p3 := x2.cell 3
    have p4 := x2.cell 4
    have p5 := x2.cell 5
    simp at p0 p1 p2 p3 p4 p5
    have H2 := Lib.hid (And.intro b2 x2)
    clear b2 x2 hb2
    by_cases hk : 0 ≤ k ∧ k < 8
    case neg =>
      have CP := Lib.hid (Print_no k hk f t SS r sg w2)
      have CK := Lib.hid (fun W => Kind_no k hk W)
      go_wp2_with fail
      refine CP.out.mono ?_
      rintro e w3 ⟨rfl, hb3⟩
      have x3 := H2.out.2.on hb3
      have q0 := x3.cell 0
      simp at q0
      have HB := Lib.hid (H2.out.1.trans (hb3.mono H2.out.1.size))
      clear x3 hb3 p0 p1 p2 p3 p4 p5
      by_cases hkn : k < 0
      · clear hk
        go_wp2_with fail
        refine (CK.out w3).mono ?_
        rintro e w4 ⟨rfl, hw⟩
        rw [hw]
        clear hw
        go_wp2_with fail
        go_ret
        exact ⟨rfl, HB.out⟩
      · have d : decide (k < 0) = false := by rw [decide_eq_false_iff_not]; exact hkn
        have d7 : (7 : Int) < k := by omega
        clear hk hkn
        go_wp2_with fail
        refine (CK.out w3).mono ?_
        rintro e w4 ⟨rfl, hw⟩
        rw [hw]
        clear hw
        go_wp2_with fail
        go_ret
        exact ⟨rfl, HB.out⟩
    case pos =>
      obtain ⟨K, rfl⟩ : ∃ K : Nat, k = (K : Int) := ⟨k.toNat, by omega⟩
      have hK : K < 8 := by omega
      have hlf := itoa_len f hf0 hf1
      have hlt := itoa_len t ht0 ht1
      have hP2 := HH.out.2.2.2.2.on H2.out.1
      have CP := Print_any K hK f t SS r hr sg w2 (itoa_at f hf0 hf1 w2 hP2) (itoa_at t ht0 ht1 w2 hP2) (HH.out.2.2.2.1.below H2.out.1) hlf hlt (by omega)
      have CK := Lib.hid (fun W => Kind_any K hK W)
      have DF := fun W => num_any f hf0 hf1 W
      have DT := fun W => num_any t ht0 ht1 W
      have CH := fun W => P.hexs_any r hr.1 hr.2 W
      have hhl := P.hexS_len r hr.1 hr.2
      have hsc := P.scT_hexS r
      obtain ⟨SF, hSF⟩ : ∃ Z : ByteArray, ⟨(itoa f).toArray⟩ = Z := ⟨_, rfl⟩
      obtain ⟨ST, hST⟩ : ∃ Z : ByteArray, ⟨(itoa t).toArray⟩ = Z := ⟨_, rfl⟩
      obtain ⟨SH, hSH⟩ : ∃ Z : ByteArray, ⟨(P.hexS r).toArray⟩ = Z := ⟨_, rfl⟩
      have z2 : SF.size ≤ 30 := by rw [← hSF]; exact hlf
      have z3 : ST.size ≤ 30 := by rw [← hST]; exact hlt
      have z4 : SH.size ≤ 9 := by rw [← hSH]; exact hhl
      obtain ⟨Z, hZ⟩ : ∃ Z : ByteArray, ⟨(printB K f t SS.data.toList r sg).toArray⟩ = Z := ⟨_, rfl⟩
      rw [hSF] at DF
      rw [hST] at DT
      rw [hSH] at CH
      rw [hZ] at CP
      have HE := Lib.hid (And.intro hSF (And.intro hST (And.intro hSH (And.intro hZ hsc))))
      have HC := Lib.hid (And.intro DF (And.intro DT CH))
      have CP := Lib.hid CP
      clear hSF hST hSH hZ hsc DF DT CH hP2 hlf hlt hhl
      have hK2 : K < 8 := hK
      obtain rfl | rfl | rfl | rfl | rfl | rfl | rfl | rfl : K = 0 ∨ K = 1 ∨ K = 2 ∨ K = 3 ∨ K = 4 ∨ K = 5 ∨ K = 6 ∨ K = 7 := by omega
      · clear hk hK hK2 hk0 hk1
        go_wp2_with fail
        refine CP.out.mono ?_
        rintro e w3 ⟨rfl, hb3⟩
        obtain ⟨W4, hW4⟩ : ∃ X, w3.alloc (.cells #[.string ⟨#[116, 101, 120, 116]⟩, .string ⟨#[114, 101, 102]⟩, .string ⟨#[115, 116, 97, 114, 116]⟩, .string ⟨#[101, 110, 100]⟩, .string ⟨#[99, 111, 109, 109, 101, 110, 116]⟩, .string ⟨#[100, 101, 99, 108]⟩, .string ⟨#[101, 115, 99, 97, 112, 101]⟩, .string ⟨#[114, 97, 119]⟩] 9) = X := ⟨_, rfl⟩
        have b4 : Below w3.heap.size w3 W4 := by rw [← hW4]; exact below_new _ _
        have xs4 : Cells W4 w3.heap.size 9 #[.string ⟨#[116, 101, 120, 116]⟩, .string ⟨#[114, 101, 102]⟩, .string ⟨#[115, 116, 97, 114, 116]⟩, .string ⟨#[101, 110, 100]⟩, .string ⟨#[99, 111, 109, 109, 101, 110, 116]⟩, .string ⟨#[100, 101, 99, 108]⟩, .string ⟨#[101, 115, 99, 97, 112, 101]⟩, .string ⟨#[114, 97, 119]⟩] := by rw [← hW4]; exact cells_new _ _ _
        have us := xs4.cell 0
        simp at us
        clear xs4
        have x3 := H2.out.2.on hb3
        have x4 := x3.on b4
        have b3 := H2.out.1.trans (hb3.mono H2.out.1.size)
        have bw4 := b3.trans (b4.mono b3.size)
        have q0 := x3.cell 0
        have u0 := x4.cell 0
        have u1 := x4.cell 1
        have u2 := x4.cell 2
        simp at q0 u0 u1 u2
        have r0 := cell_regrown u0
        have r1 := cell_regrown u1
        have r2 := cell_regrown u2
        have DF : ∀ d os, Calls Tryz.prog 15 #[.int .i64 f] (grow (redrawn W4 d) os) fun e w'' => e = .returned (.string SF) ∧ ∃ p : Regrown, w'' = grow (redrawn W4 p.d) p.os := fun d os =>
          Calls.regrown_of ((HC.out.1 _).mono fun e w' h => ⟨h.1, by rw [h.2]; exact Below.refl _ _⟩)
        have DT : ∀ d os, Calls Tryz.prog 15 #[.int .i64 t] (grow (redrawn W4 d) os) fun e w'' => e = .returned (.string ST) ∧ ∃ p : Regrown, w'' = grow (redrawn W4 p.d) p.os := fun d os =>
          Calls.regrown_of ((HC.out.2.1 _).mono fun e w' h => ⟨h.1, by rw [h.2]; exact Below.refl _ _⟩)
        have H4 := Lib.hid (And.intro x4 bw4)
        clear x3 x4 b3 b4 bw4 hb3 p0 p1 p2 p3 p4 p5
        go_wp2_with fail
        refine wp_region_quiet_below (by kernel_rfl) (by kernel_rfl) ?_
        repeat (go_big_quiet_step (with_reducible first | exact DF _ _ | exact DT _ _))
        refine wpQuiet_nil ?_
        intro _ hw'
        obtain ⟨⟨dq, osq⟩, hw''⟩ := hw'
        subst hw''
        obtain ⟨W5, hW5⟩ : ∃ W, grow (redrawn W4 dq) osq = W := ⟨_, rfl⟩
        have b5 : Below W4.heap.size W4 W5 := by rw [← hW5]; exact below_regrown W4 dq osq
        have x5 := H4.out.1.on b5
        have v0 := x5.cell 0
        have v3 := x5.cell 3
        have v4 := x5.cell 4
        have v5 := x5.cell 5
        simp at v0 v3 v4 v5
        have HB := Lib.hid (H4.out.2.trans (b5.mono H4.out.2.size))
        clear DF DT x5 b5 u0 u1 u2 r0 r1 r2 q0
        simp only [hW5]
        clear hW5
        obtain ⟨Z0, hZ0⟩ : ∃ X : ByteArray, ⟨#[116, 101, 120, 116]⟩ ++ ⟨#[32]⟩ ++ SF ++ ⟨#[32]⟩ ++ ST = X := ⟨_, rfl⟩
        have y0 : Z0.size ≤ 80 := by rw [← hZ0]; simp only [ByteArray.size_append]; have h1 : (⟨#[116, 101, 120, 116]⟩ : ByteArray).size ≤ 10 := by decide
                                     have h2 : (⟨#[32]⟩ : ByteArray).size = 1 := by decide
                                     omega
        have hE : Z0 = Z := by
          rw [← HE.out.2.2.2.1, ← hZ0, ← HE.out.1, ← HE.out.2.1]
          simp [ByteArray.ext_iff, printB, kindB]
        subst hE
        go_wp2_with fail
        refine (CK.out W5).mono ?_
        rintro e w6 ⟨rfl, hw⟩
        rw [hw]
        clear hw
        go_wp2_with fail
        go_ret
        exact ⟨by first | rfl | simp, HB.out⟩
      · clear hk hK hK2 hk0 hk1
        go_wp2_with fail
        refine CP.out.mono ?_
        rintro e w3 ⟨rfl, hb3⟩
        obtain ⟨W4, hW4⟩ : ∃ X, w3.alloc (.cells #[.string ⟨#[116, 101, 120, 116]⟩, .string ⟨#[114, 101, 102]⟩, .string ⟨#[115, 116, 97, 114, 116]⟩, .string ⟨#[101, 110, 100]⟩, .string ⟨#[99, 111, 109, 109, 101, 110, 116]⟩, .string ⟨#[100, 101, 99, 108]⟩, .string ⟨#[101, 115, 99, 97, 112, 101]⟩, .string ⟨#[114, 97, 119]⟩] 9) = X := ⟨_, rfl⟩
        have b4 : Below w3.heap.size w3 W4 := by rw [← hW4]; exact below_new _ _
        have xs4 : Cells W4 w3.heap.size 9 #[.string ⟨#[116, 101, 120, 116]⟩, .string ⟨#[114, 101, 102]⟩, .string ⟨#[115, 116, 97, 114, 116]⟩, .string ⟨#[101, 110, 100]⟩, .string ⟨#[99, 111, 109, 109, 101, 110, 116]⟩, .string ⟨#[100, 101, 99, 108]⟩, .string ⟨#[101, 115, 99, 97, 112, 101]⟩, .string ⟨#[114, 97, 119]⟩] := by rw [← hW4]; exact cells_new _ _ _
        have us := xs4.cell 1
        simp at us
        clear xs4
        have x3 := H2.out.2.on hb3
        have x4 := x3.on b4
        have b3 := H2.out.1.trans (hb3.mono H2.out.1.size)
        have bw4 := b3.trans (b4.mono b3.size)
        have q0 := x3.cell 0
        have u0 := x4.cell 0
        have u1 := x4.cell 1
        have u2 := x4.cell 2
        simp at q0 u0 u1 u2
        have r0 := cell_regrown u0
        have r1 := cell_regrown u1
        have r2 := cell_regrown u2
        have DF : ∀ d os, Calls Tryz.prog 15 #[.int .i64 f] (grow (redrawn W4 d) os) fun e w'' => e = .returned (.string SF) ∧ ∃ p : Regrown, w'' = grow (redrawn W4 p.d) p.os := fun d os =>
          Calls.regrown_of ((HC.out.1 _).mono fun e w' h => ⟨h.1, by rw [h.2]; exact Below.refl _ _⟩)
        have DT : ∀ d os, Calls Tryz.prog 15 #[.int .i64 t] (grow (redrawn W4 d) os) fun e w'' => e = .returned (.string ST) ∧ ∃ p : Regrown, w'' = grow (redrawn W4 p.d) p.os := fun d os =>
          Calls.regrown_of ((HC.out.2.1 _).mono fun e w' h => ⟨h.1, by rw [h.2]; exact Below.refl _ _⟩)
        have H4 := Lib.hid (And.intro x4 bw4)
        clear x3 x4 b3 b4 bw4 hb3 p0 p1 p2 p3 p4 p5
        go_wp2_with fail
        refine wp_region_quiet_below (by kernel_rfl) (by kernel_rfl) ?_
        repeat (go_big_quiet_step (with_reducible first | exact DF _ _ | exact DT _ _))
        refine wpQuiet_nil ?_
        intro _ hw'
        obtain ⟨⟨dq, osq⟩, hw''⟩ := hw'
        subst hw''
        obtain ⟨W5, hW5⟩ : ∃ W, grow (redrawn W4 dq) osq = W := ⟨_, rfl⟩
        have b5 : Below W4.heap.size W4 W5 := by rw [← hW5]; exact below_regrown W4 dq osq
        have x5 := H4.out.1.on b5
        have v0 := x5.cell 0
        have v3 := x5.cell 3
        have v4 := x5.cell 4
        have v5 := x5.cell 5
        simp at v0 v3 v4 v5
        have HB := Lib.hid (H4.out.2.trans (b5.mono H4.out.2.size))
        clear DF DT x5 b5 u0 u1 u2 r0 r1 r2 q0
        simp only [hW5]
        clear hW5
        obtain ⟨Z0, hZ0⟩ : ∃ X : ByteArray, ⟨#[114, 101, 102]⟩ ++ ⟨#[32]⟩ ++ SF ++ ⟨#[32]⟩ ++ ST = X := ⟨_, rfl⟩
        have y0 : Z0.size ≤ 80 := by rw [← hZ0]; simp only [ByteArray.size_append]; have h1 : (⟨#[114, 101, 102]⟩ : ByteArray).size ≤ 10 := by decide
                                     have h2 : (⟨#[32]⟩ : ByteArray).size = 1 := by decide
                                     omega
        have hE : Z0 ++ ⟨#[32, 85, 43]⟩ ++ SH = Z := by
          rw [← HE.out.2.2.2.1, ← hZ0, ← HE.out.1, ← HE.out.2.1, ← HE.out.2.2.1]
          simp [ByteArray.ext_iff, printB, kindB, HE.out.2.2.2.2]
        have hwr : IntKind.i64.wrap r = r := by
          unfold IntKind.wrap
          simp [IntKind.signed, IntKind.bits]
          omega
        go_wp2_with fail
        refine (HC.out.2.2 W5).mono ?_
        rintro e w6 ⟨rfl, hw⟩
        rw [hw]
        clear hw
        go_wp2_with fail
        refine (CK.out W5).mono ?_
        rintro e w6 ⟨rfl, hw⟩
        rw [hw]
        clear hw
        go_wp2_with fail
        go_ret
        exact ⟨by first | rfl | simp, HB.out⟩
      · clear hk hK hK2 hk0 hk1
        go_wp2_with fail
        refine CP.out.mono ?_
        rintro e w3 ⟨rfl, hb3⟩
        obtain ⟨W4, hW4⟩ : ∃ X, w3.alloc (.cells #[.string ⟨#[116, 101, 120, 116]⟩, .string ⟨#[114, 101, 102]⟩, .string ⟨#[115, 116, 97, 114, 116]⟩, .string ⟨#[101, 110, 100]⟩, .string ⟨#[99, 111, 109, 109, 101, 110, 116]⟩, .string ⟨#[100, 101, 99, 108]⟩, .string ⟨#[101, 115, 99, 97, 112, 101]⟩, .string ⟨#[114, 97, 119]⟩] 9) = X := ⟨_, rfl⟩
        have b4 : Below w3.heap.size w3 W4 := by rw [← hW4]; exact below_new _ _
        have xs4 : Cells W4 w3.heap.size 9 #[.string ⟨#[116, 101, 120, 116]⟩, .string ⟨#[114, 101, 102]⟩, .string ⟨#[115, 116, 97, 114, 116]⟩, .string ⟨#[101, 110, 100]⟩, .string ⟨#[99, 111, 109, 109, 101, 110, 116]⟩, .string ⟨#[100, 101, 99, 108]⟩, .string ⟨#[101, 115, 99, 97, 112, 101]⟩, .string ⟨#[114, 97, 119]⟩] := by rw [← hW4]; exact cells_new _ _ _
        have us := xs4.cell 2
        simp at us
        clear xs4
        have x3 := H2.out.2.on hb3
        have x4 := x3.on b4
        have b3 := H2.out.1.trans (hb3.mono H2.out.1.size)
        have bw4 := b3.trans (b4.mono b3.size)
        have q0 := x3.cell 0
        have u0 := x4.cell 0
        have u1 := x4.cell 1
        have u2 := x4.cell 2
        simp at q0 u0 u1 u2
        have r0 := cell_regrown u0
        have r1 := cell_regrown u1
        have r2 := cell_regrown u2
        have DF : ∀ d os, Calls Tryz.prog 15 #[.int .i64 f] (grow (redrawn W4 d) os) fun e w'' => e = .returned (.string SF) ∧ ∃ p : Regrown, w'' = grow (redrawn W4 p.d) p.os := fun d os =>
          Calls.regrown_of ((HC.out.1 _).mono fun e w' h => ⟨h.1, by rw [h.2]; exact Below.refl _ _⟩)
        have DT : ∀ d os, Calls Tryz.prog 15 #[.int .i64 t] (grow (redrawn W4 d) os) fun e w'' => e = .returned (.string ST) ∧ ∃ p : Regrown, w'' = grow (redrawn W4 p.d) p.os := fun d os =>
          Calls.regrown_of ((HC.out.2.1 _).mono fun e w' h => ⟨h.1, by rw [h.2]; exact Below.refl _ _⟩)
        have H4 := Lib.hid (And.intro x4 bw4)
        clear x3 x4 b3 b4 bw4 hb3 p0 p1 p2 p3 p4 p5
        go_wp2_with fail
        refine wp_region_quiet_below (by kernel_rfl) (by kernel_rfl) ?_
        repeat (go_big_quiet_step (with_reducible first | exact DF _ _ | exact DT _ _))
        refine wpQuiet_nil ?_
        intro _ hw'
        obtain ⟨⟨dq, osq⟩, hw''⟩ := hw'
        subst hw''
        obtain ⟨W5, hW5⟩ : ∃ W, grow (redrawn W4 dq) osq = W := ⟨_, rfl⟩
        have b5 : Below W4.heap.size W4 W5 := by rw [← hW5]; exact below_regrown W4 dq osq
        have x5 := H4.out.1.on b5
        have v0 := x5.cell 0
        have v3 := x5.cell 3
        have v4 := x5.cell 4
        have v5 := x5.cell 5
        simp at v0 v3 v4 v5
        have HB := Lib.hid (H4.out.2.trans (b5.mono H4.out.2.size))
        clear DF DT x5 b5 u0 u1 u2 r0 r1 r2 q0
        simp only [hW5]
        clear hW5
        obtain ⟨Z0, hZ0⟩ : ∃ X : ByteArray, ⟨#[115, 116, 97, 114, 116]⟩ ++ ⟨#[32]⟩ ++ SF ++ ⟨#[32]⟩ ++ ST = X := ⟨_, rfl⟩
        have y0 : Z0.size ≤ 80 := by rw [← hZ0]; simp only [ByteArray.size_append]; have h1 : (⟨#[115, 116, 97, 114, 116]⟩ : ByteArray).size ≤ 10 := by decide
                                     have h2 : (⟨#[32]⟩ : ByteArray).size = 1 := by decide
                                     omega
        obtain ⟨Z1, hZ1⟩ : ∃ X : ByteArray, Z0 ++ ⟨#[32]⟩ ++ SS = X := ⟨_, rfl⟩
        have y1 : Z1.size ≤ 150 := by rw [← hZ1]; simp only [ByteArray.size_append]; have h2 : (⟨#[32]⟩ : ByteArray).size = 1 := by decide
                                      omega
        cases sg with
        | false =>
          have hE : Z1 = Z := by
            rw [← HE.out.2.2.2.1, ← hZ1, ← hZ0, ← HE.out.1, ← HE.out.2.1]
            simp [ByteArray.ext_iff, printB, kindB]
          subst hE
          go_wp2_with fail
          refine (CK.out W5).mono ?_
          rintro e w6 ⟨rfl, hw⟩
          rw [hw]
          clear hw
          go_wp2_with fail
          go_ret
          exact ⟨by first | rfl | simp, HB.out⟩
        | true =>
          have hE : Z1 ++ ⟨#[32, 47]⟩ = Z := by
            rw [← HE.out.2.2.2.1, ← hZ1, ← hZ0, ← HE.out.1, ← HE.out.2.1]
            simp [ByteArray.ext_iff, printB, kindB]
          go_wp2_with fail
          refine (CK.out W5).mono ?_
          rintro e w6 ⟨rfl, hw⟩
          rw [hw]
          clear hw
          go_wp2_with fail
          go_ret
          exact ⟨by first | rfl | simp, HB.out⟩
      · clear hk hK hK2 hk0 hk1
        go_wp2_with fail
        refine CP.out.mono ?_
        rintro e w3 ⟨rfl, hb3⟩
        obtain ⟨W4, hW4⟩ : ∃ X, w3.alloc (.cells #[.string ⟨#[116, 101, 120, 116]⟩, .string ⟨#[114, 101, 102]⟩, .string ⟨#[115, 116, 97, 114, 116]⟩, .string ⟨#[101, 110, 100]⟩, .string ⟨#[99, 111, 109, 109, 101, 110, 116]⟩, .string ⟨#[100, 101, 99, 108]⟩, .string ⟨#[101, 115, 99, 97, 112, 101]⟩, .string ⟨#[114, 97, 119]⟩] 9) = X := ⟨_, rfl⟩
        have b4 : Below w3.heap.size w3 W4 := by rw [← hW4]; exact below_new _ _
        have xs4 : Cells W4 w3.heap.size 9 #[.string ⟨#[116, 101, 120, 116]⟩, .string ⟨#[114, 101, 102]⟩, .string ⟨#[115, 116, 97, 114, 116]⟩, .string ⟨#[101, 110, 100]⟩, .string ⟨#[99, 111, 109, 109, 101, 110, 116]⟩, .string ⟨#[100, 101, 99, 108]⟩, .string ⟨#[101, 115, 99, 97, 112, 101]⟩, .string ⟨#[114, 97, 119]⟩] := by rw [← hW4]; exact cells_new _ _ _
        have us := xs4.cell 3
        simp at us
        clear xs4
        have x3 := H2.out.2.on hb3
        have x4 := x3.on b4
        have b3 := H2.out.1.trans (hb3.mono H2.out.1.size)
        have bw4 := b3.trans (b4.mono b3.size)
        have q0 := x3.cell 0
        have u0 := x4.cell 0
        have u1 := x4.cell 1
        have u2 := x4.cell 2
        simp at q0 u0 u1 u2
        have r0 := cell_regrown u0
        have r1 := cell_regrown u1
        have r2 := cell_regrown u2
        have DF : ∀ d os, Calls Tryz.prog 15 #[.int .i64 f] (grow (redrawn W4 d) os) fun e w'' => e = .returned (.string SF) ∧ ∃ p : Regrown, w'' = grow (redrawn W4 p.d) p.os := fun d os =>
          Calls.regrown_of ((HC.out.1 _).mono fun e w' h => ⟨h.1, by rw [h.2]; exact Below.refl _ _⟩)
        have DT : ∀ d os, Calls Tryz.prog 15 #[.int .i64 t] (grow (redrawn W4 d) os) fun e w'' => e = .returned (.string ST) ∧ ∃ p : Regrown, w'' = grow (redrawn W4 p.d) p.os := fun d os =>
          Calls.regrown_of ((HC.out.2.1 _).mono fun e w' h => ⟨h.1, by rw [h.2]; exact Below.refl _ _⟩)
        have H4 := Lib.hid (And.intro x4 bw4)
        clear x3 x4 b3 b4 bw4 hb3 p0 p1 p2 p3 p4 p5
        go_wp2_with fail
        refine wp_region_quiet_below (by kernel_rfl) (by kernel_rfl) ?_
        repeat (go_big_quiet_step (with_reducible first | exact DF _ _ | exact DT _ _))
        refine wpQuiet_nil ?_
        intro _ hw'
        obtain ⟨⟨dq, osq⟩, hw''⟩ := hw'
        subst hw''
        obtain ⟨W5, hW5⟩ : ∃ W, grow (redrawn W4 dq) osq = W := ⟨_, rfl⟩
        have b5 : Below W4.heap.size W4 W5 := by rw [← hW5]; exact below_regrown W4 dq osq
        have x5 := H4.out.1.on b5
        have v0 := x5.cell 0
        have v3 := x5.cell 3
        have v4 := x5.cell 4
        have v5 := x5.cell 5
        simp at v0 v3 v4 v5
        have HB := Lib.hid (H4.out.2.trans (b5.mono H4.out.2.size))
        clear DF DT x5 b5 u0 u1 u2 r0 r1 r2 q0
        simp only [hW5]
        clear hW5
        obtain ⟨Z0, hZ0⟩ : ∃ X : ByteArray, ⟨#[101, 110, 100]⟩ ++ ⟨#[32]⟩ ++ SF ++ ⟨#[32]⟩ ++ ST = X := ⟨_, rfl⟩
        have y0 : Z0.size ≤ 80 := by rw [← hZ0]; simp only [ByteArray.size_append]; have h1 : (⟨#[101, 110, 100]⟩ : ByteArray).size ≤ 10 := by decide
                                     have h2 : (⟨#[32]⟩ : ByteArray).size = 1 := by decide
                                     omega
        obtain ⟨Z1, hZ1⟩ : ∃ X : ByteArray, Z0 ++ ⟨#[32]⟩ ++ SS = X := ⟨_, rfl⟩
        have y1 : Z1.size ≤ 150 := by rw [← hZ1]; simp only [ByteArray.size_append]; have h2 : (⟨#[32]⟩ : ByteArray).size = 1 := by decide
                                      omega
        cases sg with
        | false =>
          have hE : Z1 = Z := by
            rw [← HE.out.2.2.2.1, ← hZ1, ← hZ0, ← HE.out.1, ← HE.out.2.1]
            simp [ByteArray.ext_iff, printB, kindB]
          subst hE
          go_wp2_with fail
          refine (CK.out W5).mono ?_
          rintro e w6 ⟨rfl, hw⟩
          rw [hw]
          clear hw
          go_wp2_with fail
          go_ret
          exact ⟨by first | rfl | simp, HB.out⟩
        | true =>
          have hE : Z1 ++ ⟨#[32, 47]⟩ = Z := by
            rw [← HE.out.2.2.2.1, ← hZ1, ← hZ0, ← HE.out.1, ← HE.out.2.1]
            simp [ByteArray.ext_iff, printB, kindB]
          go_wp2_with fail
          refine (CK.out W5).mono ?_
          rintro e w6 ⟨rfl, hw⟩
          rw [hw]
          clear hw
          go_wp2_with fail
          go_ret
          exact ⟨by first | rfl | simp, HB.out⟩
      · clear hk hK hK2 hk0 hk1
        go_wp2_with fail
        refine CP.out.mono ?_
        rintro e w3 ⟨rfl, hb3⟩
        obtain ⟨W4, hW4⟩ : ∃ X, w3.alloc (.cells #[.string ⟨#[116, 101, 120, 116]⟩, .string ⟨#[114, 101, 102]⟩, .string ⟨#[115, 116, 97, 114, 116]⟩, .string ⟨#[101, 110, 100]⟩, .string ⟨#[99, 111, 109, 109, 101, 110, 116]⟩, .string ⟨#[100, 101, 99, 108]⟩, .string ⟨#[101, 115, 99, 97, 112, 101]⟩, .string ⟨#[114, 97, 119]⟩] 9) = X := ⟨_, rfl⟩
        have b4 : Below w3.heap.size w3 W4 := by rw [← hW4]; exact below_new _ _
        have xs4 : Cells W4 w3.heap.size 9 #[.string ⟨#[116, 101, 120, 116]⟩, .string ⟨#[114, 101, 102]⟩, .string ⟨#[115, 116, 97, 114, 116]⟩, .string ⟨#[101, 110, 100]⟩, .string ⟨#[99, 111, 109, 109, 101, 110, 116]⟩, .string ⟨#[100, 101, 99, 108]⟩, .string ⟨#[101, 115, 99, 97, 112, 101]⟩, .string ⟨#[114, 97, 119]⟩] := by rw [← hW4]; exact cells_new _ _ _
        have us := xs4.cell 4
        simp at us
        clear xs4
        have x3 := H2.out.2.on hb3
        have x4 := x3.on b4
        have b3 := H2.out.1.trans (hb3.mono H2.out.1.size)
        have bw4 := b3.trans (b4.mono b3.size)
        have q0 := x3.cell 0
        have u0 := x4.cell 0
        have u1 := x4.cell 1
        have u2 := x4.cell 2
        simp at q0 u0 u1 u2
        have r0 := cell_regrown u0
        have r1 := cell_regrown u1
        have r2 := cell_regrown u2
        have DF : ∀ d os, Calls Tryz.prog 15 #[.int .i64 f] (grow (redrawn W4 d) os) fun e w'' => e = .returned (.string SF) ∧ ∃ p : Regrown, w'' = grow (redrawn W4 p.d) p.os := fun d os =>
          Calls.regrown_of ((HC.out.1 _).mono fun e w' h => ⟨h.1, by rw [h.2]; exact Below.refl _ _⟩)
        have DT : ∀ d os, Calls Tryz.prog 15 #[.int .i64 t] (grow (redrawn W4 d) os) fun e w'' => e = .returned (.string ST) ∧ ∃ p : Regrown, w'' = grow (redrawn W4 p.d) p.os := fun d os =>
          Calls.regrown_of ((HC.out.2.1 _).mono fun e w' h => ⟨h.1, by rw [h.2]; exact Below.refl _ _⟩)
        have H4 := Lib.hid (And.intro x4 bw4)
        clear x3 x4 b3 b4 bw4 hb3 p0 p1 p2 p3 p4 p5
        go_wp2_with fail
        refine wp_region_quiet_below (by kernel_rfl) (by kernel_rfl) ?_
        repeat (go_big_quiet_step (with_reducible first | exact DF _ _ | exact DT _ _))
        refine wpQuiet_nil ?_
        intro _ hw'
        obtain ⟨⟨dq, osq⟩, hw''⟩ := hw'
        subst hw''
        obtain ⟨W5, hW5⟩ : ∃ W, grow (redrawn W4 dq) osq = W := ⟨_, rfl⟩
        have b5 : Below W4.heap.size W4 W5 := by rw [← hW5]; exact below_regrown W4 dq osq
        have x5 := H4.out.1.on b5
        have v0 := x5.cell 0
        have v3 := x5.cell 3
        have v4 := x5.cell 4
        have v5 := x5.cell 5
        simp at v0 v3 v4 v5
        have HB := Lib.hid (H4.out.2.trans (b5.mono H4.out.2.size))
        clear DF DT x5 b5 u0 u1 u2 r0 r1 r2 q0
        simp only [hW5]
        clear hW5
        obtain ⟨Z0, hZ0⟩ : ∃ X : ByteArray, ⟨#[99, 111, 109, 109, 101, 110, 116]⟩ ++ ⟨#[32]⟩ ++ SF ++ ⟨#[32]⟩ ++ ST = X := ⟨_, rfl⟩
        have y0 : Z0.size ≤ 80 := by rw [← hZ0]; simp only [ByteArray.size_append]; have h1 : (⟨#[99, 111, 109, 109, 101, 110, 116]⟩ : ByteArray).size ≤ 10 := by decide
                                     have h2 : (⟨#[32]⟩ : ByteArray).size = 1 := by decide
                                     omega
        have hE : Z0 = Z := by
          rw [← HE.out.2.2.2.1, ← hZ0, ← HE.out.1, ← HE.out.2.1]
          simp [ByteArray.ext_iff, printB, kindB]
        subst hE
        go_wp2_with fail
        refine (CK.out W5).mono ?_
        rintro e w6 ⟨rfl, hw⟩
        rw [hw]
        clear hw
        go_wp2_with fail
        go_ret
        exact ⟨by first | rfl | simp, HB.out⟩
      · clear hk hK hK2 hk0 hk1
        go_wp2_with fail
        refine CP.out.mono ?_
        rintro e w3 ⟨rfl, hb3⟩
        obtain ⟨W4, hW4⟩ : ∃ X, w3.alloc (.cells #[.string ⟨#[116, 101, 120, 116]⟩, .string ⟨#[114, 101, 102]⟩, .string ⟨#[115, 116, 97, 114, 116]⟩, .string ⟨#[101, 110, 100]⟩, .string ⟨#[99, 111, 109, 109, 101, 110, 116]⟩, .string ⟨#[100, 101, 99, 108]⟩, .string ⟨#[101, 115, 99, 97, 112, 101]⟩, .string ⟨#[114, 97, 119]⟩] 9) = X := ⟨_, rfl⟩
        have b4 : Below w3.heap.size w3 W4 := by rw [← hW4]; exact below_new _ _
        have xs4 : Cells W4 w3.heap.size 9 #[.string ⟨#[116, 101, 120, 116]⟩, .string ⟨#[114, 101, 102]⟩, .string ⟨#[115, 116, 97, 114, 116]⟩, .string ⟨#[101, 110, 100]⟩, .string ⟨#[99, 111, 109, 109, 101, 110, 116]⟩, .string ⟨#[100, 101, 99, 108]⟩, .string ⟨#[101, 115, 99, 97, 112, 101]⟩, .string ⟨#[114, 97, 119]⟩] := by rw [← hW4]; exact cells_new _ _ _
        have us := xs4.cell 5
        simp at us
        clear xs4
        have x3 := H2.out.2.on hb3
        have x4 := x3.on b4
        have b3 := H2.out.1.trans (hb3.mono H2.out.1.size)
        have bw4 := b3.trans (b4.mono b3.size)
        have q0 := x3.cell 0
        have u0 := x4.cell 0
        have u1 := x4.cell 1
        have u2 := x4.cell 2
        simp at q0 u0 u1 u2
        have r0 := cell_regrown u0
        have r1 := cell_regrown u1
        have r2 := cell_regrown u2
        have DF : ∀ d os, Calls Tryz.prog 15 #[.int .i64 f] (grow (redrawn W4 d) os) fun e w'' => e = .returned (.string SF) ∧ ∃ p : Regrown, w'' = grow (redrawn W4 p.d) p.os := fun d os =>
          Calls.regrown_of ((HC.out.1 _).mono fun e w' h => ⟨h.1, by rw [h.2]; exact Below.refl _ _⟩)
        have DT : ∀ d os, Calls Tryz.prog 15 #[.int .i64 t] (grow (redrawn W4 d) os) fun e w'' => e = .returned (.string ST) ∧ ∃ p : Regrown, w'' = grow (redrawn W4 p.d) p.os := fun d os =>
          Calls.regrown_of ((HC.out.2.1 _).mono fun e w' h => ⟨h.1, by rw [h.2]; exact Below.refl _ _⟩)
        have H4 := Lib.hid (And.intro x4 bw4)
        clear x3 x4 b3 b4 bw4 hb3 p0 p1 p2 p3 p4 p5
        go_wp2_with fail
        refine wp_region_quiet_below (by kernel_rfl) (by kernel_rfl) ?_
        repeat (go_big_quiet_step (with_reducible first | exact DF _ _ | exact DT _ _))
        refine wpQuiet_nil ?_
        intro _ hw'
        obtain ⟨⟨dq, osq⟩, hw''⟩ := hw'
        subst hw''
        obtain ⟨W5, hW5⟩ : ∃ W, grow (redrawn W4 dq) osq = W := ⟨_, rfl⟩
        have b5 : Below W4.heap.size W4 W5 := by rw [← hW5]; exact below_regrown W4 dq osq
        have x5 := H4.out.1.on b5
        have v0 := x5.cell 0
        have v3 := x5.cell 3
        have v4 := x5.cell 4
        have v5 := x5.cell 5
        simp at v0 v3 v4 v5
        have HB := Lib.hid (H4.out.2.trans (b5.mono H4.out.2.size))
        clear DF DT x5 b5 u0 u1 u2 r0 r1 r2 q0
        simp only [hW5]
        clear hW5
        obtain ⟨Z0, hZ0⟩ : ∃ X : ByteArray, ⟨#[100, 101, 99, 108]⟩ ++ ⟨#[32]⟩ ++ SF ++ ⟨#[32]⟩ ++ ST = X := ⟨_, rfl⟩
        have y0 : Z0.size ≤ 80 := by rw [← hZ0]; simp only [ByteArray.size_append]; have h1 : (⟨#[100, 101, 99, 108]⟩ : ByteArray).size ≤ 10 := by decide
                                     have h2 : (⟨#[32]⟩ : ByteArray).size = 1 := by decide
                                     omega
        have hE : Z0 = Z := by
          rw [← HE.out.2.2.2.1, ← hZ0, ← HE.out.1, ← HE.out.2.1]
          simp [ByteArray.ext_iff, printB, kindB]
        subst hE
        go_wp2_with fail
        refine (CK.out W5).mono ?_
        rintro e w6 ⟨rfl, hw⟩
        rw [hw]
        clear hw
        go_wp2_with fail
        go_ret
        exact ⟨by first | rfl | simp, HB.out⟩
      · clear hk hK hK2 hk0 hk1
        go_wp2_with fail
        refine CP.out.mono ?_
        rintro e w3 ⟨rfl, hb3⟩
        obtain ⟨W4, hW4⟩ : ∃ X, w3.alloc (.cells #[.string ⟨#[116, 101, 120, 116]⟩, .string ⟨#[114, 101, 102]⟩, .string ⟨#[115, 116, 97, 114, 116]⟩, .string ⟨#[101, 110, 100]⟩, .string ⟨#[99, 111, 109, 109, 101, 110, 116]⟩, .string ⟨#[100, 101, 99, 108]⟩, .string ⟨#[101, 115, 99, 97, 112, 101]⟩, .string ⟨#[114, 97, 119]⟩] 9) = X := ⟨_, rfl⟩
        have b4 : Below w3.heap.size w3 W4 := by rw [← hW4]; exact below_new _ _
        have xs4 : Cells W4 w3.heap.size 9 #[.string ⟨#[116, 101, 120, 116]⟩, .string ⟨#[114, 101, 102]⟩, .string ⟨#[115, 116, 97, 114, 116]⟩, .string ⟨#[101, 110, 100]⟩, .string ⟨#[99, 111, 109, 109, 101, 110, 116]⟩, .string ⟨#[100, 101, 99, 108]⟩, .string ⟨#[101, 115, 99, 97, 112, 101]⟩, .string ⟨#[114, 97, 119]⟩] := by rw [← hW4]; exact cells_new _ _ _
        have us := xs4.cell 6
        simp at us
        clear xs4
        have x3 := H2.out.2.on hb3
        have x4 := x3.on b4
        have b3 := H2.out.1.trans (hb3.mono H2.out.1.size)
        have bw4 := b3.trans (b4.mono b3.size)
        have q0 := x3.cell 0
        have u0 := x4.cell 0
        have u1 := x4.cell 1
        have u2 := x4.cell 2
        simp at q0 u0 u1 u2
        have r0 := cell_regrown u0
        have r1 := cell_regrown u1
        have r2 := cell_regrown u2
        have DF : ∀ d os, Calls Tryz.prog 15 #[.int .i64 f] (grow (redrawn W4 d) os) fun e w'' => e = .returned (.string SF) ∧ ∃ p : Regrown, w'' = grow (redrawn W4 p.d) p.os := fun d os =>
          Calls.regrown_of ((HC.out.1 _).mono fun e w' h => ⟨h.1, by rw [h.2]; exact Below.refl _ _⟩)
        have DT : ∀ d os, Calls Tryz.prog 15 #[.int .i64 t] (grow (redrawn W4 d) os) fun e w'' => e = .returned (.string ST) ∧ ∃ p : Regrown, w'' = grow (redrawn W4 p.d) p.os := fun d os =>
          Calls.regrown_of ((HC.out.2.1 _).mono fun e w' h => ⟨h.1, by rw [h.2]; exact Below.refl _ _⟩)
        have H4 := Lib.hid (And.intro x4 bw4)
        clear x3 x4 b3 b4 bw4 hb3 p0 p1 p2 p3 p4 p5
        go_wp2_with fail
        refine wp_region_quiet_below (by kernel_rfl) (by kernel_rfl) ?_
        repeat (go_big_quiet_step (with_reducible first | exact DF _ _ | exact DT _ _))
        refine wpQuiet_nil ?_
        intro _ hw'
        obtain ⟨⟨dq, osq⟩, hw''⟩ := hw'
        subst hw''
        obtain ⟨W5, hW5⟩ : ∃ W, grow (redrawn W4 dq) osq = W := ⟨_, rfl⟩
        have b5 : Below W4.heap.size W4 W5 := by rw [← hW5]; exact below_regrown W4 dq osq
        have x5 := H4.out.1.on b5
        have v0 := x5.cell 0
        have v3 := x5.cell 3
        have v4 := x5.cell 4
        have v5 := x5.cell 5
        simp at v0 v3 v4 v5
        have HB := Lib.hid (H4.out.2.trans (b5.mono H4.out.2.size))
        clear DF DT x5 b5 u0 u1 u2 r0 r1 r2 q0
        simp only [hW5]
        clear hW5
        obtain ⟨Z0, hZ0⟩ : ∃ X : ByteArray, ⟨#[101, 115, 99, 97, 112, 101]⟩ ++ ⟨#[32]⟩ ++ SF ++ ⟨#[32]⟩ ++ ST = X := ⟨_, rfl⟩
        have y0 : Z0.size ≤ 80 := by rw [← hZ0]; simp only [ByteArray.size_append]; have h1 : (⟨#[101, 115, 99, 97, 112, 101]⟩ : ByteArray).size ≤ 10 := by decide
                                     have h2 : (⟨#[32]⟩ : ByteArray).size = 1 := by decide
                                     omega
        have hE : Z0 = Z := by
          rw [← HE.out.2.2.2.1, ← hZ0, ← HE.out.1, ← HE.out.2.1]
          simp [ByteArray.ext_iff, printB, kindB]
        subst hE
        go_wp2_with fail
        refine (CK.out W5).mono ?_
        rintro e w6 ⟨rfl, hw⟩
        rw [hw]
        clear hw
        go_wp2_with fail
        go_ret
        exact ⟨by first | rfl | simp, HB.out⟩
      · clear hk hK hK2 hk0 hk1
        go_wp2_with fail
        refine CP.out.mono ?_
        rintro e w3 ⟨rfl, hb3⟩
        obtain ⟨W4, hW4⟩ : ∃ X, w3.alloc (.cells #[.string ⟨#[116, 101, 120, 116]⟩, .string ⟨#[114, 101, 102]⟩, .string ⟨#[115, 116, 97, 114, 116]⟩, .string ⟨#[101, 110, 100]⟩, .string ⟨#[99, 111, 109, 109, 101, 110, 116]⟩, .string ⟨#[100, 101, 99, 108]⟩, .string ⟨#[101, 115, 99, 97, 112, 101]⟩, .string ⟨#[114, 97, 119]⟩] 9) = X := ⟨_, rfl⟩
        have b4 : Below w3.heap.size w3 W4 := by rw [← hW4]; exact below_new _ _
        have xs4 : Cells W4 w3.heap.size 9 #[.string ⟨#[116, 101, 120, 116]⟩, .string ⟨#[114, 101, 102]⟩, .string ⟨#[115, 116, 97, 114, 116]⟩, .string ⟨#[101, 110, 100]⟩, .string ⟨#[99, 111, 109, 109, 101, 110, 116]⟩, .string ⟨#[100, 101, 99, 108]⟩, .string ⟨#[101, 115, 99, 97, 112, 101]⟩, .string ⟨#[114, 97, 119]⟩] := by rw [← hW4]; exact cells_new _ _ _
        have us := xs4.cell 7
        simp at us
        clear xs4
        have x3 := H2.out.2.on hb3
        have x4 := x3.on b4
        have b3 := H2.out.1.trans (hb3.mono H2.out.1.size)
        have bw4 := b3.trans (b4.mono b3.size)
        have q0 := x3.cell 0
        have u0 := x4.cell 0
        have u1 := x4.cell 1
        have u2 := x4.cell 2
        simp at q0 u0 u1 u2
        have r0 := cell_regrown u0
        have r1 := cell_regrown u1
        have r2 := cell_regrown u2
        have DF : ∀ d os, Calls Tryz.prog 15 #[.int .i64 f] (grow (redrawn W4 d) os) fun e w'' => e = .returned (.string SF) ∧ ∃ p : Regrown, w'' = grow (redrawn W4 p.d) p.os := fun d os =>
          Calls.regrown_of ((HC.out.1 _).mono fun e w' h => ⟨h.1, by rw [h.2]; exact Below.refl _ _⟩)
        have DT : ∀ d os, Calls Tryz.prog 15 #[.int .i64 t] (grow (redrawn W4 d) os) fun e w'' => e = .returned (.string ST) ∧ ∃ p : Regrown, w'' = grow (redrawn W4 p.d) p.os := fun d os =>
          Calls.regrown_of ((HC.out.2.1 _).mono fun e w' h => ⟨h.1, by rw [h.2]; exact Below.refl _ _⟩)
        have H4 := Lib.hid (And.intro x4 bw4)
        clear x3 x4 b3 b4 bw4 hb3 p0 p1 p2 p3 p4 p5
        go_wp2_with fail
        refine wp_region_quiet_below (by kernel_rfl) (by kernel_rfl) ?_
        repeat (go_big_quiet_step (with_reducible first | exact DF _ _ | exact DT _ _))
        refine wpQuiet_nil ?_
        intro _ hw'
        obtain ⟨⟨dq, osq⟩, hw''⟩ := hw'
        subst hw''
        obtain ⟨W5, hW5⟩ : ∃ W, grow (redrawn W4 dq) osq = W := ⟨_, rfl⟩
        have b5 : Below W4.heap.size W4 W5 := by rw [← hW5]; exact below_regrown W4 dq osq
        have x5 := H4.out.1.on b5
        have v0 := x5.cell 0
        have v3 := x5.cell 3
        have v4 := x5.cell 4
        have v5 := x5.cell 5
        simp at v0 v3 v4 v5
        have HB := Lib.hid (H4.out.2.trans (b5.mono H4.out.2.size))
        clear DF DT x5 b5 u0 u1 u2 r0 r1 r2 q0
        simp only [hW5]
        clear hW5
        obtain ⟨Z0, hZ0⟩ : ∃ X : ByteArray, ⟨#[114, 97, 119]⟩ ++ ⟨#[32]⟩ ++ SF ++ ⟨#[32]⟩ ++ ST = X := ⟨_, rfl⟩
        have y0 : Z0.size ≤ 80 := by rw [← hZ0]; simp only [ByteArray.size_append]; have h1 : (⟨#[114, 97, 119]⟩ : ByteArray).size ≤ 10 := by decide
                                     have h2 : (⟨#[32]⟩ : ByteArray).size = 1 := by decide
                                     omega
        have hE : Z0 = Z := by
          rw [← HE.out.2.2.2.1, ← hZ0, ← HE.out.1, ← HE.out.2.1]
          simp [ByteArray.ext_iff, printB, kindB]
        subst hE
        go_wp2_with fail
        refine (CK.out W5).mono ?_
        rintro e w6 ⟨rfl, hw⟩
        rw [hw]
        clear hw
        go_wp2_with fail
        go_ret
        exact ⟨by first | rfl | simp, HB.out⟩
end Go.Proofs.YtnedjafpjbfncaaGreatDoor

namespace Go.Proofs.YtnedjafpjbfncaaGreatDoor
open Go.ChangeShapes Go.WideShapes Go.ChangeAt Go.RowKit Go.Shelf
open Go.Lib

theorem cells33 : Tryz.prog.cellsOf 33 = 7 := by kernel_rfl
theorem cells9 : Tryz.prog.cellsOf 9 = 1 := by kernel_rfl
theorem cells21 : Tryz.prog.cellsOf 21 = 1 := by kernel_rfl
theorem cells4 : Tryz.prog.cellsOf 4 = 1 := by kernel_rfl
section
variable {H : Type} {enc : TypeId × Value → H} {W : World}
set_option maxRecDepth 100000 in
theorem tok_of_arg {b0 : Nat} {v : Value} {d : DataW H} {p : List MemPlace} (hv : Value.okWide Tryz.prog W .any b0 33 v) (h : DataW.Trod enc Tryz.prog W 0 (fun _ => true) true 33 v d p) :
    ∃ (k f t : Int) (SS : ByteArray) (r : Int) (sg cl : Bool), v = .agg #[.int .i64 k, .int .i64 f, .int .i64 t, .string SS, .int .i32 r, .bool sg, .bool cl] ∧ (Lit.int .i64 k).wf = true ∧ (Lit.int .i64 f).wf = true ∧ (Lit.int .i64 t).wf = true ∧ (Lit.int .i32 r).wf = true ∧ SS.size ≤ maxLen := by
  obtain ⟨cs, rfl, hcs⟩ := okWide_struct Tryz.underlying33 hv
  obtain ⟨fuel, hf⟩ := h
  obtain ⟨xs, n, hn, _, hlen, hxl, hff⟩ := DataW.trod_struct Tryz.underlying33 hf
  rw [cells33] at hcs hlen
  have hxl : xs.length = 7 := hxl
  obtain ⟨l⟩ := cs
  match l, hcs, xs, hxl with
  | [c0, c1, c2, c3, c4, c5, c6], _, [x0, x1, x2, x3, x4, x5, x6], _ =>
    have h0 := hff 0 _ rfl
    have h1 := hff 1 _ rfl
    have h2 := hff 2 _ rfl
    have h3 := hff 3 _ rfl
    have h4 := hff 4 _ rfl
    have h5 := hff 5 _ rfl
    have h6 := hff 6 _ rfl
    simp [cells3, Value.cells] at h0 h1 h2
    simp [cells9, Value.cells] at h3
    simp [cells21, Value.cells] at h4
    simp [cells4, Value.cells] at h5 h6
    obtain ⟨k, e0, _, w0⟩ := DataW.trod_int Tryz.underlying3 h0
    obtain ⟨f, e1, _, w1⟩ := DataW.trod_int Tryz.underlying3 h1
    obtain ⟨t, e2, _, w2⟩ := DataW.trod_int Tryz.underlying3 h2
    obtain ⟨SS, e3, _, w3⟩ := DataW.trod_string Tryz.underlying9 h3
    obtain ⟨r, e4, _, w4⟩ := DataW.trod_int Tryz.underlying21 h4
    obtain ⟨sg, e5, _⟩ := DataW.trod_bool Tryz.underlying4 h5
    obtain ⟨cl, e6, _⟩ := DataW.trod_bool Tryz.underlying4 h6
    simp at e0 e1 e2 e3 e4 e5 e6
    subst e0 e1 e2 e3 e4 e5 e6
    exact ⟨k, f, t, SS, r, sg, cl, rfl, w0, w1, w2, w4, w3⟩
end
theorem wf64 {x : Int} (h : (Lit.int .i64 x).wf = true) : -9223372036854775808 ≤ x ∧ x ≤ 9223372036854775807 := by
  simp [Lit.wf, IntKind.min, IntKind.max, IntKind.signed, IntKind.bits] at h
  omega
theorem wf32 {x : Int} (h : (Lit.int .i32 x).wf = true) : -2147483648 ≤ x ∧ x ≤ 2147483647 := by
  simp [Lit.wf, IntKind.min, IntKind.max, IntKind.signed, IntKind.bits] at h
  omega
end Go.Proofs.YtnedjafpjbfncaaGreatDoor

namespace Go.Proofs.YtnedjafpjbfncaaGreatDoor
open Go.ChangeShapes Go.WideShapes Go.ChangeAt Go.RowKit Go.Shelf
open Go.Lib
open Go.ChangeMaps (open_string shut_string)

set_option maxRecDepth 100000 in
theorem tokenPrints_lifted (os : Os) (started : os.Started) (H : Type) (enc : TypeId × Value → H) :
    ReturnsInHanded {} Tryz.checked os 6 .any (fun w args => (Rows.tokenPrintsSpec.pre enc Tryz.prog Tryz.f6 [] false w args ∧ laidMetH Tryz.prog laidAll8 w) ∧ sizedMet enc Tryz.prog Tryz.f6 (OpenSpec.ofChange Rows.tokenPrintsSpec) false w args)
      (Rows.tokenPrintsSpec.post enc Tryz.prog Tryz.f6 false true false false) := by
  refine handed_laid (C := Tryz.checked) (X := fun w _ => laidMetH Tryz.prog laidAll8 w) (fun _ _ _ hh h => h.of_heap hh) own started (by kernel_rfl) Tryz.func6
    (ChangeSpec.witness_shaped (enc := enc) (C := Tryz.checked) (os := os) (X := fun w _ => laidMetH Tryz.prog laidAll8 w) false (World.laidAll Tryz.prog os laidAll8) #[.agg #[.int .i64 0, .int .i64 0, .int .i64 0, .string ⟨#[]⟩, .int .i32 0, .bool false, .bool false]] 8 (World.laidAll_os _ _ _)
      (World.shaped_of_ZipB (by kernel_rfl) (by kernel_rfl)) (by kernel_rfl) (by kernel_rfl) (by kernel_rfl)
      (by rw [MakeChecks.laidMetH_plain _ _ _ (by kernel_rfl)]; exact laidMet_laidAll _ (by kernel_rfl) (by kernel_rfl))) ?_
  intro W base args ds gs before hsh hval0 hW hL _
  have hval : ∀ (j : Nat) t v, Tryz.f6.params[j]? = some t → args[j]? = some v → Value.okWide Tryz.prog W .any base t v := hval0
  have hW' := hW
  obtain ⟨p, q, hA0, hV, rfl, _, _⟩ := hW
  have hA : DataW.TrodAll enc Tryz.prog W 0 (fun _ => true) true Tryz.f6.params.toList args.toList ds p := hA0
  rw [Tryz.params6] at hA hval
  obtain ⟨v0, vs0, d0, ds0, p0, q0, hargs, rfl, rfl, h0, r0⟩ := trodAll_cons hA
  obtain ⟨rfl, rfl, rfl⟩ := trodAll_nil r0
  obtain rfl : args = #[v0] := by cases args; simp_all
  obtain ⟨rfl, rfl⟩ := trodVars_none hV
  have t0 := h0
  have lt0 : ∀ x ∈ p0, x.block < W.heap.size := by obtain ⟨m, hm⟩ := t0; exact DataW.trod_lt m _ _ _ hm
  obtain ⟨k0, f0, g0, SS0, r0, sg0, cl0, rfl, wk0, wf0, wg0, wr0, wl0⟩ := tok_of_arg (hval 0 33 v0 rfl rfl) h0
  unfold maxLen at wl0
  rw [MakeChecks.laidMetH_plain _ _ _ (by kernel_rfl)] at hL
  have hT : S.Tabs W := tabs_of_reads (Lib.laidMet.reads hL (.tail _ (.tail _ (.tail _ (.tail _ (.tail _ (.tail _ (.tail _ (.head _))))))))) (Lib.laidMet.reads hL (.tail _ (.tail _ (.tail _ (.head _)))))
  have hZ : P.TZ W := tz_of_reads (Lib.laidMet.reads hL (.tail _ (.head _)))
  have hPT : PT W := pt_of_reads (Lib.laidMet.reads hL (.tail _ (.tail _ (.head _))))
  have hM : G.MX W := mx_of_shape hsh
  clear hA0 hval0
  refine (printsLaw k0 f0 g0 (wf64 wk0).1 (wf64 wk0).2 (wf64 wf0).1 (wf64 wf0).2 (wf64 wg0).1 (wf64 wg0).2 SS0 (by omega) r0 (wf32 wr0) sg0 cl0 W hM hT hZ hPT).mono fun e W' ⟨he, bel⟩ => ?_
  subst he
  exact ⟨_, rfl, _, _, _, [], _, [], hW', trodAll_mk1 (shut_bool Tryz.underlying4 _), (trodAll_cons_mk (Below.trod laidOut (by kernel_rfl) (of_decide_eq_true (by kernel_rfl)) t0 bel lt0) trodAll_mk0), rfl, bel.frame _, fun h => by cases h⟩

theorem tokenPrints_row : Rows.TokenPrintsSaid :=
  OpenClaim.holds_of_wide 6 Tryz.f6 rfl rfl rfl rfl rfl rfl rfl ⟨rfl, rfl, rfl, rfl, rfl⟩ rfl rfl rfl rfl rfl (by kernel_rfl) Tryz.func6 (by kernel_rfl)
    (of_decide_eq_true (by kernel_rfl)) (by unfold Func.isWrapper; first | (rw [if_pos (by decide +kernel)]; kernel_rfl) | (rw [if_neg (by decide +kernel)]; exact ⟨rfl, rfl⟩))
    (fun os started H enc _ => tokenPrints_lifted os started H enc)

/-- THE STATEMENT. -/
theorem tokenPrints_holds : Rows.TokenPrintsCardSaid :=
  Claim7.holds_tied_plain_at .later [] [.data, .data, .data, .data, .sentinel, .sentinel, .pinned, .pinned] true (true, "58902377a7983df7a674fc44eaab2a8449d52dd4ee6546e63f76fbf255702d0f") true
    tokenPrints_row (fun _ h => by cases h) (by kernel_rfl) (fun _ h => by cases h) tokenPrints_row_tie rfl ⟨rfl, rfl⟩ (by kernel_rfl) rfl
    (fun f fn hf hfn => by
      obtain rfl : f = 6 := Option.some.inj ((show Tryz.prog.funcNamed Rows.tokenPrintsRow.func = some 6 by kernel_rfl).symm.trans hf) |>.symm
      obtain rfl : fn = Tryz.f6 := (Option.some.inj (Tryz.func6.symm.trans hfn)).symm
      exact ⟨by kernel_rfl, fun j t ht => by
        rw [Tryz.params6] at ht
        have hm : t ∈ [33] := by simpa using Array.mem_of_getElem? ht
        have hall : ([33].all fun u => !Tryz.prog.wantsStandIn u) = true := by kernel_rfl
        exact (show Tryz.prog.wantsStandIn t = false by simpa using List.all_eq_true.1 hall t hm)⟩)
    (by kernel_rfl)
#print axioms tokenPrints_holds
end Go.Proofs.YtnedjafpjbfncaaGreatDoor

