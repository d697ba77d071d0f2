/-
  Contracts: strconv.FormatInt at base 16, strings.Repeat of one zero, ranges.printHex; the document's hex.
-/
import Derived.Test.YtimiinnnmdcmhaaDoorHx1
import Derived.Test.YtimiinnnmdcmhaaDoorLayRp
namespace Go.Proofs.YtimiinnnmdcmhaaDoor
open Go.RowKit Go.Shelf
open Go.Lib

theorem repX : Builder.Extra Tryd.prog Tryd.repeatL_ren where
  sizeBuilder := by kernel_rfl
  liesBuilder := by kernel_rfl
  t5 := Tryd.repeatL.t5
  a5 := Tryd.repeatL.a5
  z5 := Tryd.repeatL.z5
  v5 := Tryd.repeatL.v5
  infoByte := by kernel_rfl
  cellsByte := by kernel_rfl
  sizeByte := by kernel_rfl
  neB5 := by decide

theorem fi84_any (n : Nat) (hn : n < 4294967296) (w : World) (h : TZ w) :
    Calls Tryd.prog 84 #[.int .i64 n, .int .i64 16] w fun e w' => e = .returned (.string ⟨(hexD n).toArray⟩) ∧ Below w.heap.size w w' := by
  have C := Lib.hid (fb_any n hn w h)
  have h0 : (0 : Int) ≤ (n : Int) := by omega
  have h1 : (n : Int) < 4294967296 := by omega
  have d : decide ((n : Int) < 0) = false := by simp
  clear hn h
  go_enter Tryd.func84, Tryd.ntmps84
  go_wp2_with fail
  refine C.out.mono ?_
  rintro e w1 ⟨rfl, hb⟩
  go_wp2
  go_ret
  exact ⟨rfl, hb⟩
theorem fi59_any (n : Nat) (hn : n < 4294967296) (w : World) (h : TZ w) :
    Calls Tryd.prog 59 #[.int .i64 n, .int .i64 16] w fun e w' => e = .returned (.string ⟨(hexD n).toArray⟩) ∧ Below w.heap.size w w' := by
  have C := Lib.hid (fi84_any n hn w h)
  clear hn h
  go_enter Tryd.func59, Tryd.ntmps59
  go_wp2_with fail
  refine C.out.mono ?_
  rintro e w1 ⟨rfl, hb⟩
  go_wp2
  go_ret
  exact ⟨rfl, hb⟩

def pad4 (l : List UInt8) : List UInt8 := List.replicate (4 - l.length) 48 ++ l
theorem repeat48 (c : Nat) : Lib.repeatL [48] c = List.replicate c 48 := by
  induction c with
  | zero => rfl
  | succ c ih => rw [Lib.repeatL, ih, List.replicate_succ]; rfl
theorem rep_any (c : Nat) (hc : c ≤ 100) (w : World) : Calls Tryd.prog 60 #[.string ⟨#[48]⟩, .int .i64 c] w fun e w' => e = .returned (.string ⟨(List.replicate c 48).toArray⟩) ∧ Below w.heap.size w w' := by
  have C : Calls Tryd.prog 60 #[.string ⟨#[48]⟩, .int .i64 c] w _ := Any.strings_Repeat Tryd.repeatL repX ⟨#[48]⟩ c w (by omega) (by show 1 * c ≤ _; omega)
  refine C.mono ?_
  rintro e w' ⟨rfl, hb⟩
  refine ⟨?_, hb⟩
  rw [show (⟨#[48]⟩ : ByteArray).data.toList = [48] from rfl, repeat48]

theorem hexD_len (n : Nat) : 1 ≤ (hexD n).length ∧ ∀ m, n < 16 ^ (m + 1) → (hexD n).length ≤ m + 1 := by
  induction n using Nat.strongRecOn with
  | ind n ih =>
    by_cases c : n < 16
    · rw [hexD_lt c]; simp
    · rw [hexD_ge c]
      have h := ih (n / 16) (by omega)
      refine ⟨by simp, fun m hm => ?_⟩
      cases m with
      | zero => simp at hm; omega
      | succ m =>
        have := h.2 m (by rw [Nat.pow_succ] at hm; omega)
        simp; omega

theorem ph_any (n : Nat) (hn : n < 2147483648) (w : World) (h : TZ w) :
    Calls Tryd.prog 96 #[.int .i32 n] w fun e w' => e = .returned (.string ⟨(pad4 (hexD n)).toArray⟩) ∧ Below w.heap.size w w' := by
  have C := Lib.hid (fi59_any n (by omega) w h)
  have hl := hexD_len n
  have h8 := hl.2 7 (by omega)
  have h1 := hl.1
  have h0 : (0 : Int) ≤ (n : Int) := by omega
  have h2 : (n : Int) < 2147483648 := by omega
  have HR := Lib.hid rep_any
  unfold pad4
  generalize hexD n = ds at *
  have HM := Lib.hid (show max (0 : Int) (4 - (ds.length : Int)) = ((4 - ds.length : Nat) : Int) by omega)
  have h1' : (1 : Int) ≤ (ds.length : Int) := by omega
  have h8' : (ds.length : Int) ≤ 8 := by omega
  clear hl hn h
  go_enter Tryd.func96, Tryd.ntmps96
  go_wp2_with fail
  refine C.out.mono ?_
  rintro e w1 ⟨rfl, hb⟩
  go_wp2_with fail
  rw [HM.out]
  refine (HR.out _ (by omega) w1).mono ?_
  rintro e w2 ⟨rfl, hb2⟩
  have hbz := hb.trans (hb2.mono hb.size)
  go_wp2_with fail
  go_ret
  exact ⟨rfl, hbz⟩
end Go.Proofs.YtimiinnnmdcmhaaDoor
