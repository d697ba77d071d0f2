/-
  The shelf's contract of strings.Repeat at this dump: the table of numbers and one theorem, a field a fact of the dump's own or the kernel's comparison.
  Contracts: strconv.FormatInt at base 16, strings.Repeat of one zero, ranges.printHex; the document's hex.
-/
import Derived.Shelf.Strings.Repeat
import Derived.Ground.NamesProg
import Derived.Test.YtphhdkffnboboaaGreatDoorProg
import Derived.Test.YtphhdkffnboboaaGreatDoorHx1
namespace Go.Proofs
open Go.Shelf
def Tryz.repeatL_ren : Go.Shelf.Ren := ⟨fun | 105 => 40 | 212 => 53 | 99 => 54 | 165 => 27 | 166 => 28 | 170 => 55 | 169 => 29 | 263 => 82 | 264 => 83 | 206 => 84 | 240 => 41 | 241 => 42 | 276 => 56 | 277 => 57 | n => n, fun | 9 => 9 | 3 => 3 | 4 => 4 | 20 => 20 | 0 => 0 | 46 => 86 | 109 => 88 | 5 => 5 | 72 => 60 | 76 => 64 | 51 => 112 | 146 => 119 | 53 => 97 | 148 => 121 | 70 => 57 | 37 => 58 | 75 => 63 | 127 => 79 | 164 => 92 | 80 => 66 | n => n, fun | n => n⟩
theorem Tryz.repeatL : Go.Proofs.Lays.n105 Tryz.prog Tryz.repeatL_ren := {
  mixed := by kernel_rfl
  f99 := Tryz.func54.trans (congrArg some (by kernel_rfl))
  f105 := Tryz.func40.trans (congrArg some (by kernel_rfl))
  f165 := Tryz.func27.trans (congrArg some (by kernel_rfl))
  f166 := Tryz.func28.trans (congrArg some (by kernel_rfl))
  f169 := Tryz.func29.trans (congrArg some (by kernel_rfl))
  f170 := Tryz.func55.trans (congrArg some (by kernel_rfl))
  f206 := Tryz.func84.trans (congrArg some (by kernel_rfl))
  f212 := Tryz.func53.trans (congrArg some (by kernel_rfl))
  f240 := Tryz.func41.trans (congrArg some (by kernel_rfl))
  f241 := Tryz.func42.trans (congrArg some (by kernel_rfl))
  f263 := Tryz.func82.trans (congrArg some (by kernel_rfl))
  f264 := Tryz.func83.trans (congrArg some (by kernel_rfl))
  f276 := Tryz.func56.trans (congrArg some (by kernel_rfl))
  f277 := Tryz.func57.trans (congrArg some (by kernel_rfl))
  t0 := Tryz.underlying0
  a0 := Tryz.isAgg0
  z0 := Tryz.sizeOf0
  v0 := Tryz.zeroValue0
  t3 := Tryz.underlying3
  a3 := Tryz.isAgg3
  z3 := Tryz.sizeOf3
  v3 := Tryz.zeroValue3
  t4 := Tryz.underlying4
  a4 := Tryz.isAgg4
  z4 := Tryz.sizeOf4
  v4 := Tryz.zeroValue4
  t5 := Tryz.underlying5
  a5 := Tryz.isAgg5
  z5 := Tryz.sizeOf5
  v5 := Tryz.zeroValue5
  t9 := Tryz.underlying9
  a9 := Tryz.isAgg9
  z9 := Tryz.sizeOf9
  v9 := Tryz.zeroValue9
  t20 := Tryz.underlying20
  a20 := Tryz.isAgg20
  z20 := Tryz.sizeOf20
  v20 := Tryz.zeroValue20
  t37 := Tryz.underlying58
  a37 := Tryz.isAgg58
  z37 := Tryz.sizeOf58
  v37 := Tryz.zeroValue58
  t46 := Tryz.underlying86
  a46 := Tryz.isAgg86
  z46 := Tryz.sizeOf86
  v46 := Tryz.zeroValue86
  t51 := Tryz.underlying112
  a51 := Tryz.isAgg112
  z51 := Tryz.sizeOf112
  v51 := Tryz.zeroValue112
  t53 := Tryz.underlying97
  a53 := Tryz.isAgg97
  z53 := Tryz.sizeOf97
  v53 := Tryz.zeroValue97
  t70 := Tryz.underlying57
  a70 := Tryz.isAgg57
  z70 := Tryz.sizeOf57
  v70 := Tryz.zeroValue57
  t72 := Tryz.underlying60
  a72 := Tryz.isAgg60
  z72 := Tryz.sizeOf60
  v72 := Tryz.zeroValue60
  t75 := Tryz.underlying63
  a75 := Tryz.isAgg63
  z75 := Tryz.sizeOf63
  v75 := Tryz.zeroValue63
  t76 := Tryz.underlying64
  a76 := Tryz.isAgg64
  z76 := Tryz.sizeOf64
  v76 := Tryz.zeroValue64
  t109 := Tryz.underlying88
  a109 := Tryz.isAgg88
  z109 := Tryz.sizeOf88
  v109 := Tryz.zeroValue88
  t127 := Tryz.underlying79
  a127 := Tryz.isAgg79
  z127 := Tryz.sizeOf79
  v127 := Tryz.zeroValue79
  t146 := Tryz.underlying119
  a146 := Tryz.isAgg119
  z146 := Tryz.sizeOf119
  v146 := Tryz.zeroValue119
  t148 := Tryz.underlying121
  a148 := Tryz.isAgg121
  z148 := Tryz.sizeOf121
  v148 := Tryz.zeroValue121
  t164 := Tryz.underlying92
  a164 := Tryz.isAgg92
  z164 := Tryz.sizeOf92
  v164 := Tryz.zeroValue92 }
end Go.Proofs

namespace Go.Proofs.YtphhdkffnboboaaGreatDoor
open Go.RowKit Go.Shelf
open Go.Lib

theorem repX : Builder.Extra Tryz.prog Tryz.repeatL_ren where
  sizeBuilder := by kernel_rfl
  liesBuilder := by kernel_rfl
  t5 := Tryz.repeatL.t5
  a5 := Tryz.repeatL.a5
  z5 := Tryz.repeatL.z5
  v5 := Tryz.repeatL.v5
  infoByte := by kernel_rfl
  cellsByte := by kernel_rfl
  sizeByte := by kernel_rfl
  neB5 := by decide

theorem fi84_any (n : Nat) (hn : n < 4294967296) (w : World) (h : TZ w) :
    Calls Tryz.prog 52 #[.int .i64 n, .int .i64 16] w fun e w' => e = .returned (.string ⟨(hexD n).toArray⟩) ∧ Below w.heap.size w w' := by
  have C := Lib.hid (fb_any n hn w h)
  have h0 : (0 : Int) ≤ (n : Int) := by omega
  have h1 : (n : Int) < 4294967296 := by omega
  have d : decide ((n : Int) < 0) = false := by simp
  clear hn h
  go_enter Tryz.func52, Tryz.ntmps52
  go_wp2_with fail
  refine C.out.mono ?_
  rintro e w1 ⟨rfl, hb⟩
  go_wp2
  go_ret
  exact ⟨rfl, hb⟩
theorem fi59_any (n : Nat) (hn : n < 4294967296) (w : World) (h : TZ w) :
    Calls Tryz.prog 39 #[.int .i64 n, .int .i64 16] w fun e w' => e = .returned (.string ⟨(hexD n).toArray⟩) ∧ Below w.heap.size w w' := by
  have C := Lib.hid (fi84_any n hn w h)
  clear hn h
  go_enter Tryz.func39, Tryz.ntmps39
  go_wp2_with fail
  refine C.out.mono ?_
  rintro e w1 ⟨rfl, hb⟩
  go_wp2
  go_ret
  exact ⟨rfl, hb⟩

def pad4 (l : List UInt8) : List UInt8 := List.replicate (4 - l.length) 48 ++ l
theorem repeat48 (c : Nat) : Lib.repeatL [48] c = List.replicate c 48 := by
  induction c with
  | zero => rfl
  | succ c ih => rw [Lib.repeatL, ih, List.replicate_succ]; rfl
theorem rep_any (c : Nat) (hc : c ≤ 100) (w : World) : Calls Tryz.prog 40 #[.string ⟨#[48]⟩, .int .i64 c] w fun e w' => e = .returned (.string ⟨(List.replicate c 48).toArray⟩) ∧ Below w.heap.size w w' := by
  have C : Calls Tryz.prog 40 #[.string ⟨#[48]⟩, .int .i64 c] w _ := Any.strings_Repeat Tryz.repeatL repX ⟨#[48]⟩ c w (by omega) (by show 1 * c ≤ _; omega)
  refine C.mono ?_
  rintro e w' ⟨rfl, hb⟩
  refine ⟨?_, hb⟩
  rw [show (⟨#[48]⟩ : ByteArray).data.toList = [48] from rfl, repeat48]

theorem hexD_len (n : Nat) : 1 ≤ (hexD n).length ∧ ∀ m, n < 16 ^ (m + 1) → (hexD n).length ≤ m + 1 := by
  induction n using Nat.strongRecOn with
  | ind n ih =>
    by_cases c : n < 16
    · rw [hexD_lt c]; simp
    · rw [hexD_ge c]
      have h := ih (n / 16) (by omega)
      refine ⟨by simp, fun m hm => ?_⟩
      cases m with
      | zero => simp at hm; omega
      | succ m =>
        have := h.2 m (by rw [Nat.pow_succ] at hm; omega)
        simp; omega

theorem ph_any (n : Nat) (hn : n < 2147483648) (w : World) (h : TZ w) :
    Calls Tryz.prog 26 #[.int .i32 n] w fun e w' => e = .returned (.string ⟨(pad4 (hexD n)).toArray⟩) ∧ Below w.heap.size w w' := by
  have C := Lib.hid (fi59_any n (by omega) w h)
  have hl := hexD_len n
  have h8 := hl.2 7 (by omega)
  have h1 := hl.1
  have h0 : (0 : Int) ≤ (n : Int) := by omega
  have h2 : (n : Int) < 2147483648 := by omega
  have HR := Lib.hid rep_any
  unfold pad4
  generalize hexD n = ds at *
  have HM := Lib.hid (show max (0 : Int) (4 - (ds.length : Int)) = ((4 - ds.length : Nat) : Int) by omega)
  have h1' : (1 : Int) ≤ (ds.length : Int) := by omega
  have h8' : (ds.length : Int) ≤ 8 := by omega
  clear hl hn h
  go_enter Tryz.func26, Tryz.ntmps26
  go_wp2_with fail
  refine C.out.mono ?_
  rintro e w1 ⟨rfl, hb⟩
  go_wp2_with fail
  rw [HM.out]
  refine (HR.out _ (by omega) w1).mono ?_
  rintro e w2 ⟨rfl, hb2⟩
  have hbz := hb.trans (hb2.mono hb.size)
  go_wp2_with fail
  go_ret
  exact ⟨rfl, hbz⟩
end Go.Proofs.YtphhdkffnboboaaGreatDoor
