/-
  The shelf's contract of strings.Repeat at this dump: the table of numbers and one theorem, a field a fact of the dump's own or the kernel's comparison.
  Contracts: strconv.FormatInt at base 16, strings.Repeat of one zero, ranges.printHex; the document's hex.
-/
import Derived.Shelf.Strings.Repeat
import Derived.Ground.NamesProg
import Derived.Test.YtimiinnnmdcmhaaDoorProg
import Derived.Test.YtimiinnnmdcmhaaDoorHx1
namespace Go.Proofs
open Go.Shelf
def Tryd.repeatL_ren : Go.Shelf.Ren := ⟨fun | 105 => 60 | 212 => 85 | 99 => 86 | 165 => 78 | 166 => 79 | 170 => 87 | 169 => 81 | 263 => 110 | 264 => 111 | 206 => 112 | 240 => 99 | 241 => 100 | 276 => 122 | 277 => 123 | n => n, fun | 9 => 9 | 3 => 3 | 4 => 4 | 20 => 20 | 0 => 0 | 46 => 115 | 109 => 116 | 5 => 5 | 72 => 107 | 76 => 109 | 51 => 104 | 146 => 138 | 53 => 133 | 148 => 140 | 70 => 105 | 37 => 22 | 75 => 91 | 127 => 126 | 164 => 155 | 80 => 112 | n => n, fun | n => n⟩
theorem Tryd.repeatL : Go.Proofs.Lays.n105 Tryd.prog Tryd.repeatL_ren := {
  mixed := by kernel_rfl
  f99 := Tryd.func86.trans (congrArg some (by kernel_rfl))
  f105 := Tryd.func60.trans (congrArg some (by kernel_rfl))
  f165 := Tryd.func78.trans (congrArg some (by kernel_rfl))
  f166 := Tryd.func79.trans (congrArg some (by kernel_rfl))
  f169 := Tryd.func81.trans (congrArg some (by kernel_rfl))
  f170 := Tryd.func87.trans (congrArg some (by kernel_rfl))
  f206 := Tryd.func112.trans (congrArg some (by kernel_rfl))
  f212 := Tryd.func85.trans (congrArg some (by kernel_rfl))
  f240 := Tryd.func99.trans (congrArg some (by kernel_rfl))
  f241 := Tryd.func100.trans (congrArg some (by kernel_rfl))
  f263 := Tryd.func110.trans (congrArg some (by kernel_rfl))
  f264 := Tryd.func111.trans (congrArg some (by kernel_rfl))
  f276 := Tryd.func122.trans (congrArg some (by kernel_rfl))
  f277 := Tryd.func123.trans (congrArg some (by kernel_rfl))
  t0 := Tryd.underlying0
  a0 := Tryd.isAgg0
  z0 := Tryd.sizeOf0
  v0 := Tryd.zeroValue0
  t3 := Tryd.underlying3
  a3 := Tryd.isAgg3
  z3 := Tryd.sizeOf3
  v3 := Tryd.zeroValue3
  t4 := Tryd.underlying4
  a4 := Tryd.isAgg4
  z4 := Tryd.sizeOf4
  v4 := Tryd.zeroValue4
  t5 := Tryd.underlying5
  a5 := Tryd.isAgg5
  z5 := Tryd.sizeOf5
  v5 := Tryd.zeroValue5
  t9 := Tryd.underlying9
  a9 := Tryd.isAgg9
  z9 := Tryd.sizeOf9
  v9 := Tryd.zeroValue9
  t20 := Tryd.underlying20
  a20 := Tryd.isAgg20
  z20 := Tryd.sizeOf20
  v20 := Tryd.zeroValue20
  t37 := Tryd.underlying22
  a37 := Tryd.isAgg22
  z37 := Tryd.sizeOf22
  v37 := Tryd.zeroValue22
  t46 := Tryd.underlying115
  a46 := Tryd.isAgg115
  z46 := Tryd.sizeOf115
  v46 := Tryd.zeroValue115
  t51 := Tryd.underlying104
  a51 := Tryd.isAgg104
  z51 := Tryd.sizeOf104
  v51 := Tryd.zeroValue104
  t53 := Tryd.underlying133
  a53 := Tryd.isAgg133
  z53 := Tryd.sizeOf133
  v53 := Tryd.zeroValue133
  t70 := Tryd.underlying105
  a70 := Tryd.isAgg105
  z70 := Tryd.sizeOf105
  v70 := Tryd.zeroValue105
  t72 := Tryd.underlying107
  a72 := Tryd.isAgg107
  z72 := Tryd.sizeOf107
  v72 := Tryd.zeroValue107
  t75 := Tryd.underlying91
  a75 := Tryd.isAgg91
  z75 := Tryd.sizeOf91
  v75 := Tryd.zeroValue91
  t76 := Tryd.underlying109
  a76 := Tryd.isAgg109
  z76 := Tryd.sizeOf109
  v76 := Tryd.zeroValue109
  t109 := Tryd.underlying116
  a109 := Tryd.isAgg116
  z109 := Tryd.sizeOf116
  v109 := Tryd.zeroValue116
  t127 := Tryd.underlying126
  a127 := Tryd.isAgg126
  z127 := Tryd.sizeOf126
  v127 := Tryd.zeroValue126
  t146 := Tryd.underlying138
  a146 := Tryd.isAgg138
  z146 := Tryd.sizeOf138
  v146 := Tryd.zeroValue138
  t148 := Tryd.underlying140
  a148 := Tryd.isAgg140
  z148 := Tryd.sizeOf140
  v148 := Tryd.zeroValue140
  t164 := Tryd.underlying155
  a164 := Tryd.isAgg155
  z164 := Tryd.sizeOf155
  v164 := Tryd.zeroValue155 }
end Go.Proofs

namespace Go.Proofs.YtimiinnnmdcmhaaDoor
open Go.RowKit Go.Shelf
open Go.Lib

theorem repX : Builder.Extra Tryd.prog Tryd.repeatL_ren where
  sizeBuilder := by kernel_rfl
  liesBuilder := by kernel_rfl
  t5 := Tryd.repeatL.t5
  a5 := Tryd.repeatL.a5
  z5 := Tryd.repeatL.z5
  v5 := Tryd.repeatL.v5
  infoByte := by kernel_rfl
  cellsByte := by kernel_rfl
  sizeByte := by kernel_rfl
  neB5 := by decide

theorem fi84_any (n : Nat) (hn : n < 4294967296) (w : World) (h : TZ w) :
    Calls Tryd.prog 84 #[.int .i64 n, .int .i64 16] w fun e w' => e = .returned (.string ⟨(hexD n).toArray⟩) ∧ Below w.heap.size w w' := by
  have C := Lib.hid (fb_any n hn w h)
  have h0 : (0 : Int) ≤ (n : Int) := by omega
  have h1 : (n : Int) < 4294967296 := by omega
  have d : decide ((n : Int) < 0) = false := by simp
  clear hn h
  go_enter Tryd.func84, Tryd.ntmps84
  go_wp2_with fail
  refine C.out.mono ?_
  rintro e w1 ⟨rfl, hb⟩
  go_wp2
  go_ret
  exact ⟨rfl, hb⟩
theorem fi59_any (n : Nat) (hn : n < 4294967296) (w : World) (h : TZ w) :
    Calls Tryd.prog 59 #[.int .i64 n, .int .i64 16] w fun e w' => e = .returned (.string ⟨(hexD n).toArray⟩) ∧ Below w.heap.size w w' := by
  have C := Lib.hid (fi84_any n hn w h)
  clear hn h
  go_enter Tryd.func59, Tryd.ntmps59
  go_wp2_with fail
  refine C.out.mono ?_
  rintro e w1 ⟨rfl, hb⟩
  go_wp2
  go_ret
  exact ⟨rfl, hb⟩

def pad4 (l : List UInt8) : List UInt8 := List.replicate (4 - l.length) 48 ++ l
theorem repeat48 (c : Nat) : Lib.repeatL [48] c = List.replicate c 48 := by
  induction c with
  | zero => rfl
  | succ c ih => rw [Lib.repeatL, ih, List.replicate_succ]; rfl
theorem rep_any (c : Nat) (hc : c ≤ 100) (w : World) : Calls Tryd.prog 60 #[.string ⟨#[48]⟩, .int .i64 c] w fun e w' => e = .returned (.string ⟨(List.replicate c 48).toArray⟩) ∧ Below w.heap.size w w' := by
  have C : Calls Tryd.prog 60 #[.string ⟨#[48]⟩, .int .i64 c] w _ := Any.strings_Repeat Tryd.repeatL repX ⟨#[48]⟩ c w (by omega) (by show 1 * c ≤ _; omega)
  refine C.mono ?_
  rintro e w' ⟨rfl, hb⟩
  refine ⟨?_, hb⟩
  rw [show (⟨#[48]⟩ : ByteArray).data.toList = [48] from rfl, repeat48]

theorem hexD_len (n : Nat) : 1 ≤ (hexD n).length ∧ ∀ m, n < 16 ^ (m + 1) → (hexD n).length ≤ m + 1 := by
  induction n using Nat.strongRecOn with
  | ind n ih =>
    by_cases c : n < 16
    · rw [hexD_lt c]; simp
    · rw [hexD_ge c]
      have h := ih (n / 16) (by omega)
      refine ⟨by simp, fun m hm => ?_⟩
      cases m with
      | zero => simp at hm; omega
      | succ m =>
        have := h.2 m (by rw [Nat.pow_succ] at hm; omega)
        simp; omega

theorem ph_any (n : Nat) (hn : n < 2147483648) (w : World) (h : TZ w) :
    Calls Tryd.prog 96 #[.int .i32 n] w fun e w' => e = .returned (.string ⟨(pad4 (hexD n)).toArray⟩) ∧ Below w.heap.size w w' := by
  have C := Lib.hid (fi59_any n (by omega) w h)
  have hl := hexD_len n
  have h8 := hl.2 7 (by omega)
  have h1 := hl.1
  have h0 : (0 : Int) ≤ (n : Int) := by omega
  have h2 : (n : Int) < 2147483648 := by omega
  have HR := Lib.hid rep_any
  unfold pad4
  generalize hexD n = ds at *
  have HM := Lib.hid (show max (0 : Int) (4 - (ds.length : Int)) = ((4 - ds.length : Nat) : Int) by omega)
  have h1' : (1 : Int) ≤ (ds.length : Int) := by omega
  have h8' : (ds.length : Int) ≤ 8 := by omega
  clear hl hn h
  go_enter Tryd.func96, Tryd.ntmps96
  go_wp2_with fail
  refine C.out.mono ?_
  rintro e w1 ⟨rfl, hb⟩
  go_wp2_with fail
  rw [HM.out]
  refine (HR.out _ (by omega) w1).mono ?_
  rintro e w2 ⟨rfl, hb2⟩
  have hbz := hb.trans (hb2.mono hb.size)
  go_wp2_with fail
  go_ret
  exact ⟨rfl, hbz⟩
end Go.Proofs.YtimiinnnmdcmhaaDoor
