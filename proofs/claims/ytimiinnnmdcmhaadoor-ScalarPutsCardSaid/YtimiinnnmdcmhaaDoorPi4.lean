/-
  Contract: scalar.Parse: of any text.
-/
import Derived.Test.YtimiinnnmdcmhaaDoorPi3
namespace Go.Proofs.YtimiinnnmdcmhaaDoor
open Go.RowKit Go.Shelf
open Go.Lib

/-- A text's scalar. -/
def scP (L : List UInt8) : Option Int :=
  if Lib.hasPrefix L [85, 43] then (match piE (Lib.trimPrefix L [85, 43]) with
    | .ok n => if Lib.validRune n then (if scT n = L then some n else none) else none
    | .error _ => none) else none
def scPV : Option Int → Value
  | some n => .tuple #[.int .i32 n, .int .i64 0]
  | none => .tuple #[.int .i32 0, .int .i64 4]

set_option maxHeartbeats 4000000 in
set_option maxRecDepth 100000 in
theorem parse_any (s : ByteArray) (w : World) (hs : s.size ≤ 100000) (hT : TZ w) (hE : EV w) :
    Calls Tryd.prog 24 #[.string s] w fun e w' => e = .returned (scPV (scP s.data.toList)) ∧ Below w.heap.size w w' := by
  have q4 : ∀ w p, (binOp .neq 91 (.iface 145 (.pointer p)) .nilIface).run Tryd.prog w = .ok (.bool true) w := fun _ _ => by kernel_rfl
  have C1 : Calls Tryd.prog 61 #[.string s, .string ⟨#[85, 43]⟩] w _ := Any.strings_CutPrefix Tryd.cutpL s ⟨#[85, 43]⟩ w
  rw [show (⟨#[85, 43]⟩ : ByteArray).data.toList = [85, 43] from rfl] at C1
  have hdl : (Lib.trimPrefix s.data.toList [85, 43]).length ≤ s.data.toList.length := by
    unfold Lib.trimPrefix
    split
    · simp
    · exact Nat.le_refl _
  have hds : (⟨(Lib.trimPrefix s.data.toList [85, 43]).toArray⟩ : ByteArray).size ≤ 1000000 := by
    have h1 : s.data.toList.length = s.size := by simp
    have h2 : (⟨(Lib.trimPrefix s.data.toList [85, 43]).toArray⟩ : ByteArray).size = (Lib.trimPrefix s.data.toList [85, 43]).length := rfl
    omega
  have C2 := fun W (hW : EV W) => pp_any ⟨(Lib.trimPrefix s.data.toList [85, 43]).toArray⟩ W hds hW
  rw [show (⟨(Lib.trimPrefix s.data.toList [85, 43]).toArray⟩ : ByteArray).data.toList = Lib.trimPrefix s.data.toList [85, 43] from rfl] at C2
  have CV := Lib.hid (fun n W => (show Calls Tryd.prog 63 #[.int .i32 n] W _ from Any.utf8_ValidRune Tryd.lays119 n W))
  have CS := Lib.hid sp_any
  have HEQ := Lib.hid (fun n => (show ((⟨(scT n).toArray⟩ : ByteArray).toList == s.toList) = decide (scT n = s.data.toList) by
    rw [ByteArray.toList_eq, ByteArray.toList_eq, Bool.eq_iff_iff]
    simp))
  have E : scP s.data.toList = if Lib.hasPrefix s.data.toList [85, 43] then (match piE (Lib.trimPrefix s.data.toList [85, 43]) with
    | .ok n => if Lib.validRune n then (if decide (scT n = s.data.toList) = true then some n else none) else none
    | .error _ => none) else none := by
    unfold scP
    simp only [decide_eq_true_eq]
  rw [E]
  clear E hdl hs hds
  generalize Lib.trimPrefix s.data.toList [85, 43] = D at *
  generalize Lib.hasPrefix s.data.toList [85, 43] = M at *
  generalize piE D = R at *
  generalize s.data.toList = L at *
  have C1 := Lib.hid C1
  have C2 := Lib.hid C2
  have HT := Lib.hid hT
  have HE := Lib.hid hE
  clear hT hE
  have fin : ∀ (w1 : World), Below w.heap.size w w1 → True := fun _ _ => trivial
  clear fin
  cases M
  · go_enter Tryd.func24, Tryd.ntmps24
    go_wp2_with fail
    refine C1.out.mono ?_
    rintro e w1 ⟨rfl, rfl⟩
    go_wp2_with fail
    refine (C2.out _ HE.out).mono ?_
    rintro e w2 ⟨v, ev, rfl, ⟨v0, v1, _⟩, hb⟩
    go_wp2
    go_ret2
    exact ⟨rfl, hb⟩
  · rcases R with b | n
    · go_enter Tryd.func24, Tryd.ntmps24
      go_wp2_with fail
      refine C1.out.mono ?_
      rintro e w1 ⟨rfl, rfl⟩
      go_wp2_with fail
      refine (C2.out _ HE.out).mono ?_
      rintro e w2 ⟨v, ev, rfl, ⟨v0, v1, p, rfl⟩, hb⟩
      go_wp2
      go_ret2
      exact ⟨rfl, hb⟩
    · obtain ⟨V, hV⟩ : ∃ V, Lib.validRune n = V := ⟨_, rfl⟩
      have CV2 := CV.out n
      have HEQ2 := HEQ.out n
      rw [hV] at CV2
      obtain ⟨Q, hQ⟩ : ∃ Q, decide (scT n = L) = Q := ⟨_, rfl⟩
      rw [hQ] at HEQ2
      have E2 : (match (Except.ok n : Except Bool Int) with
        | .ok n => if Lib.validRune n then (if decide (scT n = L) = true then some n else none) else none
        | .error _ => none) = if V then (if Q = true then some n else none) else none := by
        show (if Lib.validRune n then (if decide (scT n = L) = true then some n else none) else none) = _
        rw [hV, hQ]
      rw [if_pos rfl, E2]
      have CS2 := fun h0 h1 W hW => CS.out n h0 h1 W hW
      generalize (⟨(scT n).toArray⟩ : ByteArray) = tx at *
      have CS2 := Lib.hid CS2
      have CV2 := Lib.hid CV2
      have HEQ2 := Lib.hid HEQ2
      clear hV hQ HEQ CV CS E2
      go_enter Tryd.func24, Tryd.ntmps24
      go_wp2_with fail
      refine C1.out.mono ?_
      rintro e w1 ⟨rfl, rfl⟩
      go_wp2_with fail
      refine (C2.out _ HE.out).mono ?_
      rintro e w2 ⟨v, ev, rfl, ⟨v0, v1, rfl, rfl⟩, hb⟩
      have HT2 := Lib.hid (HT.out.below hb)
      go_wp2_with fail
      refine (CV2.out _).mono ?_
      rintro e w3 ⟨rfl, rfl⟩
      cases V
      · go_wp2
        go_ret2
        exact ⟨rfl, hb⟩
      · go_wp2_with fail
        refine (CS2.out v0 v1 _ HT2.out).mono ?_
        rintro e w4 ⟨rfl, hb4⟩
        have hbz := hb.trans (hb4.mono hb.size)
        have heq := HEQ2.out
        cases Q
        · go_wp2
          go_ret2
          exact ⟨rfl, hbz⟩
        · go_wp2
          go_ret2
          exact ⟨rfl, hbz⟩
end Go.Proofs.YtimiinnnmdcmhaaDoor
