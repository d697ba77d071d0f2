/-
  Contracts: ranges.parseRange.
-/
import Derived.BigRegion
import Derived.RegionTactic
import Derived.Test.YtphhdkffnboboaaGreatDoorPrA
import Derived.Test.YtphhdkffnboboaaGreatDoorPi3
namespace Go.Proofs.YtphhdkffnboboaaGreatDoor
open Go.RowKit Go.Shelf
open Go.Lib

/-- The variable that is not listed holds some number. -/
def MX (w : World) : Prop := ∃ m : Int, w.cell? ⟨0, 0, none⟩ = some (.int .i64 m) ∧ 1 ≤ w.heap.size
theorem MX.below {w w' : World} (h : MX w) (hb : Below w.heap.size w w') : MX w' := by
  obtain ⟨m, h1, h2⟩ := h
  exact ⟨m, (hb.cell (p := ⟨0, 0, none⟩) (by show 0 < w.heap.size; omega)).trans h1, Nat.le_trans h2 hb.size⟩

/-- The two parts of a range's text. -/
def parts2 (L : List UInt8) : List UInt8 × List UInt8 := if (Lib.cut L [45]).2.2 then ((Lib.cut L [45]).1, (Lib.cut L [45]).2.1) else ((Lib.cut L [45]).1, (Lib.cut L [45]).1)
/-- A range's text, read. -/
def prP (L : List UInt8) : Option Rng := match piE (parts2 L).1, piE (parts2 L).2 with
  | .ok a, .ok b => some (a, b)
  | _, _ => none
/-- What parseRange hands back. -/
def PrPost (R : Option Rng) (w : World) (e : Ending) (w' : World) : Prop :=
  ∃ a b : Int, I32 (a, b) ∧ e = .returned (.tuple #[.agg #[.int .i32 a, .int .i32 b], .bool R.isSome]) ∧ (∀ x, R = some x → x = (a, b)) ∧ Below w.heap.size w w'

theorem cut_any (s : ByteArray) (w : World) (hs : s.size ≤ 1000000) (h : MX w) :
    Calls Tryz.prog 34 #[.string s, .string ⟨#[45]⟩] w fun e w' => e = .returned (.tuple #[.string ⟨(Lib.cut s.data.toList [45]).1.toArray⟩, .string ⟨(Lib.cut s.data.toList [45]).2.1.toArray⟩, .bool (Lib.cut s.data.toList [45]).2.2]) ∧ Below w.heap.size w w' := by
  obtain ⟨m, h1, h2⟩ := h
  have C : Calls Tryz.prog 34 #[.string s, .string ⟨#[45]⟩] w _ := Any.strings_Cut Tryz.cutL s ⟨#[45]⟩ m w (by omega) h1
  refine C.mono ?_
  rintro e w' ⟨rfl, n, rfl⟩
  exact ⟨rfl, below_drewN (Below.refl _ _) n⟩
theorem cut_len (L : List UInt8) : (Lib.cut L [45]).1.length ≤ L.length ∧ (Lib.cut L [45]).2.1.length ≤ L.length := by
  unfold Lib.cut
  split
  · simp only [List.length_take, List.length_drop]
    omega
  · simp

set_option maxHeartbeats 4000000 in
theorem parseRange_any (s : ByteArray) (w : World) (hs : s.size ≤ 100000) (hM : MX w) (hE : EV w) :
    Calls Tryz.prog 20 #[.string s] w (PrPost (prP s.data.toList) w) := by
  have q1 : ∀ w, (binOp .eql 63 .nilIface .nilIface).run Tryz.prog w = .ok (.bool true) w := fun _ => by kernel_rfl
  have q2 : ∀ w p, (binOp .eql 63 (.iface 100 (.pointer p)) .nilIface).run Tryz.prog w = .ok (.bool false) w := fun _ _ => by kernel_rfl
  have hcl := cut_len s.data.toList
  have hsz : s.data.toList.length = s.size := by rw [Array.length_toList]; rfl
  have hb0 := below_new w (.cells #[.int .i32 0, .int .i32 0] 39)
  have f0 : (w.alloc (.cells #[.int .i32 0, .int .i32 0] 39)).cell? ⟨w.heap.size, 0, none⟩ = some (.int .i32 0) := by simp
  have f1 : (w.alloc (.cells #[.int .i32 0, .int .i32 0] 39)).cell? ⟨w.heap.size, 1, none⟩ = some (.int .i32 0) := by simp
  have z0 : (w.alloc (.cells #[.int .i32 0, .int .i32 0] 39)).frozen? ⟨w.heap.size, 0, none⟩ = false := by simp
  have z1 : (w.alloc (.cells #[.int .i32 0, .int .i32 0] 39)).frozen? ⟨w.heap.size, 1, none⟩ = false := by simp
  have hz : w.heap.size < (w.alloc (.cells #[.int .i32 0, .int .i32 0] 39)).heap.size := by simp
  generalize hW : w.alloc (.cells #[.int .i32 0, .int .i32 0] 39) = W0 at *
  have hMW := hM.below hb0
  have hEW := hE.below hb0
  have C1 := cut_any s W0 (by omega) hMW
  obtain ⟨T, hT⟩ : ∃ T, Lib.cut s.data.toList [45] = T := ⟨_, rfl⟩
  have hP : prP s.data.toList = match piE (if T.2.2 then (T.1, T.2.1) else (T.1, T.1)).1, piE (if T.2.2 then (T.1, T.2.1) else (T.1, T.1)).2 with
    | .ok a, .ok b => some (a, b)
    | _, _ => none := by unfold prP parts2; rw [hT]
  rw [hT] at C1 hcl
  obtain ⟨lowL, highL, two⟩ := T
  simp only at C1 hcl hP
  have HW := Lib.hid hW
  have H := Lib.hid (And.intro hb0 (And.intro f0 (And.intro f1 (And.intro z0 (And.intro z1 (And.intro hz hEW))))))
  have C1 := Lib.hid C1
  have CL := Lib.hid (fun W (hW : EV W) => pp_any ⟨lowL.toArray⟩ W (by show lowL.toArray.size ≤ 1000000; rw [List.size_toArray]; omega) hW)
  have CH := Lib.hid (fun W (hW : EV W) => pp_any ⟨highL.toArray⟩ W (by show highL.toArray.size ≤ 1000000; rw [List.size_toArray]; omega) hW)
  have HP := Lib.hid hP
  generalize prP s.data.toList = R at *
  clear hb0 f0 f1 z0 z1 hz hMW hEW hM hE hW hT hcl hsz hP
  cases two
  · go_enter Tryz.func20, Tryz.ntmps20
    go_wp2_with fail
    rw [HW.out]
    go_wp2_with fail
    refine C1.out.mono ?_
    rintro e w1 ⟨rfl, hb1⟩
    have HE1 := Lib.hid (H.out.2.2.2.2.2.2.below hb1)
    go_wp2_with fail
    refine (CL.out _ HE1.out).mono ?_
    rintro e w2 ⟨v1, ev1, rfl, ⟨a0, a1, hR1⟩, hb⟩
    have hb2 := hb1.trans (hb.mono hb1.size)
    have HE2 := Lib.hid (HE1.out.below hb)
    clear hb hb1
    go_wp2_with fail
    refine (CL.out _ HE2.out).mono ?_
    rintro e w3 ⟨v2, ev2, rfl, ⟨b0, b1, hR2⟩, hb⟩
    have hb3 := hb2.trans (hb.mono hb2.size)
    clear hb hb2
    have g0 : w3.cell? ⟨w.heap.size, 0, none⟩ = some (.int .i32 0) := (hb3.cell (p := ⟨w.heap.size, 0, none⟩) H.out.2.2.2.2.2.1).trans H.out.2.1
    have g1 : w3.cell? ⟨w.heap.size, 1, none⟩ = some (.int .i32 0) := (hb3.cell (p := ⟨w.heap.size, 1, none⟩) H.out.2.2.2.2.2.1).trans H.out.2.2.1
    have y0 : w3.frozen? ⟨w.heap.size, 0, none⟩ = false := (hb3.frozen (p := ⟨w.heap.size, 0, none⟩) H.out.2.2.2.2.2.1).trans H.out.2.2.2.1
    have y1 : w3.frozen? ⟨w.heap.size, 1, none⟩ = false := (hb3.frozen (p := ⟨w.heap.size, 1, none⟩) H.out.2.2.2.2.2.1).trans H.out.2.2.2.2.1
    have HB := Lib.hid (H.out.1.trans (hb3.mono H.out.1.size))
    clear hb3
    have HP2 := HP.out
    simp only [Bool.false_eq_true, if_false] at HP2
    generalize piE lowL = R1 at *
    skip
    have HP2 := Lib.hid HP2
    have HI : Hid (I32 (v1, v2)) := Lib.hid ⟨a0, a1, b0, b1⟩
    rcases R1 with _ | n1
    · obtain ⟨p1, rfl⟩ := hR1
      obtain ⟨p2, rfl⟩ := hR2
      go_wp2_with fail
      go_region
      all_goals
        go_wp2
        have hbz := ((HB.out.setCell (p := ⟨w.heap.size, 0, none⟩) (Nat.le_refl _) (.int .i32 v1)).setCell (p := ⟨w.heap.size, 1, none⟩) (Nat.le_refl _) (.int .i32 v2)).drew
        refine bodyPost_ret (v := .tuple #[.agg #[.int .i32 v1, .int .i32 v2], .bool false]) (by simp [results, Tryz.results20, go_sem, g0, g1]) rfl ⟨v1, v2, HI.out, ?_, ?_, hbz⟩
        · rw [HP2.out]; rfl
        · intro x hx; rw [HP2.out] at hx; cases hx
    · obtain ⟨rfl, rfl⟩ := hR1
      obtain ⟨rfl, rfl⟩ := hR2
      go_wp2_with fail
      go_region
      all_goals
        go_wp2
        have hbz := ((HB.out.setCell (p := ⟨w.heap.size, 0, none⟩) (Nat.le_refl _) (.int .i32 v2)).setCell (p := ⟨w.heap.size, 1, none⟩) (Nat.le_refl _) (.int .i32 v2)).drew
        refine bodyPost_ret (v := .tuple #[.agg #[.int .i32 v2, .int .i32 v2], .bool true]) (by simp [results, Tryz.results20, go_sem, g0, g1]) rfl ⟨v2, v2, HI.out, ?_, ?_, hbz⟩
        · rw [HP2.out]; rfl
        · intro x hx; rw [HP2.out] at hx; cases hx; rfl
  · go_enter Tryz.func20, Tryz.ntmps20
    go_wp2_with fail
    rw [HW.out]
    go_wp2_with fail
    refine C1.out.mono ?_
    rintro e w1 ⟨rfl, hb1⟩
    have HE1 := Lib.hid (H.out.2.2.2.2.2.2.below hb1)
    go_wp2_with fail
    refine (CL.out _ HE1.out).mono ?_
    rintro e w2 ⟨v1, ev1, rfl, ⟨a0, a1, hR1⟩, hb⟩
    have hb2 := hb1.trans (hb.mono hb1.size)
    have HE2 := Lib.hid (HE1.out.below hb)
    clear hb hb1
    go_wp2_with fail
    refine (CH.out _ HE2.out).mono ?_
    rintro e w3 ⟨v2, ev2, rfl, ⟨b0, b1, hR2⟩, hb⟩
    have hb3 := hb2.trans (hb.mono hb2.size)
    clear hb hb2
    have g0 : w3.cell? ⟨w.heap.size, 0, none⟩ = some (.int .i32 0) := (hb3.cell (p := ⟨w.heap.size, 0, none⟩) H.out.2.2.2.2.2.1).trans H.out.2.1
    have g1 : w3.cell? ⟨w.heap.size, 1, none⟩ = some (.int .i32 0) := (hb3.cell (p := ⟨w.heap.size, 1, none⟩) H.out.2.2.2.2.2.1).trans H.out.2.2.1
    have y0 : w3.frozen? ⟨w.heap.size, 0, none⟩ = false := (hb3.frozen (p := ⟨w.heap.size, 0, none⟩) H.out.2.2.2.2.2.1).trans H.out.2.2.2.1
    have y1 : w3.frozen? ⟨w.heap.size, 1, none⟩ = false := (hb3.frozen (p := ⟨w.heap.size, 1, none⟩) H.out.2.2.2.2.2.1).trans H.out.2.2.2.2.1
    have HB := Lib.hid (H.out.1.trans (hb3.mono H.out.1.size))
    clear hb3
    have HP2 := HP.out
    simp only [if_true] at HP2
    generalize piE lowL = R1 at *
    generalize piE highL = R2 at *
    have HP2 := Lib.hid HP2
    have HI : Hid (I32 (v1, v2)) := Lib.hid ⟨a0, a1, b0, b1⟩
    rcases R1 with _ | n1 <;> rcases R2 with _ | n2
    · obtain ⟨p1, rfl⟩ := hR1
      obtain ⟨p2, rfl⟩ := hR2
      go_wp2_with fail
      go_region
      all_goals
        go_wp2
        have hbz := ((HB.out.setCell (p := ⟨w.heap.size, 0, none⟩) (Nat.le_refl _) (.int .i32 v1)).setCell (p := ⟨w.heap.size, 1, none⟩) (Nat.le_refl _) (.int .i32 v2)).drew
        refine bodyPost_ret (v := .tuple #[.agg #[.int .i32 v1, .int .i32 v2], .bool false]) (by simp [results, Tryz.results20, go_sem, g0, g1]) rfl ⟨v1, v2, HI.out, ?_, ?_, hbz⟩
        · rw [HP2.out]; rfl
        · intro x hx; rw [HP2.out] at hx; cases hx
    · obtain ⟨p1, rfl⟩ := hR1
      obtain ⟨rfl, rfl⟩ := hR2
      go_wp2_with fail
      go_region
      all_goals
        go_wp2
        have hbz := ((HB.out.setCell (p := ⟨w.heap.size, 0, none⟩) (Nat.le_refl _) (.int .i32 v1)).setCell (p := ⟨w.heap.size, 1, none⟩) (Nat.le_refl _) (.int .i32 v2)).drew
        refine bodyPost_ret (v := .tuple #[.agg #[.int .i32 v1, .int .i32 v2], .bool false]) (by simp [results, Tryz.results20, go_sem, g0, g1]) rfl ⟨v1, v2, HI.out, ?_, ?_, hbz⟩
        · rw [HP2.out]; rfl
        · intro x hx; rw [HP2.out] at hx; cases hx
    · obtain ⟨rfl, rfl⟩ := hR1
      obtain ⟨p2, rfl⟩ := hR2
      go_wp2_with fail
      go_region
      all_goals
        go_wp2
        have hbz := ((HB.out.setCell (p := ⟨w.heap.size, 0, none⟩) (Nat.le_refl _) (.int .i32 v1)).setCell (p := ⟨w.heap.size, 1, none⟩) (Nat.le_refl _) (.int .i32 v2)).drew
        refine bodyPost_ret (v := .tuple #[.agg #[.int .i32 v1, .int .i32 v2], .bool false]) (by simp [results, Tryz.results20, go_sem, g0, g1]) rfl ⟨v1, v2, HI.out, ?_, ?_, hbz⟩
        · rw [HP2.out]; rfl
        · intro x hx; rw [HP2.out] at hx; cases hx
    · obtain ⟨rfl, rfl⟩ := hR1
      obtain ⟨rfl, rfl⟩ := hR2
      go_wp2_with fail
      go_region
      all_goals
        go_wp2
        have hbz := ((HB.out.setCell (p := ⟨w.heap.size, 0, none⟩) (Nat.le_refl _) (.int .i32 v1)).setCell (p := ⟨w.heap.size, 1, none⟩) (Nat.le_refl _) (.int .i32 v2)).drew
        refine bodyPost_ret (v := .tuple #[.agg #[.int .i32 v1, .int .i32 v2], .bool true]) (by simp [results, Tryz.results20, go_sem, g0, g1]) rfl ⟨v1, v2, HI.out, ?_, ?_, hbz⟩
        · rw [HP2.out]; rfl
        · intro x hx; rw [HP2.out] at hx; cases hx; rfl
end Go.Proofs.YtphhdkffnboboaaGreatDoor
