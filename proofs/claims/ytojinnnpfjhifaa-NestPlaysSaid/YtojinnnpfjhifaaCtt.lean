/-
  Contracts: what reads a nest: shows, count, Hidden, Pre, NoBreak, step, forces.
-/
import Derived.BigQuiet
import Derived.Test.YtojinnnpfjhifaaNma
import Derived.Test.YtojinnnpfjhifaaLaz
namespace Go.Proofs.Ytojinnnpfjhifaa
open Go.RowKit Go.Shelf Go.Lib

def ctA (c : Ct) : Array Value := #[.int .i64 (c.h : Int), .int .i64 (c.p : Int), .int .i64 (c.n : Int)]
/-- A nest, as it lies. -/
def NeAt (w : World) (g : Nat) (c : Ct) : Prop := Cells w g 47 (ctA c)
/-- One of the counts. -/
def Ct.get (c : Ct) : Nat → Nat
  | 0 => c.h
  | 1 => c.p
  | _ => c.n
/-- A token. -/
def tkA (kd fr to : Int) (nm : ByteArray) (r : Int) (sg : Bool) : Array Value := #[.int .i64 kd, .int .i64 fr, .int .i64 to, .string nm, .int .i32 r, .bool sg]

set_option maxRecDepth 100000 in
set_option maxHeartbeats 4000000 in
theorem shows_any (g : Nat) (c : Ct) (w : World) (h : NeAt w g c) : Calls Try.prog 15 #[.pointer (some ⟨g, 0, none⟩)] w fun e w' => e = .returned (.bool (decide (c.h = 0))) ∧ w' = w := by
  have x0 : w.cell? ⟨g, 0, none⟩ = some (.int .i64 (c.h : Int)) := h.cell 0
  clear h
  obtain ⟨a, ha⟩ : ∃ a, c.h = a := ⟨_, rfl⟩
  rw [ha] at x0 ⊢
  clear ha
  have e0 : (((a : Nat) : Int) == 0) = decide (a = 0) := by
    by_cases q : a = 0
    · subst q; rfl
    · rw [decide_eq_false q]; simpa using q
  go_enter Try.func15, Try.ntmps15
  go_wp2_with fail
  go_ret
  exact ⟨by simp, rfl⟩
set_option maxRecDepth 100000 in
set_option maxHeartbeats 4000000 in
theorem count_any (g k : Nat) (hk : k < 3) (c : Ct) (w : World) (h : NeAt w g c) : Calls Try.prog 21 #[.pointer (some ⟨g, 0, none⟩), .int .i64 (k : Int)] w fun e w' => e = .returned (.int .i64 (c.get k : Int)) ∧ w' = w := by
  have x0 : w.cell? ⟨g, k, none⟩ = some (.int .i64 (c.get k : Int)) := by
    refine (h.cell k).trans ?_
    obtain rfl | rfl | rfl : k = 0 ∨ k = 1 ∨ k = 2 := by omega
    all_goals rfl
  clear h
  obtain ⟨a, ha⟩ : ∃ a, c.get k = a := ⟨_, rfl⟩
  rw [ha] at x0 ⊢
  clear ha
  go_enter Try.func21, Try.ntmps21
  go_wp2_with fail
  go_ret
  exact ⟨rfl, rfl⟩
set_option maxRecDepth 100000 in
set_option maxHeartbeats 4000000 in
theorem count_nil (k : Int) (w : World) : Calls Try.prog 21 #[.pointer none, .int .i64 k] w fun e w' => e = .returned (.int .i64 0) ∧ w' = w := by
  go_enter Try.func21, Try.ntmps21
  go_wp2_with fail
  go_ret
  exact ⟨rfl, rfl⟩
set_option maxRecDepth 100000 in
set_option maxHeartbeats 4000000 in
theorem hid_any (g : Nat) (c : Ct) (w : World) (h : NeAt w g c) : Calls Try.prog 11 #[.pointer (some ⟨g, 0, none⟩)] w fun e w' => e = .returned (.int .i64 (c.h : Int)) ∧ w' = w := by
  have C := count_any g 0 (by omega) c w h
  go_enter Try.func11, Try.ntmps11
  go_wp2_with fail
  refine C.mono ?_
  rintro e _ ⟨rfl, rfl⟩
  go_wp2_with fail
  go_ret
  exact ⟨rfl, rfl⟩
set_option maxRecDepth 100000 in
set_option maxHeartbeats 4000000 in
theorem pre_any (g : Nat) (c : Ct) (w : World) (h : NeAt w g c) : Calls Try.prog 12 #[.pointer (some ⟨g, 0, none⟩)] w fun e w' => e = .returned (.int .i64 (c.p : Int)) ∧ w' = w := by
  have C := count_any g 1 (by omega) c w h
  go_enter Try.func12, Try.ntmps12
  go_wp2_with fail
  refine C.mono ?_
  rintro e _ ⟨rfl, rfl⟩
  go_wp2_with fail
  go_ret
  exact ⟨rfl, rfl⟩
set_option maxRecDepth 100000 in
set_option maxHeartbeats 4000000 in
theorem nob_any (g : Nat) (c : Ct) (w : World) (h : NeAt w g c) : Calls Try.prog 13 #[.pointer (some ⟨g, 0, none⟩)] w fun e w' => e = .returned (.int .i64 (c.n : Int)) ∧ w' = w := by
  have C := count_any g 2 (by omega) c w h
  go_enter Try.func13, Try.ntmps13
  go_wp2_with fail
  refine C.mono ?_
  rintro e _ ⟨rfl, rfl⟩
  go_wp2_with fail
  go_ret
  exact ⟨rfl, rfl⟩
set_option maxRecDepth 100000 in
set_option maxHeartbeats 4000000 in
theorem hid_nil (w : World) : Calls Try.prog 11 #[.pointer none] w fun e w' => e = .returned (.int .i64 0) ∧ w' = w := by
  have C := count_nil 0 w
  go_enter Try.func11, Try.ntmps11
  go_wp2_with fail
  refine C.mono ?_
  rintro e _ ⟨rfl, rfl⟩
  go_wp2_with fail
  go_ret
  exact ⟨rfl, rfl⟩
set_option maxRecDepth 100000 in
set_option maxHeartbeats 4000000 in
theorem pre_nil (w : World) : Calls Try.prog 12 #[.pointer none] w fun e w' => e = .returned (.int .i64 0) ∧ w' = w := by
  have C := count_nil 1 w
  go_enter Try.func12, Try.ntmps12
  go_wp2_with fail
  refine C.mono ?_
  rintro e _ ⟨rfl, rfl⟩
  go_wp2_with fail
  go_ret
  exact ⟨rfl, rfl⟩
set_option maxRecDepth 100000 in
set_option maxHeartbeats 4000000 in
theorem nob_nil (w : World) : Calls Try.prog 13 #[.pointer none] w fun e w' => e = .returned (.int .i64 0) ∧ w' = w := by
  have C := count_nil 2 w
  go_enter Try.func13, Try.ntmps13
  go_wp2_with fail
  refine C.mono ?_
  rintro e _ ⟨rfl, rfl⟩
  go_wp2_with fail
  go_ret
  exact ⟨rfl, rfl⟩
set_option maxRecDepth 100000 in
set_option maxHeartbeats 4000000 in
theorem step_any (N : Nat) (hN : N < 128) (kd fr to : Int) (nm : ByteArray) (r : Int) (sg : Bool) (w : World) :
    Calls Try.prog 17 #[.agg (tkA kd fr to nm r sg), .int .i64 (N : Int)] w fun e w' => e = .returned (.int .i64 (byN N kd sg)) ∧ Below w.heap.size w w' := by
  have a2 := and2 N hN
  unfold byN tkA
  obtain ⟨W1, hW1⟩ : ∃ V, w.alloc (.cells #[.int .i64 kd, .int .i64 fr, .int .i64 to, .string nm, .int .i32 r, .bool sg] 33) = V := ⟨_, rfl⟩
  have b1 : Below w.heap.size w W1 := by rw [← hW1]; exact below_new w _
  have o1 : Cells W1 w.heap.size 33 #[.int .i64 kd, .int .i64 fr, .int .i64 to, .string nm, .int .i32 r, .bool sg] := by rw [← hW1]; exact cells_new _ _ _
  have q0 := o1.cell 0
  have q5 := o1.cell 5
  simp at q0 q5
  have HW := Lib.hid (And.intro hW1 b1)
  clear hW1 b1 o1
  cases hb : isB N 1 with
  | true =>
    rw [hb] at a2
    simp only [if_true] at a2 ⊢
    clear hb
    go_enter Try.func17, Try.ntmps17
    go_wp2_with fail
    rw [HW.out.1]
    go_wp2_with fail
    go_ret
    exact ⟨rfl, HW.out.2⟩
  | false =>
    rw [hb] at a2
    simp only [Bool.false_eq_true, if_false] at a2 ⊢
    clear hb
    by_cases k3 : kd = 3
    · subst k3
      simp only [if_true]
      go_enter Try.func17, Try.ntmps17
      go_wp2_with fail
      rw [HW.out.1]
      go_wp2_with fail
      go_ret
      exact ⟨rfl, HW.out.2⟩
    · rw [if_neg k3]
      have k3' : (kd == 3) = false := by simpa using k3
      clear k3
      cases sg
      · go_enter Try.func17, Try.ntmps17
        go_wp2_with fail
        rw [HW.out.1]
        go_wp2_with fail
        go_ret
        exact ⟨rfl, HW.out.2⟩
      · go_enter Try.func17, Try.ntmps17
        go_wp2_with fail
        rw [HW.out.1]
        go_wp2_with fail
        go_ret
        exact ⟨rfl, HW.out.2⟩
set_option maxRecDepth 100000 in
set_option maxHeartbeats 4000000 in
theorem forces_any (N : Nat) (hN : N < 128) (kd : Int) (w : World) :
    Calls Try.prog 18 #[.int .i64 kd, .int .i64 (N : Int)] w fun e w' => e = .returned (.bool (forcesN N kd)) ∧ w' = w := by
  have a1 := and1 N hN
  have a2 := and2 N hN
  have a33 := and33 N hN
  unfold forcesN
  by_cases k3 : kd = 3
  · subst k3
    simp only [if_true]
    clear a33
    cases h0 : isB N 0 <;> cases h1 : isB N 1 <;> rw [h0] at a1 <;> rw [h1] at a2 <;> simp only [Bool.false_eq_true, if_false, if_true] at a1 a2 ⊢ <;> clear h0 h1
    all_goals
      go_enter Try.func18, Try.ntmps18
      go_wp2_with fail
      go_ret
      exact ⟨rfl, rfl⟩
  · rw [if_neg k3]
    have k3' : (kd == 3) = false := by simpa using k3
    clear k3 a1 a2
    generalize (isB N 0 || isB N 5) = b at *
    cases b
    all_goals
      simp only [Bool.not_true, Bool.not_false] at a33
      go_enter Try.func18, Try.ntmps18
      go_wp2_with fail
      go_ret
      exact ⟨by simp [bne, a33], rfl⟩
end Go.Proofs.Ytojinnnpfjhifaa
