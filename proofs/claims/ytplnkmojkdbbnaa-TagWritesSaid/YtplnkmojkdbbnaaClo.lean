/-
  Contracts: oneOf, noneOf, what they make, and the value's own function; isLetter.
-/
import Derived.Test.YtplnkmojkdbbnaaUnt
import Derived.Test.YtplnkmojkdbbnaaLay
namespace Go.Proofs.Ytplnkmojkdbbnaa
open Go.RowKit Go.Shelf Go.Lib Go.Maps

def strV (l : List Nat) : Value := .string ⟨(u8s l).toArray⟩
theorem ofNat_inj {a b : Nat} (ha : a < 256) (hb : b < 256) (h : UInt8.ofNat a = UInt8.ofNat b) : a = b := by
  have := congrArg UInt8.toNat h
  simp [Nat.mod_eq_of_lt ha, Nat.mod_eq_of_lt hb] at this
  exact this
theorem indexByte_mem (c : Nat) (hc : c < 256) : ∀ (l : List Nat), (∀ x ∈ l, x < 256) → decide (0 ≤ Lib.indexByte (u8s l) (UInt8.ofNat c)) = l.contains c ∧ -1 ≤ Lib.indexByte (u8s l) (UInt8.ofNat c)
  | [], _ => ⟨rfl, Int.le_refl (-1)⟩
  | x :: l, h => by
    have ih := indexByte_mem c hc l (fun y hy => h y (by simp [hy]))
    have hx := h x (by simp)
    show decide (0 ≤ Lib.indexByte (UInt8.ofNat x :: u8s l) (UInt8.ofNat c)) = _ ∧ -1 ≤ Lib.indexByte (UInt8.ofNat x :: u8s l) (UInt8.ofNat c)
    rw [Lib.indexByte]
    by_cases e : x = c
    · subst e
      simp
    · have e1 : (UInt8.ofNat x == UInt8.ofNat c) = false := by
        rw [beq_eq_false_iff_ne]
        exact fun h => e (ofNat_inj hx hc h)
      have e2 : (x :: l).contains c = l.contains c := by
        rw [List.contains_cons]
        simp [show ¬ c = x from fun h => e h.symm]
      rw [e1, e2, ← ih.1]
      simp only [Bool.false_eq_true, if_false]
      have := ih.2
      by_cases e3 : Lib.indexByte (u8s l) (UInt8.ofNat c) = -1
      · simp [e3]
      · have e4 : (Lib.indexByte (u8s l) (UInt8.ofNat c) == -1) = false := by rw [beq_eq_false_iff_ne]; exact e3
        rw [e4]
        simp only [Bool.false_eq_true, if_false]
        refine ⟨?_, by omega⟩
        congr 1
        apply propext
        constructor <;> intro h <;> omega
theorem toUInt8_nat (c : Nat) : ((c : Int).toNat).toUInt8 = UInt8.ofNat c := by simp
set_option maxHeartbeats 4000000 in
set_option maxRecDepth 100000 in
theorem one_any (l : List Nat) (hl : ∀ x ∈ l, x < 256) (gs : Nat) (w : World) (hc : Cells w gs 9 #[strV l]) (c : Nat) (h256 : c < 256) :
    Calls Try.prog 35 #[.int .u8 (c : Int), .pointer (some ⟨gs, 0, none⟩)] w fun e w' => e = .returned (.bool (l.contains c)) ∧ Below w.heap.size w w' := by
  have q0 := hc.cell 0
  simp [strV] at q0
  have C := Try.strings_IndexByte ⟨(u8s l).toArray⟩ (c : Int) w
  have hi := (indexByte_mem c h256 l hl).1
  rw [toUInt8_nat] at C
  simp only at C
  generalize Lib.indexByte (u8s l) (UInt8.ofNat c) = I at *
  rw [← hi]
  have HC := Lib.hid C
  clear C hi hc h256 hl
  go_enter Try.func35, Try.ntmps35
  go_wp2_with fail
  refine HC.out.mono ?_
  rintro r w1 ⟨rfl, e⟩
  obtain rfl := e.symm
  go_wp2_with fail
  go_ret
  exact ⟨rfl, Below.refl _ _⟩
set_option maxHeartbeats 4000000 in
set_option maxRecDepth 100000 in
theorem none_any (l : List Nat) (hl : ∀ x ∈ l, x < 256) (gs : Nat) (w : World) (hc : Cells w gs 9 #[strV l]) (c : Nat) (h256 : c < 256) :
    Calls Try.prog 52 #[.int .u8 (c : Int), .pointer (some ⟨gs, 0, none⟩)] w fun e w' => e = .returned (.bool (!l.contains c)) ∧ Below w.heap.size w w' := by
  have q0 := hc.cell 0
  simp [strV] at q0
  have C := Try.strings_IndexByte ⟨(u8s l).toArray⟩ (c : Int) w
  have hi := (indexByte_mem c h256 l hl).1
  rw [toUInt8_nat] at C
  simp only at C
  generalize Lib.indexByte (u8s l) (UInt8.ofNat c) = I at *
  rw [← hi]
  have e0 : (!decide (0 ≤ I)) = decide (I < 0) := by by_cases h : 0 ≤ I <;> simp [h] <;> omega
  rw [e0]
  have HC := Lib.hid C
  clear C hi hc h256 hl e0
  go_enter Try.func52, Try.ntmps52
  go_wp2_with fail
  refine HC.out.mono ?_
  rintro r w1 ⟨rfl, e⟩
  obtain rfl := e.symm
  go_wp2_with fail
  go_ret
  exact ⟨rfl, Below.refl _ _⟩
set_option maxHeartbeats 4000000 in
set_option maxRecDepth 100000 in
theorem quo_any (q : Nat) (gs : Nat) (w : World) (hc : Cells w gs 5 #[.int .u8 (q : Int)]) (c : Nat) :
    Calls Try.prog 53 #[.int .u8 (c : Int), .pointer (some ⟨gs, 0, none⟩)] w fun e w' => e = .returned (.bool (eQ q c)) ∧ Below w.heap.size w w' := by
  have q0 := hc.cell 0
  simp at q0
  have e0 : eQ q c = ((c : Int) == (q : Int)) := by
    rw [eQ, Bool.eq_iff_iff]; simp only [beq_iff_eq]; omega
  rw [e0]
  clear hc e0
  go_enter Try.func53, Try.ntmps53
  go_wp2_with fail
  go_ret
  exact ⟨rfl, Below.refl _ _⟩
set_option maxHeartbeats 4000000 in
set_option maxRecDepth 100000 in
theorem mk_one (l : List Nat) (w : World) : Calls Try.prog 22 #[strV l] w fun e w' => e = .returned (.func (Fn.func 35) #[] #[.pointer (some ⟨w.heap.size, 0, none⟩)]) ∧ w' = w.alloc (.cells #[strV l] 9) := by
  unfold strV
  go_enter Try.func22, Try.ntmps22
  go_wp2_with fail
  go_ret
  exact ⟨rfl, rfl⟩
set_option maxHeartbeats 4000000 in
set_option maxRecDepth 100000 in
theorem mk_none (l : List Nat) (w : World) : Calls Try.prog 40 #[strV l] w fun e w' => e = .returned (.func (Fn.func 52) #[] #[.pointer (some ⟨w.heap.size, 0, none⟩)]) ∧ w' = w.alloc (.cells #[strV l] 9) := by
  unfold strV
  go_enter Try.func40, Try.ntmps40
  go_wp2_with fail
  go_ret
  exact ⟨rfl, rfl⟩
/-- What ends the runs. -/
theorem con_name : ∀ c, ([9, 10, 12, 13, 32, 47, 62] : List Nat).contains c = eName c := fun c => by
  simp [eName, blkB, Bool.or_assoc]; rfl
theorem con_attr : ∀ c, ([9, 10, 12, 13, 32, 47, 62, 61] : List Nat).contains c = eAttr c := fun c => by
  simp [eAttr, blkB, Bool.or_assoc]; rfl
theorem con_val : ∀ c, ([9, 10, 12, 13, 32, 62] : List Nat).contains c = eVal c := fun c => by
  simp [eVal, blkB, Bool.or_assoc]; rfl
theorem con_sep : ∀ c, (!([9, 10, 12, 13, 32, 47] : List Nat).contains c) = eSep c := fun c => by
  simp [eSep, blkB, Bool.or_assoc]; rfl
theorem con_blk : ∀ c, (!([9, 10, 12, 13, 32] : List Nat).contains c) = eBlk c := fun c => by
  simp [eBlk, blkB, Bool.or_assoc]; rfl
set_option maxHeartbeats 4000000 in
set_option maxRecDepth 100000 in
theorem isLetter_any (c : Nat) (w : World) : Calls Try.prog 18 #[.int .u8 (c : Int)] w fun e w' => e = .returned (.bool (ltrB c)) ∧ w' = w := by
  have e0 : ltrB c = ((decide (65 ≤ (c : Int)) && decide ((c : Int) ≤ 90)) || (decide (97 ≤ (c : Int)) && decide ((c : Int) ≤ 122))) := by
    unfold ltrB
    rw [Bool.eq_iff_iff]
    simp
    omega
  rw [e0]
  generalize (c : Int) = X
  by_cases h1 : 65 ≤ X
  · have d1 : decide (65 ≤ X) = true := by simpa using h1
    by_cases h2 : X ≤ 90
    · have d2 : decide (X ≤ 90) = true := by simpa using h2
      go_enter Try.func18, Try.ntmps18
      go_wp2_with fail
      go_ret
      exact ⟨by simp [d1, d2], rfl⟩
    · have d2 : decide (X ≤ 90) = false := by simpa using h2
      by_cases h3 : 97 ≤ X
      · have d3 : decide (97 ≤ X) = true := by simpa using h3
        go_enter Try.func18, Try.ntmps18
        go_wp2_with fail
        go_ret
        exact ⟨by simp, rfl⟩
      · have d3 : decide (97 ≤ X) = false := by simpa using h3
        go_enter Try.func18, Try.ntmps18
        go_wp2_with fail
        go_ret
        exact ⟨by simp, rfl⟩
  · have d1 : decide (65 ≤ X) = false := by simpa using h1
    have d3 : decide (97 ≤ X) = false := by simp; omega
    go_enter Try.func18, Try.ntmps18
    go_wp2_with fail
    go_ret
    exact ⟨by simp, rfl⟩
end Go.Proofs.Ytplnkmojkdbbnaa
