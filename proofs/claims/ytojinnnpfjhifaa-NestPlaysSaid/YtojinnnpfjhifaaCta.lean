/-
  Contract: counts.add.
-/
import Derived.BigRegion
import Derived.StillTailTactics
import Derived.Test.YtojinnnpfjhifaaCtt
namespace Go.Proofs.Ytojinnnpfjhifaa
open Go.RowKit Go.Shelf Go.Lib

/-- The first k counts are turned. -/
def addK (M : Nat) (b : Int) (c : Ct) (k : Nat) : Ct :=
  ⟨if 0 < k ∧ isB M 2 then clampN c.h b else c.h, if 1 < k ∧ isB M 3 then clampN c.p b else c.p, if 2 < k ∧ isB M 4 then clampN c.n b else c.n⟩
theorem addK_zero (M : Nat) (b : Int) (c : Ct) : addK M b c 0 = c := by simp [addK]
/-- What is asked of what an element is, behind the first test. -/
def seenN (N : Nat) (c : Ct) : Nat := if c.h = 0 then N else if isB N 2 then 4 else 0
theorem addK_all (N : Nat) (b : Int) (c : Ct) : addK (seenN N c) b c 3 = addN N b c := by
  unfold addK addN seenN
  by_cases h : c.h = 0
  · simp [h]
  · simp only [h, if_false]
    cases e : isB N 2
    · simp [show isB 0 2 = false from rfl, show isB 0 3 = false from rfl, show isB 0 4 = false from rfl]
    · simp [show isB 4 2 = true from rfl, show isB 4 3 = false from rfl, show isB 4 4 = false from rfl]
def iv3 : Value := .agg #[.int .i64 4, .int .i64 8, .int .i64 16]
theorem and4s (N : Nat) (hN : N < 128) : bits BinOp.and IntKind.i64 (N : Int) 4 = ((if isB N 2 then 4 else 0 : Nat) : Int) := by
  rw [and4 N hN]
  cases isB N 2 <;> rfl
theorem seenN_lt (N : Nat) (hN : N < 128) (c : Ct) : seenN N c < 128 := by
  unfold seenN
  split
  · exact hN
  · split <;> omega
theorem addK_ok (M : Nat) (b : Int) {c : Ct} (hc : c.ok) (k : Nat) : (addK M b c k).ok := by
  obtain ⟨h1, h2, h3⟩ := hc
  refine ⟨?_, ?_, ?_⟩
  · show (if _ then _ else _) ≤ 255
    split
    · exact clampN_le _ _
    · exact h1
  · show (if _ then _ else _) ≤ 255
    split
    · exact clampN_le _ _
    · exact h2
  · show (if _ then _ else _) ≤ 255
    split
    · exact clampN_le _ _
    · exact h3
/-- One count is turned. -/
def Ct.put (c : Ct) (k x : Nat) : Ct := match k with
  | 0 => ⟨x, c.p, c.n⟩
  | 1 => ⟨c.h, x, c.n⟩
  | _ => ⟨c.h, c.p, x⟩
theorem NeAt.set {w : World} {g : Nat} {c : Ct} (h : NeAt w g c) (k x : Nat) (hk : k < 3) : NeAt (w.setCell ⟨g, k, none⟩ (.int .i64 (x : Int))) g (c.put k x) := by
  have := Cells.set h k (.int .i64 (x : Int))
  obtain rfl | rfl | rfl : k = 0 ∨ k = 1 ∨ k = 2 := by omega
  all_goals exact this
theorem addK_hit (M : Nat) (b : Int) (c : Ct) (k : Nat) (hk : k < 3) (h : isB M (k + 2) = true) : addK M b c (k + 1) = (addK M b c k).put k (clampN (c.get k) b) := by
  obtain rfl | rfl | rfl : k = 0 ∨ k = 1 ∨ k = 2 := by omega
  all_goals
    simp only [Nat.reduceAdd] at h
    simp [addK, Ct.put, Ct.get, h]
theorem addK_miss (M : Nat) (b : Int) (c : Ct) (k : Nat) (hk : k < 3) (h : isB M (k + 2) = false) : addK M b c (k + 1) = addK M b c k := by
  obtain rfl | rfl | rfl : k = 0 ∨ k = 1 ∨ k = 2 := by omega
  all_goals
    simp only [Nat.reduceAdd] at h
    simp [addK, h]
theorem addK_get (M : Nat) (b : Int) (c : Ct) (k : Nat) (hk : k < 3) : (addK M b c k).get k = c.get k := by
  obtain rfl | rfl | rfl : k = 0 ∨ k = 1 ∨ k = 2 := by omega
  all_goals simp [addK, Ct.get]
theorem get_ok {c : Ct} (h : c.ok) (k : Nat) : c.get k ≤ 255 := by
  obtain ⟨h1, h2, h3⟩ := h
  match k with
  | 0 => exact h1
  | 1 => exact h2
  | k + 2 => exact h3
theorem bitK (M : Nat) (hM : M < 128) (k : Nat) (hk : k < 3) : bits BinOp.and IntKind.i64 (M : Int) ((2 ^ (k + 2) : Nat) : Int) = if isB M (k + 2) then ((2 ^ (k + 2) : Nat) : Int) else 0 := by
  obtain rfl | rfl | rfl : k = 0 ∨ k = 1 ∨ k = 2 := by omega
  · exact and4 M hM
  · exact and8 M hM
  · exact and16 M hM
theorem index_iv (W : World) : (Instr.index 44 (.agg #[.int .i64 4, .int .i64 8, .int .i64 16]) (.int .i64 0)).run Try.prog W = .ok (.int .i64 4) W ∧ (Instr.index 44 (.agg #[.int .i64 4, .int .i64 8, .int .i64 16]) (.int .i64 1)).run Try.prog W = .ok (.int .i64 8) W ∧
    (Instr.index 44 (.agg #[.int .i64 4, .int .i64 8, .int .i64 16]) (.int .i64 2)).run Try.prog W = .ok (.int .i64 16) W := ⟨by kernel_rfl, by kernel_rfl, by kernel_rfl⟩
theorem index_ivk (k : Nat) (hk : k < 3) (W : World) : (Instr.index 44 (.agg #[.int .i64 4, .int .i64 8, .int .i64 16]) (.int .i64 (k : Int))).run Try.prog W = .ok (.int .i64 ((2 ^ (k + 2) : Nat) : Int)) W := by
  obtain rfl | rfl | rfl : k = 0 ∨ k = 1 ∨ k = 2 := by omega
  · exact (index_iv W).1
  · exact (index_iv W).2.1
  · exact (index_iv W).2.2
set_option maxRecDepth 100000 in
set_option maxHeartbeats 8000000 in
theorem add_any (N : Nat) (hN : N < 128) (b : Int) (hb : b = 0 ∨ b = 1 ∨ b = -1) (g : Nat) (c : Ct) (hc : c.ok) (w : World) (h : NeAt w g c) :
    Calls Try.prog 16 #[.pointer (some ⟨g, 0, none⟩), .int .i64 (N : Int), .int .i64 b] w fun e w' => e = .returned (.tuple #[]) ∧ NeAt w' g (addN N b c) ∧ Fz (fun k => k = g) w w' := by
  have CS := shows_any g c w h
  have hM := seenN_lt N hN c
  have ha4 := and4s N hN
  rw [← addK_all N b c]
  have hb1 : -1 ≤ b ∧ b ≤ 1 := by omega
  have hs1 : c.h = 0 → seenN N c = N := fun q => by simp [seenN, q]
  have hs2 : ¬ c.h = 0 → seenN N c = (if isB N 2 then 4 else 0) := fun q => by simp [seenN, q]
  obtain ⟨M, hMe⟩ : ∃ M, seenN N c = M := ⟨_, rfl⟩
  rw [hMe] at hM hs1 hs2 ⊢
  clear hMe hN
  have HC := Lib.hid hc
  have HH := Lib.hid h
  have HB := Lib.hid hM
  clear hc h hb hM
  by_cases h0 : c.h = 0
  · obtain rfl : M = N := hs1 h0
    rw [decide_eq_true h0] at CS
    clear hs1 hs2 h0 ha4
    go_enter Try.func16, Try.ntmps16
    go_wp2_with fail
    refine CS.mono ?_
    rintro e w0 ⟨rfl, hw⟩
    obtain rfl := hw.symm
    clear CS
    go_wp2_with fail
    go_loopw [6, 7, 14] (fun _ _ i wr => ∃ k : Nat, k ≤ 3 ∧ i = .int .i64 (k : Int) ∧ NeAt wr g (addK M b c k) ∧ Fz (fun k => k = g) w wr) (fun _ _ i _ => 3 - (RowKit.intOf i).toNat)
    case atStart => exact ⟨0, by omega, rfl, by rw [addK_zero]; exact HH.out, Fz.refl _ _⟩
    case round =>
      obtain ⟨k, hk, rfl, hne, hfz⟩ := hrel
      by_cases hk3 : k < 3
      case neg =>
        obtain rfl : k = 3 := by omega
        have HE := Lib.hid (And.intro hne hfz)
        clear hne hfz
        go_wp2_with fail
        go_end0
        exact ⟨rfl, HE.out⟩
      case pos =>
        have x0 : wr.cell? ⟨g, k, none⟩ = some (.int .i64 (c.get k : Int)) := by
          refine (Cells.cell hne k).trans ?_
          rw [← addK_get M b c k hk3]
          obtain rfl | rfl | rfl : k = 0 ∨ k = 1 ∨ k = 2 := by omega
          all_goals rfl
        have f0 := Cells.froz hne k
        have hbk := bitK M HB.out k hk3
        have hg := get_ok HC.out k
        have hit := addK_hit M b c k hk3
        have miss := addK_miss M b c k hk3
        have hq := clampN_eq (c.get k) b
        have hne2 := fun x => NeAt.set hne k x hk3
        have hfz2 := fun x : Nat => hfz.trans (Fz.set (X := fun k => k = g) wr g k (.int .i64 (x : Int)) rfl)
        obtain ⟨cg, hcg⟩ : ∃ q, c.get k = q := ⟨_, rfl⟩
        rw [hcg] at x0 hg hit hq
        obtain ⟨q, hqe⟩ : ∃ q, clampN cg b = q := ⟨_, rfl⟩
        rw [hqe] at hit hq
        have HQ := Lib.hid hq
        have hix := fun W => index_ivk k hk3 W
        have ht1 : (((2 ^ (k + 2) : Nat) : Int) == 0) = false := by
          have : 0 < 2 ^ (k + 2) := Nat.two_pow_pos _
          simp only [beq_eq_false_iff_ne]
          omega
        obtain ⟨t, hte⟩ : ∃ t : Nat, 2 ^ (k + 2) = t := ⟨_, rfl⟩
        rw [hte] at ht1 hbk
        simp only [hte] at hix
        clear hte
        have i3 : (k : Int) < 3 := by omega
        cases hbit : isB M (k + 2)
        · rw [hbit] at hbk
          have hend : ∃ j : Nat, j ≤ 3 ∧ Value.int .i64 ((k : Int) + 1) = .int .i64 (j : Int) ∧ NeAt wr g (addK M b c j) ∧ Fz (fun k => k = g) w wr :=
            ⟨k + 1, by omega, by simp, by rw [miss hbit]; exact hne, hfz⟩
          have HEND := Lib.hid hend
          clear hit miss hbit hne hfz hne2 hfz2 hq HQ hcg hqe hend
          simp only [Bool.false_eq_true, if_false] at hbk
          go_wp2_with fail
          go_roundw
          case rel => exact HEND.out
          case measure => simp [RowKit.intOf]; omega
        · rw [hbit] at hbk
          have hend : ∃ j : Nat, j ≤ 3 ∧ Value.int .i64 ((k : Int) + 1) = .int .i64 (j : Int) ∧ NeAt (wr.setCell ⟨g, k, none⟩ (.int .i64 (min (max ((cg : Int) + b) 0) 255))).drew g (addK M b c j) ∧ Fz (fun k => k = g) w (wr.setCell ⟨g, k, none⟩ (.int .i64 (min (max ((cg : Int) + b) 0) 255))).drew := by
            rw [← hq]
            exact ⟨k + 1, by omega, by simp, by rw [hit hbit]; exact hne2 q, (hfz2 q).trans ⟨rfl, rfl, rfl, Nat.le_refl _, fun _ _ _ => rfl⟩⟩
          have HEND := Lib.hid hend
          clear hit miss hbit hne hfz hne2 hfz2 hq HQ hcg hqe hend
          simp only [if_true] at hbk
          go_wp2_with fail
          go_still_tail 13, (by kernel_rfl)
          go_wp2_with fail
          exact ⟨HEND.out, by simp [RowKit.intOf]; omega⟩
  · have hs3 := hs2 h0
    rw [← hs3] at ha4
    rw [decide_eq_false h0] at CS
    clear hs1 hs2 hs3 h0
    go_enter Try.func16, Try.ntmps16
    go_wp2_with fail
    refine CS.mono ?_
    rintro e w0 ⟨rfl, hw⟩
    obtain rfl := hw.symm
    clear CS
    go_wp2_with fail
    go_loopw [6, 7, 14] (fun _ _ i wr => ∃ k : Nat, k ≤ 3 ∧ i = .int .i64 (k : Int) ∧ NeAt wr g (addK M b c k) ∧ Fz (fun k => k = g) w wr) (fun _ _ i _ => 3 - (RowKit.intOf i).toNat)
    case atStart => exact ⟨0, by omega, rfl, by rw [addK_zero]; exact HH.out, Fz.refl _ _⟩
    case round =>
      obtain ⟨k, hk, rfl, hne, hfz⟩ := hrel
      by_cases hk3 : k < 3
      case neg =>
        obtain rfl : k = 3 := by omega
        have HE := Lib.hid (And.intro hne hfz)
        clear hne hfz
        go_wp2_with fail
        go_end0
        exact ⟨rfl, HE.out⟩
      case pos =>
        have x0 : wr.cell? ⟨g, k, none⟩ = some (.int .i64 (c.get k : Int)) := by
          refine (Cells.cell hne k).trans ?_
          rw [← addK_get M b c k hk3]
          obtain rfl | rfl | rfl : k = 0 ∨ k = 1 ∨ k = 2 := by omega
          all_goals rfl
        have f0 := Cells.froz hne k
        have hbk := bitK M HB.out k hk3
        have hg := get_ok HC.out k
        have hit := addK_hit M b c k hk3
        have miss := addK_miss M b c k hk3
        have hq := clampN_eq (c.get k) b
        have hne2 := fun x => NeAt.set hne k x hk3
        have hfz2 := fun x : Nat => hfz.trans (Fz.set (X := fun k => k = g) wr g k (.int .i64 (x : Int)) rfl)
        obtain ⟨cg, hcg⟩ : ∃ q, c.get k = q := ⟨_, rfl⟩
        rw [hcg] at x0 hg hit hq
        obtain ⟨q, hqe⟩ : ∃ q, clampN cg b = q := ⟨_, rfl⟩
        rw [hqe] at hit hq
        have HQ := Lib.hid hq
        have hix := fun W => index_ivk k hk3 W
        have ht1 : (((2 ^ (k + 2) : Nat) : Int) == 0) = false := by
          have : 0 < 2 ^ (k + 2) := Nat.two_pow_pos _
          simp only [beq_eq_false_iff_ne]
          omega
        obtain ⟨t, hte⟩ : ∃ t : Nat, 2 ^ (k + 2) = t := ⟨_, rfl⟩
        rw [hte] at ht1 hbk
        simp only [hte] at hix
        clear hte
        have i3 : (k : Int) < 3 := by omega
        cases hbit : isB M (k + 2)
        · rw [hbit] at hbk
          have hend : ∃ j : Nat, j ≤ 3 ∧ Value.int .i64 ((k : Int) + 1) = .int .i64 (j : Int) ∧ NeAt wr g (addK M b c j) ∧ Fz (fun k => k = g) w wr :=
            ⟨k + 1, by omega, by simp, by rw [miss hbit]; exact hne, hfz⟩
          have HEND := Lib.hid hend
          clear hit miss hbit hne hfz hne2 hfz2 hq HQ hcg hqe hend
          simp only [Bool.false_eq_true, if_false] at hbk
          go_wp2_with fail
          go_roundw
          case rel => exact HEND.out
          case measure => simp [RowKit.intOf]; omega
        · rw [hbit] at hbk
          have hend : ∃ j : Nat, j ≤ 3 ∧ Value.int .i64 ((k : Int) + 1) = .int .i64 (j : Int) ∧ NeAt (wr.setCell ⟨g, k, none⟩ (.int .i64 (min (max ((cg : Int) + b) 0) 255))).drew g (addK M b c j) ∧ Fz (fun k => k = g) w (wr.setCell ⟨g, k, none⟩ (.int .i64 (min (max ((cg : Int) + b) 0) 255))).drew := by
            rw [← hq]
            exact ⟨k + 1, by omega, by simp, by rw [hit hbit]; exact hne2 q, (hfz2 q).trans ⟨rfl, rfl, rfl, Nat.le_refl _, fun _ _ _ => rfl⟩⟩
          have HEND := Lib.hid hend
          clear hit miss hbit hne hfz hne2 hfz2 hq HQ hcg hqe hend
          simp only [if_true] at hbk
          go_wp2_with fail
          go_still_tail 13, (by kernel_rfl)
          go_wp2_with fail
          exact ⟨HEND.out, by simp [RowKit.intOf]; omega⟩
end Go.Proofs.Ytojinnnpfjhifaa
