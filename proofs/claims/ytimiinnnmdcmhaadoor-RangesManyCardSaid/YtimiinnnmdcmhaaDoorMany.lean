/-
  RangesMany: too many ranges are no set; of no sets nothing is the union; in no set nothing is. The walk of the law.
-/
import Derived.Laws.OwnMore
import Derived.Test.YtimiinnnmdcmhaaDoorHx4
namespace Go.Proofs.YtimiinnnmdcmhaaDoor
open Go.RowKit Go.Shelf
open Go.Lib

/-- The i-th range. -/
def rgI (i : Nat) : Rng := (3 * (i : Int), 3 * (i : Int) + 1)
def rgs (K : Nat) : List Rng := (List.range K).map rgI
/-- The first j are laid, the others are zeros. -/
def rgsTo (K j : Nat) : List Rng := (List.range K).map fun i => if i < j then rgI i else (0, 0)
theorem rgsTo_len (K j : Nat) : (rgsTo K j).length = K := by simp [rgsTo]
theorem rgsTo_end (K : Nat) : rgsTo K K = rgs K := List.map_congr_left fun _i hi => if_pos (List.mem_range.1 hi)
theorem rgsTo_succ (K j : Nat) : rgsTo K (j + 1) = (rgsTo K j).set j (rgI j) := by
  apply List.ext_getElem?
  intro i
  rw [List.getElem?_set]
  simp only [rgsTo, List.length_map, List.length_range, List.getElem?_map]
  by_cases c : j = i
  · subst c
    by_cases h : j < K
    · simp [h]
    · simp [h]
  · rw [if_neg c]
    by_cases h : i < K
    · simp [h, show (i < j + 1) = (i < j) from propext ⟨fun _ => by omega, fun _ => by omega⟩]
    · simp [h]
theorem rgsTo_zero (K : Nat) : cells2 (rgsTo K 0) = List.replicate (K * 2) (.int .i32 0) := by
  have e : rgsTo K 0 = List.replicate K (0, 0) := by simp [rgsTo, List.map_const']
  rw [e]
  induction K with
  | zero => rfl
  | succ K ih =>
    rw [List.replicate_succ, show cells2 ((0, 0) :: List.replicate K (0, 0)) = .int .i32 0 :: .int .i32 0 :: cells2 (List.replicate K (0, 0)) from rfl, ih (by simp [rgsTo, List.map_const'])]
    rw [show (K + 1) * 2 = K * 2 + 1 + 1 by omega, List.replicate_succ, List.replicate_succ]
theorem cells2_set2 (xs : List Rng) (j : Nat) (x : Rng) : ((cells2 xs).set (j * 2) (.int .i32 x.1)).set (j * 2 + 1) (.int .i32 x.2) = cells2 (xs.set j x) := by
  induction xs generalizing j with
  | nil => simp [cells2]
  | cons y ys ih =>
    have e : ∀ (z : Rng) zs, cells2 (z :: zs) = .int .i32 z.1 :: .int .i32 z.2 :: cells2 zs := fun z zs => by simp [cells2, cell2]
    cases j with
    | zero => simp [e]
    | succ j =>
      rw [show (j + 1) * 2 = j * 2 + 1 + 1 by omega, List.set_cons_succ, e, e, List.set_cons_succ, List.set_cons_succ, List.set_cons_succ, List.set_cons_succ, ih]
theorem rgs_succ (K : Nat) : rgs (K + 1) = rgs K ++ [rgI K] := by simp [rgs, List.range_succ]
theorem rgs_right (K : Nat) (h : K ≤ 1000) : right (rgs K) = true ∧ countR (rgs K) = 2 * K ∧ hiOf (-1) (rgs K) ≤ 3 * (K : Int) - 1 := by
  induction K with
  | zero => exact ⟨rfl, rfl, by simp [rgs, hiOf]⟩
  | succ K ih =>
    obtain ⟨h1, h2, h3⟩ := ih (by omega)
    rw [rgs_succ]
    refine ⟨(join_push _ _ h1 ((may_iff _).2 (by simp only [rgI]; omega)) (by simp only [rgI]; omega)).1, ?_, ?_⟩
    · rw [countR_snoc, h2]; simp only [rgI]; omega
    · rw [hiOf_snoc]; simp only [rgI]; omega
theorem rgs_len (K : Nat) : (rgs K).length = K := by simp [rgs]
theorem rgs_may (K : Nat) (h : K ≤ 1100) : (rgs K).all may = true := by
  rw [List.all_eq_true]
  intro x hx
  obtain ⟨i, hi, rfl⟩ := List.mem_map.1 hx
  have := List.mem_range.1 hi
  exact (may_iff _).2 (by simp only [rgI]; omega)
theorem rgs_i32 (K : Nat) (h : K ≤ 1100) : ∀ x ∈ rgs K, I32 x := fun x hx => by
  obtain ⟨i, hi, rfl⟩ := List.mem_map.1 hx
  have := List.mem_range.1 hi
  simp only [I32, rgI]
  omega
theorem rgs_one (K : Nat) (h : 1 ≤ K) : hasR (rgs K) 1 = true := (hasR_iff _ _).2 ⟨rgI 0, List.mem_map.2 ⟨0, List.mem_range.2 h, rfl⟩, by simp [rgI], by simp [rgI]⟩
theorem rgs_two (K : Nat) : hasR (rgs K) 2 = false := by
  rw [Bool.eq_false_iff]
  intro e
  obtain ⟨x, hx, h1, h2⟩ := (hasR_iff _ _).1 e
  obtain ⟨i, hi, rfl⟩ := List.mem_map.1 hx
  simp only [rgI] at h1 h2
  omega

theorem union_none (w : World) : Calls Tryd.prog 44 #[.slice none 0 0] w fun e w' => (∃ A c, e = .returned (.slice A 0 c)) ∧ Below w.heap.size w w' := by
  have C : Calls Tryd.prog 44 #[.slice none 0 0] w _ := union_any none 0 [] w ⟨fun h => absurd rfl h, fun s hs => by simp at hs⟩ (by simp)
  refine C.mono ?_
  rintro e w' ⟨out, ho, hh, hol, hH⟩
  obtain rfl : out = [] := right_ext (b := -1) ho rfl fun r => by rw [hh r]; rfl
  obtain ⟨A, c, rfl, _, hb⟩ := sp_of hH (by simp)
  exact ⟨⟨A, c, rfl⟩, hb⟩
theorem has_sp (A : Option Addr) (c : Nat) (xs : List Rng) (r : Int) (h0 : -2147483648 ≤ r) (h1 : r ≤ 2147483647) (w : World) (h : RS w w.heap.size A c xs) (hr : right xs = true) (b : Bool) (hb : hasR xs r = b) :
    Calls Tryd.prog 37 #[.slice A xs.length c, .int .i32 r] w fun e w' => e = .returned (.bool b) ∧ Below w.heap.size w w' := by
  have := has_any A c xs r h0 h1 w h
  rwa [known_of hr, hb] at this

theorem made2 (K : Nat) : (madeCells (Value.agg #[.int .i32 0, .int .i32 0]).cells (K * 2)).toList = cells2 (rgsTo K 0) := by
  rw [rgsTo_zero]
  apply List.ext_getElem?
  intro i
  have e : ∀ k, ((#[.int .i32 0, .int .i32 0] : Array Value)[k % 2]!) = .int .i32 0 := fun k => by
    rcases Nat.mod_two_eq_zero_or_one k with c | c <;> rw [c] <;> rfl
  simp only [madeCells, Value.cells, Array.toList_map, Array.toList_range, List.getElem?_map, List.size_toArray, List.length_cons, List.length_nil, e]
  by_cases h : i < K * 2
  · simp [h]
  · simp [h]

set_option maxHeartbeats 8000000 in
set_option maxRecDepth 100000 in
theorem many_walk (m r : Int) (m0 : 0 ≤ m) (m1 : m ≤ 255) (h0 : -2147483648 ≤ r) (h1 : r ≤ 2147483647) (w : World) (hT : TZ w) :
    Calls Tryd.prog 12 #[.int .u8 m, .int .i32 r] w fun e w' => e = .returned (.bool true) ∧ Below w.heap.size w w' := by
  obtain ⟨i0, hi, hz0, hz1, hz2⟩ := info_parts Tryd.info74
  have HA := Lib.hid (awake2_any w hT)
  obtain ⟨K, hK⟩ : ∃ K : Nat, 990 + m % 20 = (K : Int) := ⟨(990 + m % 20).toNat, by omega⟩
  have k0 : 990 ≤ K := by omega
  have k1 : K ≤ 1009 := by omega
  have HK := Lib.hid hK
  clear hT hK
  go_enter Tryd.func12, Tryd.ntmps12
  go_wp2_with fail
  refine HA.out.mono ?_
  rintro e w1 ⟨rfl, hb⟩
  obtain ⟨w2, hrun, hown, hgrow⟩ := run_makeSlice_full (P := Tryd.prog) (w := w1) w1.heap.size 52 74 i0 (.agg #[.int .i32 0, .int .i32 0]) 2 Tryd.underlying52 hi hz0 hz1 .i64 .i64 K (by omega) (by rw [hz2]; omega) (by unfold maxLen; omega) (Nat.le_refl _)
  rw [← HK.out] at hrun
  rw [made2] at hown
  have hb2 : Below w1.heap.size w1 w2 := (Below.refl _ _).grown hgrow (Nat.le_refl _) (fun k e => by cases e)
  have HB := Lib.hid hb
  clear hb hgrow
  go_wp2_with fail
  rw [HK.out]
  clear hrun
  go_loopw [7] (fun i wr => ∃ j : Nat, i = .int .i64 j ∧ j ≤ K ∧ wr.ownsRow w1.heap.size 74 2 (.slice (some ⟨w1.heap.size, 0, none⟩) K K) K (cells2 (rgsTo K j)) ∧ Below w1.heap.size w1 wr) (fun i _ => K - (RowKit.intOf i).toNat)
  case atStart => exact ⟨0, rfl, Nat.zero_le _, hown, hb2⟩
  case round =>
    clear hown hb2
    obtain ⟨j, rfl, hj, hown, hb2⟩ := hrel
    by_cases hlt : j < K
    · have i1 : (j : Int) < (K : Int) := by omega
      have i2 : (j : Int) ≤ 1009 := by omega
      have hst := hown.stored (j * 2) (.int .i32 (rgI j).1)
      have hst2 := hst.1.stored (j * 2 + 1) (.int .i32 (rgI j).2)
      rw [cells2_set2, ← rgsTo_succ] at hst2
      have HS := Lib.hid hst2.1
      have hbz := (hb2.grown hst.2 hb2.size (fun k e => by injection e with e; omega)).grown hst2.2 (by have := hb2.size; simpa using this) (fun k e => by injection e with e; omega)
      have HBZ := Lib.hid hbz
      clear hst hst2 hbz
      obtain ⟨y, hy⟩ : ∃ y, (rgsTo K j)[j]? = some y := ⟨(rgsTo K j)[j]'(by rw [rgsTo_len]; omega), List.getElem?_eq_getElem _⟩
      obtain ⟨g0, g1⟩ := cells2_get _ j y hy
      have hc0 := (hown.cellAt (j * 2) (by omega)).trans g0
      have hc1 := (hown.cellAt (j * 2 + 1) (by omega)).trans g1
      clear g0 g1 hy
      have hf0 := hown.frozenAt (j * 2)
      have hf1 := hown.frozenAt (j * 2 + 1)
      go_wp2_with fail
      go_outline
      trace_state
      go_roundw
      case rel => exact ⟨j + 1, by go_num, by omega, HS.out, HBZ.out⟩
      case measure => simp [RowKit.intOf]; omega
    · have hjk : j = K := by omega
      rw [hjk, rgsTo_end] at hown
      subst hjk
      obtain ⟨A, c, hv, hS⟩ := sw_own (xs := rgs j) (T := 74) (B := w1.heap.size) (by rw [rgs_len]; exact hown) (rgs_i32 j (by omega))
      rw [rgs_len] at hv
      injection hv with hA _ hc
      subst hA
      subst hc
      have hbz := HB.out.trans (hb2.mono HB.out.size)
      clear hown hb2
      by_cases hk : 1000 < j
      · have M := make_long _ j (rgs j) wr hS (by rw [rgs_len]; omega) (by rw [rgs_len]; omega)
        rw [rgs_len] at M
        have M := Lib.hid M
        have i1 : (1000 : Int) < (j : Int) := by omega
        clear hS
        go_wp2_with fail
        refine M.out.mono ?_
        rintro e w3 ⟨rfl, hb3⟩
        have hbq := hbz.trans (hb3.mono hbz.size)
        clear hbz hb3
        go_wp2
        go_ret
        exact ⟨rfl, hbq⟩
      · obtain ⟨hr, hcnt, _⟩ := rgs_right j (by omega)
        have M := make_ok _ j (rgs j) wr hS (by rw [rgs_len]; omega) (rgs_may j (by omega))
        rw [norm_self hr, rgs_len] at M
        have M := Lib.hid M
        have d1 : decide ((1000 : Int) < (j : Int)) = false := by simp; omega
        have HR := Lib.hid hr
        have HCN := Lib.hid hcnt
        clear hS hr hcnt
        go_wp2_with fail
        refine M.out.mono ?_
        rintro e w3 ⟨A, c, rfl, hS, _, _, hb3⟩
        have hbq := hbz.trans (hb3.mono hbz.size)
        have HS := Lib.hid hS
        clear hbz hb3 hS M
        go_wp2_with fail
        refine (union_none _).mono ?_
        rintro e w4 ⟨⟨A4, c4, rfl⟩, hb⟩
        have HS := Lib.hid (HS.out.below hb)
        have hb4 := hbq.trans (hb.mono hbq.size)
        clear hb hbq
        go_wp2_with fail
        refine (has_sp none 0 [] r h0 h1 _ (RS_nil _ _) rfl false rfl).mono ?_
        rintro e w5 ⟨rfl, hb⟩
        have HS := Lib.hid (HS.out.below hb)
        have hb5 := hb4.trans (hb.mono hb4.size)
        clear hb hb4
        go_wp2_with fail
        refine (print_none none 0 [] _ (RS_nil _ _) (.inl ⟨rfl, rfl⟩) rfl).mono ?_
        rintro e w6 ⟨rfl, hb⟩
        have HS := Lib.hid (HS.out.below hb)
        have hb6 := hb5.trans (hb.mono hb5.size)
        clear hb hb5
        have C1 := Lib.hid (fun W (h : SW W A c (rgs j)) => has_sp A c (rgs j) 1 (by omega) (by omega) W h.r HR.out true (rgs_one j (by omega)))
        have C2 := Lib.hid (fun W (h : SW W A c (rgs j)) => has_sp A c (rgs j) 2 (by omega) (by omega) W h.r HR.out false (rgs_two j))
        have C3 := Lib.hid (fun W (h : SW W A c (rgs j)) => count_sp A c (rgs j) W h HR.out)
        rw [rgs_len] at C1 C2 C3
        rw [HCN.out] at C3
        go_wp2_with fail
        refine (C1.out _ HS.out).mono ?_
        rintro e w7 ⟨rfl, hb⟩
        have HS := Lib.hid (HS.out.below hb)
        have hb7 := hb6.trans (hb.mono hb6.size)
        clear hb hb6
        go_wp2_with fail
        refine (C2.out _ HS.out).mono ?_
        rintro e w8 ⟨rfl, hb⟩
        have HS := Lib.hid (HS.out.below hb)
        have hb8 := hb7.trans (hb.mono hb7.size)
        clear hb hb7
        go_wp2_with fail
        refine (C3.out _ HS.out).mono ?_
        rintro e w9 ⟨rfl, hb⟩
        have hb9 := hb8.trans (hb.mono hb8.size)
        clear hb hb8
        go_wp2
        go_ret
        exact ⟨rfl, hb9⟩
end Go.Proofs.YtimiinnnmdcmhaaDoor
