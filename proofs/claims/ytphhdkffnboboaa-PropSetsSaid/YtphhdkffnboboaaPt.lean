/-
  Contracts: prop.row.whole, prop.row.syllables, prop.row.part, the closure of prop.Set.
-/
import Derived.Test.YtphhdkffnboboaaPrS
import Derived.Test.YtphhdkffnboboaaLst
import Derived.Test.YtphhdkffnboboaaCls2
namespace Go.Proofs.Ytphhdkffnboboaa
open Go.RowKit Go.Shelf
open Go.Lib Go.Great

/-- A row as it is handed over. -/
def rv (x : Row) : Value := .agg #[.int .i32 x.1, .int .i32 x.2.1, .int .i64 (x.2.2 : Int)]

set_option maxHeartbeats 1000000 in
theorem whole_any (lo hi : Int) (c : Nat) (h : I32 (lo, hi)) (w : World) : Calls Try.prog 65 #[.agg #[.int .i32 lo, .int .i32 hi, .int .i64 (c : Int)]] w (SP [(lo, hi)] w) := by
  have hb := below_new w (.cells #[.int .i32 lo, .int .i32 hi, .int .i64 (c : Int)] 97)
  have hw := sw_new (w.alloc (.cells #[.int .i32 lo, .int .i32 hi, .int .i64 (c : Int)] 97)) [(lo, hi)] 70 1 rfl (by simpa using h) (by unfold maxLen; omega)
  have hb2 := hb.alloc hb.size (.cells #[.int .i32 lo, .int .i32 hi] 70)
  have e : (cells2 [(lo, hi)]).toArray = #[.int .i32 lo, .int .i32 hi] := rfl
  rw [e, World.size_alloc] at hw
  have HW := Lib.hid hw
  have HB := Lib.hid hb2
  clear hw hb hb2 e
  go_enter Try.func65, Try.ntmps65
  go_wp2
  go_ret
  exact ⟨_, _, rfl, HW.out, HB.out⟩

theorem syll_take (c : Int) (k : Nat) (h : k < 399) : (syllP c).take (k + 1) = (syllP c).take k ++ [syl1 c k] := by
  have : (syllP c)[k]? = some (syl1 c k) := by
    unfold syllP
    simp [h]
  rw [List.take_add_one, this]
  rfl
theorem syll_len (c : Int) : (syllP c).length = 399 := by simp [syllP]
theorem syll_i32 (c : Int) : ∀ x ∈ syllP c, I32 x := fun x hx => by
  obtain ⟨k, hk, rfl⟩ := List.mem_map.1 hx
  have := List.mem_range.1 hk
  unfold syl1 I32
  split <;> (simp only; omega)

set_option maxHeartbeats 4000000 in
set_option maxRecDepth 100000 in
theorem syll_any (c : Int) (hc : c = 14 ∨ c = 15) (w : World) : Calls Try.prog 76 #[.agg #[.int .i32 44032, .int .i32 55203, .int .i64 14], .int .i64 c] w (SP (syllP c) w) := by
  obtain ⟨i0, hi, hz0, hz1, hz2⟩ := info_parts Try.info70
  have HI := Lib.hid (syll_i32 c)
  have HL := Lib.hid (syll_len c)
  have HT := Lib.hid (syll_take c)
  have H1 : Hid (∀ k : Nat, syl1 14 k = (44032 + 28 * (k : Int), 44032 + 28 * (k : Int))) := Lib.hid fun k => rfl
  have H2 : Hid (∀ k : Nat, syl1 15 k = (44032 + 28 * (k : Int) + 1, 44032 + 28 * (k : Int) + 27)) := Lib.hid fun k => rfl
  have hb0 := below_new w (.cells #[.int .i32 44032, .int .i32 55203, .int .i64 14] 97)
  have f0 : (w.alloc (.cells #[.int .i32 44032, .int .i32 55203, .int .i64 14] 97)).cell? ⟨w.heap.size, 0, none⟩ = some (.int .i32 44032) := by simp
  have f1 : (w.alloc (.cells #[.int .i32 44032, .int .i32 55203, .int .i64 14] 97)).cell? ⟨w.heap.size, 1, none⟩ = some (.int .i32 55203) := by simp
  have hz : w.heap.size < (w.alloc (.cells #[.int .i32 44032, .int .i32 55203, .int .i64 14] 97)).heap.size := by simp
  generalize hW : w.alloc (.cells #[.int .i32 44032, .int .i32 55203, .int .i64 14] 97) = W0 at *
  have HW := Lib.hid hW
  have HF := Lib.hid (And.intro hb0 (And.intro f1 hz))
  clear hW hb0 f1 hz
  rcases hc with rfl | rfl
  · go_enter Try.func76, Try.ntmps76
    go_wp2_with fail
    rw [HW.out]
    go_wp2_with fail
    go_loopw [5, 6] (fun v i wr => ∃ k : Nat, ∃ r : Int, k ≤ 399 ∧ i = .int .i32 r ∧ Hid (r = 44032 + 28 * (k : Int)) ∧ 44032 ≤ r ∧ r ≤ 55204 ∧ wr.ownsRow W0.heap.size 70 2 v k (cells2 ((syllP 14).take k)) ∧ Below W0.heap.size W0 wr) (fun _ i _ => (55204 - RowKit.intOf i).toNat)
    case atStart => exact ⟨0, _, by omega, rfl, (rfl : (44032 : Int) = 44032 + 28 * ((0 : Nat) : Int)), by omega, by omega, World.ownsRow_nil _ _ _ _, Below.refl _ _⟩
    case round =>
      obtain ⟨k, r, hk, rfl, hr, r0, r1, hown, hb⟩ := hrel
      have g1 : wr.cell? ⟨w.heap.size, 1, none⟩ = some (.int .i32 55203) := (hb.cell (p := ⟨w.heap.size, 1, none⟩) HF.out.2.2).trans HF.out.2.1
      by_cases hlt : k < 399
      · have h2 : r ≤ 55203 := by have := hr.out; omega
        have own2 := hown.alloc (.cells #[.int .i32 r, .int .i32 r] 70)
        have hnews := news2 wr 70 (.int .i32 r) (.int .i32 r) rfl rfl
        have hlt0 := own_block_lt hown
        have hs := hb.size
        have HTk := Lib.hid (HT.out k hlt)
        have HQ := Lib.hid (H1.out k)
        go_wp2_with (at_builtin; refine wpList_append_own _ rfl _ _ 41 rfl W0.heap.size 70 i0 (.agg #[.int .i32 0, .int .i32 0]) 2 8 Try.underlying41 hi hz0 hz1 hz2 rfl (by decide) u5 k (cells2 ((syllP 14).take k)) rfl own2 ⟨wr.heap.size, 0, none⟩ 1 1 [.int .i32 r, .int .i32 r] rfl rfl hnews ?c2 ?c3 ?c4 ?c5 ?_)
        case c2 => intro u hu; simp at hu; rcases hu with rfl | rfl <;> rfl
        case c3 => unfold maxLen; omega
        case c4 => omega
        case c5 => simp; omega
        intro v' w2 own3 hgrow _
        have hbz : Below W0.heap.size W0 w2 := (hb.alloc hs _).grown hgrow (by simp; omega) (fun k e => (hlt0 k e).1)
        have e3 : cells2 ((syllP 14).take k) ++ [.int .i32 r, .int .i32 r] = cells2 ((syllP 14).take (k + 1)) := by
          rw [HTk.out, cells2_snoc, HQ.out]
          show _ = (_ : List Value) ++ [Value.int .i32 (44032 + 28 * (k : Int)), .int .i32 (44032 + 28 * (k : Int))]
          rw [show 44032 + 28 * (k : Int) = r by have := hr.out; omega]
        rw [e3] at own3
        clear e3 hgrow own2 hnews hown
        go_wp2
        go_roundw
        case rel => exact ⟨k + 1, _, by omega, rfl, (by have := hr.out; show r + 28 = 44032 + 28 * ((k + 1 : Nat) : Int); omega : Hid _), by omega, by have := hr.out; omega, own3, hbz⟩
        case measure => simp [RowKit.intOf]; omega
      · have hkn : k = 399 := by omega
        have h2 : 55203 < r := by have := hr.out; omega
        have e : (syllP 14).take k = syllP 14 := by rw [hkn, ← HL.out, List.take_length]
        rw [e] at hown
        have HO := Lib.hid hown
        have hbz := HF.out.1.trans (hb.mono HF.out.1.size)
        clear hown e hb
        subst hkn
        have d : decide (r ≤ (55203 : Int)) = false := by simpa using h2
        go_wp2
        go_ret
        exact sp_of ⟨_, rfl, by rw [HL.out]; exact own_mono HO.out HF.out.1.size, hbz⟩ HI.out
  · go_enter Try.func76, Try.ntmps76
    go_wp2_with fail
    rw [HW.out]
    go_wp2_with fail
    go_loopw [5, 6] (fun v i wr => ∃ k : Nat, ∃ r : Int, k ≤ 399 ∧ i = .int .i32 r ∧ Hid (r = 44032 + 28 * (k : Int)) ∧ 44032 ≤ r ∧ r ≤ 55204 ∧ wr.ownsRow W0.heap.size 70 2 v k (cells2 ((syllP 15).take k)) ∧ Below W0.heap.size W0 wr) (fun _ i _ => (55204 - RowKit.intOf i).toNat)
    case atStart => exact ⟨0, _, by omega, rfl, (rfl : (44032 : Int) = 44032 + 28 * ((0 : Nat) : Int)), by omega, by omega, World.ownsRow_nil _ _ _ _, Below.refl _ _⟩
    case round =>
      obtain ⟨k, r, hk, rfl, hr, r0, r1, hown, hb⟩ := hrel
      have g1 : wr.cell? ⟨w.heap.size, 1, none⟩ = some (.int .i32 55203) := (hb.cell (p := ⟨w.heap.size, 1, none⟩) HF.out.2.2).trans HF.out.2.1
      by_cases hlt : k < 399
      · have h2 : r ≤ 55203 := by have := hr.out; omega
        have own2 := hown.alloc (.cells #[.int .i32 (r + 1), .int .i32 (r + 28 - 1)] 70)
        have hnews := news2 wr 70 (.int .i32 (r + 1)) (.int .i32 (r + 28 - 1)) rfl rfl
        have hlt0 := own_block_lt hown
        have hs := hb.size
        have HTk := Lib.hid (HT.out k hlt)
        have HQ := Lib.hid (H2.out k)
        go_wp2_with (at_builtin; refine wpList_append_own _ rfl _ _ 41 rfl W0.heap.size 70 i0 (.agg #[.int .i32 0, .int .i32 0]) 2 8 Try.underlying41 hi hz0 hz1 hz2 rfl (by decide) u5 k (cells2 ((syllP 15).take k)) rfl own2 ⟨wr.heap.size, 0, none⟩ 1 1 [.int .i32 (r + 1), .int .i32 (r + 28 - 1)] rfl rfl hnews ?c2 ?c3 ?c4 ?c5 ?_)
        case c2 => intro u hu; simp at hu; rcases hu with rfl | rfl <;> rfl
        case c3 => unfold maxLen; omega
        case c4 => omega
        case c5 => simp; omega
        intro v' w2 own3 hgrow _
        have hbz : Below W0.heap.size W0 w2 := (hb.alloc hs _).grown hgrow (by simp; omega) (fun k e => (hlt0 k e).1)
        have e3 : cells2 ((syllP 15).take k) ++ [.int .i32 (r + 1), .int .i32 (r + 28 - 1)] = cells2 ((syllP 15).take (k + 1)) := by
          rw [HTk.out, cells2_snoc, HQ.out]
          show _ = (_ : List Value) ++ [Value.int .i32 (44032 + 28 * (k : Int) + 1), .int .i32 (44032 + 28 * (k : Int) + 27)]
          rw [show 44032 + 28 * (k : Int) + 1 = r + 1 by have := hr.out; omega, show 44032 + 28 * (k : Int) + 27 = r + 28 - 1 by have := hr.out; omega]
        rw [e3] at own3
        clear e3 hgrow own2 hnews hown
        go_wp2
        go_roundw
        case rel => exact ⟨k + 1, _, by omega, rfl, (by have := hr.out; show r + 28 = 44032 + 28 * ((k + 1 : Nat) : Int); omega : Hid _), by omega, by have := hr.out; omega, own3, hbz⟩
        case measure => simp [RowKit.intOf]; omega
      · have hkn : k = 399 := by omega
        have h2 : 55203 < r := by have := hr.out; omega
        have e : (syllP 15).take k = syllP 15 := by rw [hkn, ← HL.out, List.take_length]
        rw [e] at hown
        have HO := Lib.hid hown
        have hbz := HF.out.1.trans (hb.mono HF.out.1.size)
        clear hown e hb
        subst hkn
        have d : decide (r ≤ (55203 : Int)) = false := by simpa using h2
        go_wp2
        go_ret
        exact sp_of ⟨_, rfl, by rw [HL.out]; exact own_mono HO.out HF.out.1.size, hbz⟩ HI.out

theorem row_i32 {x : Row} (hx : x ∈ rowsP) : I32 (x.1, x.2.1) := by
  have := List.all_eq_true.1 rows_bounds x hx
  simp only [decide_eq_true_eq] at this
  unfold I32
  simp only
  omega

set_option maxHeartbeats 2000000 in
theorem part_any (x : Row) (hx : x ∈ rowsP) (c : Int) (w : World) : Calls Try.prog 67 #[.agg #[.int .i32 x.1, .int .i32 x.2.1, .int .i64 (x.2.2 : Int)], .int .i64 c] w (SP (partP c x) w) := by
  have hi := row_i32 hx
  have hrow := List.all_eq_true.1 rows_ref x hx
  obtain ⟨lo, hi', cl⟩ := x
  simp only at hi hrow ⊢
  have hb := below_new w (.cells #[.int .i32 lo, .int .i32 hi', .int .i64 (cl : Int)] 97)
  by_cases h14 : cl = 14
  · subst h14
    rw [if_pos rfl] at hrow
    simp only [decide_eq_true_eq, Prod.mk.injEq] at hrow
    obtain ⟨rfl, rfl, _⟩ := hrow
    by_cases hc : c = 14 ∨ c = 15
    · have e : partP c (44032, 55203, 14) = syllP c := by unfold partP; rw [if_pos ⟨rfl, hc⟩]
      rw [e]
      have C := syll_any c hc (w.alloc (.cells #[.int .i32 44032, .int .i32 55203, .int .i64 14] 97))
      have HB := Lib.hid hb
      have C := Lib.hid C
      generalize hS : syllP c = S at C ⊢
      clear hb e hi hS
      rcases hc with rfl | rfl
      all_goals
        go_enter Try.func67, Try.ntmps67
        go_wp2_with fail
        refine C.out.mono ?_
        rintro e w1 ⟨A1, c1, rfl, hS, hb1⟩
        have H := Lib.hid (And.intro hS (HB.out.trans (hb1.mono HB.out.size)))
        clear hS hb1
        go_wp2
        go_ret
        exact ⟨_, _, rfl, H.out.1, H.out.2⟩
    · have e : partP c (44032, 55203, 14) = [] := by
        unfold partP
        rw [if_neg (fun h => hc h.2), if_neg (show ¬ ((((44032, 55203, 14) : Row).2.2 : Int) = c) by show ¬ ((14 : Int) = c); omega)]
      rw [e]
      have d1 : (c == 14) = false := by simp; omega
      have d2 : (c == 15) = false := by simp; omega
      have d3 : ((14 : Int) == c) = false := by simp; omega
      have HB := Lib.hid hb
      clear hb e hi hc
      go_enter Try.func67, Try.ntmps67
      go_wp2
      go_ret
      exact ⟨none, 0, rfl, SW.nil _, HB.out⟩
  · have d0 : ((cl : Int) == 14) = false := by simp; omega
    have e1 : ¬ (cl = 14 ∧ (c = 14 ∨ c = 15)) := fun h => h14 h.1
    by_cases hc : (cl : Int) = c
    · have e : partP c (lo, hi', cl) = [(lo, hi')] := by
        unfold partP
        rw [if_neg e1, if_pos hc]
        rfl
      rw [e]
      have d3 : ((cl : Int) == c) = true := by simpa using hc
      have HB := Lib.hid hb
      have C := Lib.hid (fun W => whole_any lo hi' cl hi W)
      clear hb e hi hc hrow h14 e1 hx
      go_enter Try.func67, Try.ntmps67
      go_wp2_with fail
      refine (C.out _).mono ?_
      rintro e w1 ⟨A1, c1, rfl, hS, hb1⟩
      have H := Lib.hid (And.intro hS (HB.out.trans (hb1.mono HB.out.size)))
      clear hS hb1
      go_wp2
      go_ret
      exact ⟨_, _, rfl, H.out.1, H.out.2⟩
    · have e : partP c (lo, hi', cl) = [] := by
        unfold partP
        rw [if_neg e1, if_neg hc]
      rw [e]
      have d3 : ((cl : Int) == c) = false := by simpa using hc
      have HB := Lib.hid hb
      clear hb e hi hc hrow h14 e1 hx
      go_enter Try.func67, Try.ntmps67
      go_wp2
      go_ret
      exact ⟨none, 0, rfl, SW.nil _, HB.out⟩

set_option maxHeartbeats 2000000 in
theorem pick_any (x : Row) (hx : x ∈ rowsP) (c : Int) (b : Nat) (w : World) (hb : b < w.heap.size) (hc : w.cell? ⟨b, 0, none⟩ = some (.int .i64 c)) :
    Calls Try.prog 66 #[.agg #[.int .i32 x.1, .int .i32 x.2.1, .int .i64 (x.2.2 : Int)], .pointer (some ⟨b, 0, none⟩)] w (SP (partP c x) w) := by
  have C := fun W => part_any x hx c W
  obtain ⟨lo, hi', cl⟩ := x
  simp only at C ⊢
  have hbw := below_new w (.cells #[.int .i32 lo, .int .i32 hi', .int .i64 (cl : Int)] 97)
  have hc2 : (w.alloc (.cells #[.int .i32 lo, .int .i32 hi', .int .i64 (cl : Int)] 97)).cell? ⟨b, 0, none⟩ = some (.int .i64 c) := (hbw.cell (p := ⟨b, 0, none⟩) hb).trans hc
  have HB := Lib.hid hbw
  have C := Lib.hid C
  generalize partP c (lo, hi', cl) = S at C ⊢
  clear hbw hc hx
  go_enter Try.func66, Try.ntmps66
  go_wp2_with fail
  refine (C.out _).mono ?_
  rintro e w1 ⟨A1, c1, rfl, hS, hb1⟩
  have H := Lib.hid (And.intro hS (HB.out.trans (hb1.mono HB.out.size)))
  clear hS hb1
  go_wp2
  go_ret
  exact ⟨_, _, rfl, H.out.1, H.out.2⟩
end Go.Proofs.Ytphhdkffnboboaa
