/-
  Contracts: prop.row.whole, prop.row.syllables, prop.row.part, the closure of prop.Set.
  Contracts: prop.setOf.
  Contracts: prop.Set.
  Contracts: virguleref04.Set.
  Contracts: virgulelaw04.awake.
  PropSets: any class's numbers. The walk of the law. Which numbers the sets have.
  What the entries of prop.Trie tell.
-/
import Derived.Test.YtphhdkffnboboaaPsm
import Derived.Test.YtphhdkffnboboaaPsn
import Derived.Test.YtphhdkffnboboaaPsj
import Derived.Test.YtphhdkffnboboaaPsf
namespace Go.Proofs.Ytphhdkffnboboaa
open Go.RowKit Go.Shelf
open Go.Lib Go.Great

/-- A row as it is handed over. -/
def rv (x : Row) : Value := .agg #[.int .i32 x.1, .int .i32 x.2.1, .int .i64 (x.2.2 : Int)]

set_option maxHeartbeats 1000000 in
theorem whole_any (lo hi : Int) (c : Nat) (h : I32 (lo, hi)) (w : World) : Calls Try.prog 65 #[.agg #[.int .i32 lo, .int .i32 hi, .int .i64 (c : Int)]] w (SP [(lo, hi)] w) := by
  have hb := below_new w (.cells #[.int .i32 lo, .int .i32 hi, .int .i64 (c : Int)] 97)
  have hw := sw_new (w.alloc (.cells #[.int .i32 lo, .int .i32 hi, .int .i64 (c : Int)] 97)) [(lo, hi)] 70 1 rfl (by simpa using h) (by unfold maxLen; omega)
  have hb2 := hb.alloc hb.size (.cells #[.int .i32 lo, .int .i32 hi] 70)
  have e : (cells2 [(lo, hi)]).toArray = #[.int .i32 lo, .int .i32 hi] := rfl
  rw [e, World.size_alloc] at hw
  have HW := Lib.hid hw
  have HB := Lib.hid hb2
  clear hw hb hb2 e
  go_enter Try.func65, Try.ntmps65
  go_wp2
  go_ret
  exact ⟨_, _, rfl, HW.out, HB.out⟩

theorem syll_take (c : Int) (k : Nat) (h : k < 399) : (syllP c).take (k + 1) = (syllP c).take k ++ [syl1 c k] := by
  have : (syllP c)[k]? = some (syl1 c k) := by
    unfold syllP
    simp [h]
  rw [List.take_add_one, this]
  rfl
theorem syll_len (c : Int) : (syllP c).length = 399 := by simp [syllP]
theorem syll_i32 (c : Int) : ∀ x ∈ syllP c, I32 x := fun x hx => by
  obtain ⟨k, hk, rfl⟩ := List.mem_map.1 hx
  have := List.mem_range.1 hk
  unfold syl1 I32
  split <;> (simp only; omega)

set_option maxHeartbeats 4000000 in
set_option maxRecDepth 100000 in
theorem syll_any (c : Int) (hc : c = 14 ∨ c = 15) (w : World) : Calls Try.prog 76 #[.agg #[.int .i32 44032, .int .i32 55203, .int .i64 14], .int .i64 c] w (SP (syllP c) w) := by
  obtain ⟨i0, hi, hz0, hz1, hz2⟩ := info_parts Try.info70
  have HI := Lib.hid (syll_i32 c)
  have HL := Lib.hid (syll_len c)
  have HT := Lib.hid (syll_take c)
  have H1 : Hid (∀ k : Nat, syl1 14 k = (44032 + 28 * (k : Int), 44032 + 28 * (k : Int))) := Lib.hid fun k => rfl
  have H2 : Hid (∀ k : Nat, syl1 15 k = (44032 + 28 * (k : Int) + 1, 44032 + 28 * (k : Int) + 27)) := Lib.hid fun k => rfl
  have hb0 := below_new w (.cells #[.int .i32 44032, .int .i32 55203, .int .i64 14] 97)
  have f0 : (w.alloc (.cells #[.int .i32 44032, .int .i32 55203, .int .i64 14] 97)).cell? ⟨w.heap.size, 0, none⟩ = some (.int .i32 44032) := by simp
  have f1 : (w.alloc (.cells #[.int .i32 44032, .int .i32 55203, .int .i64 14] 97)).cell? ⟨w.heap.size, 1, none⟩ = some (.int .i32 55203) := by simp
  have hz : w.heap.size < (w.alloc (.cells #[.int .i32 44032, .int .i32 55203, .int .i64 14] 97)).heap.size := by simp
  generalize hW : w.alloc (.cells #[.int .i32 44032, .int .i32 55203, .int .i64 14] 97) = W0 at *
  have HW := Lib.hid hW
  have HF := Lib.hid (And.intro hb0 (And.intro f1 hz))
  clear hW hb0 f1 hz
  rcases hc with rfl | rfl
  · go_enter Try.func76, Try.ntmps76
    go_wp2_with fail
    rw [HW.out]
    go_wp2_with fail
    go_loopw [5, 6] (fun v i wr => ∃ k : Nat, ∃ r : Int, k ≤ 399 ∧ i = .int .i32 r ∧ Hid (r = 44032 + 28 * (k : Int)) ∧ 44032 ≤ r ∧ r ≤ 55204 ∧ wr.ownsRow W0.heap.size 70 2 v k (cells2 ((syllP 14).take k)) ∧ Below W0.heap.size W0 wr) (fun _ i _ => (55204 - RowKit.intOf i).toNat)
    case atStart => exact ⟨0, _, by omega, rfl, (rfl : (44032 : Int) = 44032 + 28 * ((0 : Nat) : Int)), by omega, by omega, World.ownsRow_nil _ _ _ _, Below.refl _ _⟩
    case round =>
      obtain ⟨k, r, hk, rfl, hr, r0, r1, hown, hb⟩ := hrel
      have g1 : wr.cell? ⟨w.heap.size, 1, none⟩ = some (.int .i32 55203) := (hb.cell (p := ⟨w.heap.size, 1, none⟩) HF.out.2.2).trans HF.out.2.1
      by_cases hlt : k < 399
      · have h2 : r ≤ 55203 := by have := hr.out; omega
        have own2 := hown.alloc (.cells #[.int .i32 r, .int .i32 r] 70)
        have hnews := news2 wr 70 (.int .i32 r) (.int .i32 r) rfl rfl
        have hlt0 := own_block_lt hown
        have hs := hb.size
        have HTk := Lib.hid (HT.out k hlt)
        have HQ := Lib.hid (H1.out k)
        go_wp2_with (at_builtin; refine wpList_append_own _ rfl _ _ 41 rfl W0.heap.size 70 i0 (.agg #[.int .i32 0, .int .i32 0]) 2 8 Try.underlying41 hi hz0 hz1 hz2 rfl (by decide) u5 k (cells2 ((syllP 14).take k)) rfl own2 ⟨wr.heap.size, 0, none⟩ 1 1 [.int .i32 r, .int .i32 r] rfl rfl hnews ?c2 ?c3 ?c4 ?c5 ?_)
        case c2 => intro u hu; simp at hu; rcases hu with rfl | rfl <;> rfl
        case c3 => unfold maxLen; omega
        case c4 => omega
        case c5 => simp; omega
        intro v' w2 own3 hgrow _
        have hbz : Below W0.heap.size W0 w2 := (hb.alloc hs _).grown hgrow (by simp; omega) (fun k e => (hlt0 k e).1)
        have e3 : cells2 ((syllP 14).take k) ++ [.int .i32 r, .int .i32 r] = cells2 ((syllP 14).take (k + 1)) := by
          rw [HTk.out, cells2_snoc, HQ.out]
          show _ = (_ : List Value) ++ [Value.int .i32 (44032 + 28 * (k : Int)), .int .i32 (44032 + 28 * (k : Int))]
          rw [show 44032 + 28 * (k : Int) = r by have := hr.out; omega]
        rw [e3] at own3
        clear e3 hgrow own2 hnews hown
        go_wp2
        go_roundw
        case rel => exact ⟨k + 1, _, by omega, rfl, (by have := hr.out; show r + 28 = 44032 + 28 * ((k + 1 : Nat) : Int); omega : Hid _), by omega, by have := hr.out; omega, own3, hbz⟩
        case measure => simp [RowKit.intOf]; omega
      · have hkn : k = 399 := by omega
        have h2 : 55203 < r := by have := hr.out; omega
        have e : (syllP 14).take k = syllP 14 := by rw [hkn, ← HL.out, List.take_length]
        rw [e] at hown
        have HO := Lib.hid hown
        have hbz := HF.out.1.trans (hb.mono HF.out.1.size)
        clear hown e hb
        subst hkn
        have d : decide (r ≤ (55203 : Int)) = false := by simpa using h2
        go_wp2
        go_ret
        exact sp_of ⟨_, rfl, by rw [HL.out]; exact own_mono HO.out HF.out.1.size, hbz⟩ HI.out
  · go_enter Try.func76, Try.ntmps76
    go_wp2_with fail
    rw [HW.out]
    go_wp2_with fail
    go_loopw [5, 6] (fun v i wr => ∃ k : Nat, ∃ r : Int, k ≤ 399 ∧ i = .int .i32 r ∧ Hid (r = 44032 + 28 * (k : Int)) ∧ 44032 ≤ r ∧ r ≤ 55204 ∧ wr.ownsRow W0.heap.size 70 2 v k (cells2 ((syllP 15).take k)) ∧ Below W0.heap.size W0 wr) (fun _ i _ => (55204 - RowKit.intOf i).toNat)
    case atStart => exact ⟨0, _, by omega, rfl, (rfl : (44032 : Int) = 44032 + 28 * ((0 : Nat) : Int)), by omega, by omega, World.ownsRow_nil _ _ _ _, Below.refl _ _⟩
    case round =>
      obtain ⟨k, r, hk, rfl, hr, r0, r1, hown, hb⟩ := hrel
      have g1 : wr.cell? ⟨w.heap.size, 1, none⟩ = some (.int .i32 55203) := (hb.cell (p := ⟨w.heap.size, 1, none⟩) HF.out.2.2).trans HF.out.2.1
      by_cases hlt : k < 399
      · have h2 : r ≤ 55203 := by have := hr.out; omega
        have own2 := hown.alloc (.cells #[.int .i32 (r + 1), .int .i32 (r + 28 - 1)] 70)
        have hnews := news2 wr 70 (.int .i32 (r + 1)) (.int .i32 (r + 28 - 1)) rfl rfl
        have hlt0 := own_block_lt hown
        have hs := hb.size
        have HTk := Lib.hid (HT.out k hlt)
        have HQ := Lib.hid (H2.out k)
        go_wp2_with (at_builtin; refine wpList_append_own _ rfl _ _ 41 rfl W0.heap.size 70 i0 (.agg #[.int .i32 0, .int .i32 0]) 2 8 Try.underlying41 hi hz0 hz1 hz2 rfl (by decide) u5 k (cells2 ((syllP 15).take k)) rfl own2 ⟨wr.heap.size, 0, none⟩ 1 1 [.int .i32 (r + 1), .int .i32 (r + 28 - 1)] rfl rfl hnews ?c2 ?c3 ?c4 ?c5 ?_)
        case c2 => intro u hu; simp at hu; rcases hu with rfl | rfl <;> rfl
        case c3 => unfold maxLen; omega
        case c4 => omega
        case c5 => simp; omega
        intro v' w2 own3 hgrow _
        have hbz : Below W0.heap.size W0 w2 := (hb.alloc hs _).grown hgrow (by simp; omega) (fun k e => (hlt0 k e).1)
        have e3 : cells2 ((syllP 15).take k) ++ [.int .i32 (r + 1), .int .i32 (r + 28 - 1)] = cells2 ((syllP 15).take (k + 1)) := by
          rw [HTk.out, cells2_snoc, HQ.out]
          show _ = (_ : List Value) ++ [Value.int .i32 (44032 + 28 * (k : Int) + 1), .int .i32 (44032 + 28 * (k : Int) + 27)]
          rw [show 44032 + 28 * (k : Int) + 1 = r + 1 by have := hr.out; omega, show 44032 + 28 * (k : Int) + 27 = r + 28 - 1 by have := hr.out; omega]
        rw [e3] at own3
        clear e3 hgrow own2 hnews hown
        go_wp2
        go_roundw
        case rel => exact ⟨k + 1, _, by omega, rfl, (by have := hr.out; show r + 28 = 44032 + 28 * ((k + 1 : Nat) : Int); omega : Hid _), by omega, by have := hr.out; omega, own3, hbz⟩
        case measure => simp [RowKit.intOf]; omega
      · have hkn : k = 399 := by omega
        have h2 : 55203 < r := by have := hr.out; omega
        have e : (syllP 15).take k = syllP 15 := by rw [hkn, ← HL.out, List.take_length]
        rw [e] at hown
        have HO := Lib.hid hown
        have hbz := HF.out.1.trans (hb.mono HF.out.1.size)
        clear hown e hb
        subst hkn
        have d : decide (r ≤ (55203 : Int)) = false := by simpa using h2
        go_wp2
        go_ret
        exact sp_of ⟨_, rfl, by rw [HL.out]; exact own_mono HO.out HF.out.1.size, hbz⟩ HI.out

theorem row_i32 {x : Row} (hx : x ∈ rowsP) : I32 (x.1, x.2.1) := by
  have := List.all_eq_true.1 rows_bounds x hx
  simp only [decide_eq_true_eq] at this
  unfold I32
  simp only
  omega

set_option maxHeartbeats 2000000 in
theorem part_any (x : Row) (hx : x ∈ rowsP) (c : Int) (w : World) : Calls Try.prog 67 #[.agg #[.int .i32 x.1, .int .i32 x.2.1, .int .i64 (x.2.2 : Int)], .int .i64 c] w (SP (partP c x) w) := by
  have hi := row_i32 hx
  have hrow := List.all_eq_true.1 rows_ref x hx
  obtain ⟨lo, hi', cl⟩ := x
  simp only at hi hrow ⊢
  have hb := below_new w (.cells #[.int .i32 lo, .int .i32 hi', .int .i64 (cl : Int)] 97)
  by_cases h14 : cl = 14
  · subst h14
    rw [if_pos rfl] at hrow
    simp only [decide_eq_true_eq, Prod.mk.injEq] at hrow
    obtain ⟨rfl, rfl, _⟩ := hrow
    by_cases hc : c = 14 ∨ c = 15
    · have e : partP c (44032, 55203, 14) = syllP c := by unfold partP; rw [if_pos ⟨rfl, hc⟩]
      rw [e]
      have C := syll_any c hc (w.alloc (.cells #[.int .i32 44032, .int .i32 55203, .int .i64 14] 97))
      have HB := Lib.hid hb
      have C := Lib.hid C
      generalize hS : syllP c = S at C ⊢
      clear hb e hi hS
      rcases hc with rfl | rfl
      all_goals
        go_enter Try.func67, Try.ntmps67
        go_wp2_with fail
        refine C.out.mono ?_
        rintro e w1 ⟨A1, c1, rfl, hS, hb1⟩
        have H := Lib.hid (And.intro hS (HB.out.trans (hb1.mono HB.out.size)))
        clear hS hb1
        go_wp2
        go_ret
        exact ⟨_, _, rfl, H.out.1, H.out.2⟩
    · have e : partP c (44032, 55203, 14) = [] := by
        unfold partP
        rw [if_neg (fun h => hc h.2), if_neg (show ¬ ((((44032, 55203, 14) : Row).2.2 : Int) = c) by show ¬ ((14 : Int) = c); omega)]
      rw [e]
      have d1 : (c == 14) = false := by simp; omega
      have d2 : (c == 15) = false := by simp; omega
      have d3 : ((14 : Int) == c) = false := by simp; omega
      have HB := Lib.hid hb
      clear hb e hi hc
      go_enter Try.func67, Try.ntmps67
      go_wp2
      go_ret
      exact ⟨none, 0, rfl, SW.nil _, HB.out⟩
  · have d0 : ((cl : Int) == 14) = false := by simp; omega
    have e1 : ¬ (cl = 14 ∧ (c = 14 ∨ c = 15)) := fun h => h14 h.1
    by_cases hc : (cl : Int) = c
    · have e : partP c (lo, hi', cl) = [(lo, hi')] := by
        unfold partP
        rw [if_neg e1, if_pos hc]
        rfl
      rw [e]
      have d3 : ((cl : Int) == c) = true := by simpa using hc
      have HB := Lib.hid hb
      have C := Lib.hid (fun W => whole_any lo hi' cl hi W)
      clear hb e hi hc hrow h14 e1 hx
      go_enter Try.func67, Try.ntmps67
      go_wp2_with fail
      refine (C.out _).mono ?_
      rintro e w1 ⟨A1, c1, rfl, hS, hb1⟩
      have H := Lib.hid (And.intro hS (HB.out.trans (hb1.mono HB.out.size)))
      clear hS hb1
      go_wp2
      go_ret
      exact ⟨_, _, rfl, H.out.1, H.out.2⟩
    · have e : partP c (lo, hi', cl) = [] := by
        unfold partP
        rw [if_neg e1, if_neg hc]
      rw [e]
      have d3 : ((cl : Int) == c) = false := by simpa using hc
      have HB := Lib.hid hb
      clear hb e hi hc hrow h14 e1 hx
      go_enter Try.func67, Try.ntmps67
      go_wp2
      go_ret
      exact ⟨none, 0, rfl, SW.nil _, HB.out⟩

set_option maxHeartbeats 2000000 in
theorem pick_any (x : Row) (hx : x ∈ rowsP) (c : Int) (b : Nat) (w : World) (hb : b < w.heap.size) (hc : w.cell? ⟨b, 0, none⟩ = some (.int .i64 c)) :
    Calls Try.prog 66 #[.agg #[.int .i32 x.1, .int .i32 x.2.1, .int .i64 (x.2.2 : Int)], .pointer (some ⟨b, 0, none⟩)] w (SP (partP c x) w) := by
  have C := fun W => part_any x hx c W
  obtain ⟨lo, hi', cl⟩ := x
  simp only at C ⊢
  have hbw := below_new w (.cells #[.int .i32 lo, .int .i32 hi', .int .i64 (cl : Int)] 97)
  have hc2 : (w.alloc (.cells #[.int .i32 lo, .int .i32 hi', .int .i64 (cl : Int)] 97)).cell? ⟨b, 0, none⟩ = some (.int .i64 c) := (hbw.cell (p := ⟨b, 0, none⟩) hb).trans hc
  have HB := Lib.hid hbw
  have C := Lib.hid C
  generalize partP c (lo, hi', cl) = S at C ⊢
  clear hbw hc hx
  go_enter Try.func66, Try.ntmps66
  go_wp2_with fail
  refine (C.out _).mono ?_
  rintro e w1 ⟨A1, c1, rfl, hS, hb1⟩
  have H := Lib.hid (And.intro hS (HB.out.trans (hb1.mono HB.out.size)))
  clear hS hb1
  go_wp2
  go_ret
  exact ⟨_, _, rfl, H.out.1, H.out.2⟩
end Go.Proofs.Ytphhdkffnboboaa

namespace Go.Proofs.Ytphhdkffnboboaa
open Go.RowKit Go.Shelf
open Go.Lib Go.Great

theorem NR_extract {k : Nat} {x : Row} (hx : rowsP[k]? = some x) : NR.extract (k * 3) (k * 3 + 3) = #[.int .i32 x.1, .int .i32 x.2.1, .int .i64 (x.2.2 : Int)] := by
  obtain ⟨h1, h2, h3⟩ := NR_get rowsP k x hx
  have hl := (List.getElem?_eq_some_iff.1 h3).1
  have hs : NR.size = (rowsP.flatMap rcell).length := by unfold NR; simp
  apply Array.ext
  · simp only [Array.size_extract, List.size_toArray, List.length_cons, List.length_nil]
    omega
  · intro i h4 h5
    have h5' : i < 3 := by simpa using h5
    rw [Array.getElem_extract]
    have e : ∀ j (hj : j < NR.size) v, (rowsP.flatMap rcell)[j]? = some v → NR[j] = v := by
      intro j hj v hv
      have : NR[j]? = some v := by unfold NR; simpa using hv
      rw [Array.getElem?_eq_getElem hj] at this
      exact Option.some.inj this
    match i, h5' with
    | 0, _ => exact e _ _ _ (by simpa using h1)
    | 1, _ => exact e _ _ _ h2
    | 2, _ => exact e _ _ _ h3
theorem row_index {k : Nat} {x : Row} (hx : rowsP[k]? = some x) (w : World) : (Instr.index 98 (.agg NR) (.int .i64 (k : Int))).run Try.prog w = .ok (.agg #[.int .i32 x.1, .int .i32 x.2.1, .int .i64 (x.2.2 : Int)]) w := by
  have hk : k < 140 := by have := (List.getElem?_eq_some_iff.1 hx).1; rw [rows_len] at this; exact this
  have hE := NR_extract hx
  simp [Instr.index, asIntOf, run_underlying Try.underlying98, part, Try.isAgg97, Try.sizeOf97, Sem.run_bind, Result.andThen, hE, go_sem]
  omega

theorem flat_take (pick : Row → List Rng) (k : Nat) (x : Row) (hx : rowsP[k]? = some x) : (rowsP.take (k + 1)).flatMap pick = (rowsP.take k).flatMap pick ++ pick x := by
  rw [List.take_add_one, hx]
  simp
theorem flat_len (pick : Row → List Rng) (k : Nat) : ((rowsP.take k).flatMap pick).length ≤ (rowsP.flatMap pick).length := by
  have : rowsP.flatMap pick = (rowsP.take k).flatMap pick ++ (rowsP.drop k).flatMap pick := by rw [← List.flatMap_append, List.take_append_drop]
  rw [this]
  simp

attribute [local irreducible] NR

set_option maxHeartbeats 4000000 in
set_option maxRecDepth 100000 in
theorem setOf_any (g : Nat) (cb : Array Value) (eg : ∀ args w, (callFunc g args).run Try.prog w = .ok (.enter g args) w) (pick : Row → List Rng) (w : World)
    (hp : ∀ x, x ∈ rowsP → ∀ W, Below w.heap.size w W → Calls Try.prog g (#[.agg #[.int .i32 x.1, .int .i32 x.2.1, .int .i64 (x.2.2 : Int)]] ++ cb) W (SP (pick x) W))
    (hm : ((rowsP.flatMap pick).all may) = true) (hl : (rowsP.flatMap pick).length ≤ 1000) :
    Calls Try.prog 64 #[.func (.func g) #[] cb] w fun e w' => SP (norm (hasR (rowsP.flatMap pick))) w e w' ∧ (∀ r, hasR (norm (hasR (rowsP.flatMap pick))) r = hasR (rowsP.flatMap pick) r) ∧ (norm (hasR (rowsP.flatMap pick))).length ≤ 1000 := by
  obtain ⟨i0, hi, hz0, hz1, hz2⟩ := info_parts Try.info70
  obtain ⟨F, hF⟩ : ∃ F : Nat → List Rng, ∀ k, F k = (rowsP.take k).flatMap pick := ⟨_, fun _ => rfl⟩
  have HF0 : Hid (F 0 = []) := Lib.hid (by rw [hF]; rfl)
  have HFs : Hid (∀ k x, rowsP[k]? = some x → F (k + 1) = F k ++ pick x) := Lib.hid (fun k x hx => by rw [hF, hF]; exact flat_take pick k x hx)
  have HFl : Hid (∀ k, (F k).length ≤ (rowsP.flatMap pick).length) := Lib.hid (fun k => by rw [hF]; exact flat_len pick k)
  have HFT : Hid (∀ k, 140 ≤ k → F k = rowsP.flatMap pick) := Lib.hid (fun k hk => by rw [hF, List.take_of_length_le (by rw [rows_len]; exact hk)])
  clear hF
  generalize rowsP.flatMap pick = T at *
  have HP := Lib.hid hp
  have HM := Lib.hid hm
  have HL := Lib.hid hl
  have EG := Lib.hid eg
  clear hp hm hl eg
  go_enter Try.func64, Try.ntmps64
  go_wp2_with fail
  refine (rows_any _).mono ?_
  rintro e w1 ⟨rfl, hb1⟩
  have HB1 := Lib.hid hb1
  clear hb1
  go_wp2_with fail
  go_loopw [3, 9] (fun v i wr => ∃ k : Nat, i = .int .i64 k ∧ k ≤ 140 ∧ wr.ownsRow w1.heap.size 70 2 v (F k).length (cells2 (F k)) ∧ Below w1.heap.size w1 wr) (fun _ i _ => 140 - (RowKit.intOf i).toNat)
  case atStart => exact ⟨0, rfl, by omega, by rw [HF0.out]; exact World.ownsRow_nil _ _ _ _, Below.refl _ _⟩
  case round =>
    obtain ⟨k, rfl, hk, hown, hb⟩ := hrel
    by_cases hlt : k < 140
    · obtain ⟨x, hx⟩ : ∃ x, rowsP[k]? = some x := ⟨rowsP[k]'(by rw [rows_len]; exact hlt), List.getElem?_eq_getElem _⟩
      have HX := Lib.hid (row_index hx)
      have HF := Lib.hid (HFs.out k x hx)
      have HLk1 := Lib.hid (HFl.out (k + 1))
      have hmem := List.mem_of_getElem? hx
      have C := Lib.hid (HP.out x hmem)
      clear hx hmem
      obtain ⟨lo, hi', cl⟩ := x
      have i1 : (k : Int) < 140 := by omega
      have hX := HX.out wr
      simp only at hX
      have hbx := hb.alloc hb.size (.cells #[.int .i32 lo, .int .i32 hi', .int .i64 (cl : Int)] 97)
      have own1 := hown.alloc (.cells #[.int .i32 lo, .int .i32 hi', .int .i64 (cl : Int)] 97)
      have hC := C.out _ (HB1.out.trans (hbx.mono HB1.out.size))
      simp only at hC
      generalize hP : pick (lo, hi', cl) = Pk at hC HF
      clear hP hown
      have hEG := EG.out
      go_wp2_with fail
      refine hC.mono ?_
      rintro e w2 ⟨A1, c1, rfl, hS, hb2⟩
      have own2 := ownsRow_below own1 hb2
      have hbz := hbx.trans (hb2.mono hbx.size)
      have HO := Lib.hid own2
      have HS := Lib.hid hS
      have HZ := Lib.hid hbz
      have hlen : (F k).length + Pk.length ≤ 1000 := by
        have h1 := HLk1.out
        have h2 := HL.out
        rw [HF.out, List.length_append] at h1
        omega
      have HLN := Lib.hid hlen
      clear hC own1 own2 hb hb2 hbx hbz hS hlen hEG
      go_wp2_with (refine wpList_append_rg rfl (.tmp 12) (.tmp 15) 41 41 rfl w1.heap.size 70 i0 (.agg #[.int .i32 0, .int .i32 0]) Try.underlying41 Try.underlying41 hi hz0 hz1 hz2 rfl _ (F k) rfl HO.out A1 c1 Pk rfl HS.out.r HS.out.f.w (by have := HLN.out; omega) HZ.out.size ?_; intro v2 w3 own3 hb3)
      rw [← HF.out] at own3
      have hbq := HZ.out.trans hb3
      clear hb3
      go_wp2
      go_roundw
      case rel => exact ⟨k + 1, by go_num, by omega, own3, hbq⟩
      case measure => simp [RowKit.intOf]; omega
    · have hkn : k = 140 := by omega
      have e : F k = T := HFT.out k (by omega)
      rw [e] at hown
      have i1 : (140 : Int) ≤ (k : Int) := by omega
      clear hkn hlt
      obtain ⟨A1, c1, hv, hS⟩ := sw_own hown (fun x hx => may_i32 (List.all_eq_true.1 HM.out) x hx)
      subst hv
      have C := make_ok A1 c1 T wr hS (by exact HL.out) HM.out
      have C := Lib.hid C
      have hbz := HB1.out.trans (hb.mono HB1.out.size)
      have HZ := Lib.hid hbz
      clear hown e hS hb hbz
      go_wp2_with fail
      refine C.out.mono ?_
      rintro e w2 ⟨A2, c2, rfl, hS, hle, hh, hb2⟩
      have H := Lib.hid (And.intro hS (And.intro (HZ.out.trans (hb2.mono HZ.out.size)) (And.intro hh (show (norm (hasR T)).length ≤ 1000 by have := HL.out; omega))))
      clear hS hle hh hb2
      go_wp2
      go_ret
      exact ⟨⟨_, _, rfl, H.out.1, H.out.2.1⟩, H.out.2.2.1, H.out.2.2.2⟩
end Go.Proofs.Ytphhdkffnboboaa

namespace Go.Proofs.Ytphhdkffnboboaa
open Go.RowKit Go.Shelf
open Go.Lib Go.Great

/-- The set of a class, as prop makes it. -/
noncomputable def setP (c : Int) : List Rng := if c = 0 then norm (notR (norm (hasR (rowsP.flatMap wholeP)))) else norm (hasR (rowsP.flatMap (partP c)))

theorem parts_ok (c : Int) (h0 : c ≠ 0) : ((rowsP.flatMap (partP c)).all may) = true ∧ (rowsP.flatMap (partP c)).length ≤ 1000 := by
  by_cases h : c < 0 ∨ 35 < c
  · rw [part_out h]
    exact ⟨rfl, Nat.zero_le _⟩
  · obtain ⟨n, rfl⟩ := Int.eq_ofNat_of_zero_le (show 0 ≤ c by omega)
    have hr := part_right (c := n) (by omega) (by omega)
    refine ⟨?_, part_len (by omega) (by omega)⟩
    show (rowsP.flatMap (partP (n : Int))).all may = true
    rw [hr.1, List.all_eq_true]
    exact fun x hx => (right_may (b := -1) hr.2 x hx).1

set_option maxHeartbeats 2000000 in
theorem set_any (c : Int) (w : World) : Calls Try.prog 34 #[.int .i64 c] w fun e w' => SP (setP c) w e w' ∧ right (setP c) = true ∧ (setP c).length ≤ 1001 := by
  have hb := below_new w (.cells #[.int .i64 c] 3)
  have hc := cell_new_sl w (.int .i64 c) 3
  have hz : w.heap.size < (w.alloc (.cells #[.int .i64 c] 3)).heap.size := by simp
  generalize hW : w.alloc (.cells #[.int .i64 c] 3) = W0 at *
  have HW := Lib.hid hW
  clear hW
  by_cases h0 : c = 0
  · subst h0
    have e : setP 0 = norm (notR (norm (hasR (rowsP.flatMap wholeP)))) := by unfold setP; rw [if_pos rfl]
    rw [e]
    have C := setOf_any 65 #[] (fun _ _ => by kernel_rfl) wholeP W0 (fun x hx W _ => by
      have := whole_any x.1 x.2.1 x.2.2 (row_i32 hx) W
      exact this) whole_may (by rw [whole_len]; omega)
    generalize rowsP.flatMap wholeP = T at *
    have hr := norm_right (hasR T)
    generalize norm (hasR T) = S at *
    have C2f := fun A c W (hS : SW W A c S) (hl : S.length ≤ 1000) => not_sp A c S W hS hr (by omega)
    have hr2 := norm_right (notR S)
    generalize norm (notR S) = S2 at *
    have C2f := Lib.hid C2f
    have HR2 := Lib.hid hr2
    have C := Lib.hid C
    have HB := Lib.hid hb
    clear e hr hb hz hr2
    go_enter Try.func34, Try.ntmps34
    go_wp2_with fail
    rw [HW.out]
    go_wp2_with fail
    refine C.out.mono ?_
    rintro e w1 ⟨⟨A1, c1, rfl, hS, hb1⟩, _, hl⟩
    have C2 := C2f.out A1 c1 w1 hS hl
    have HL := Lib.hid hl
    have C2 := Lib.hid C2
    have hb2 := HB.out.trans (hb1.mono HB.out.size)
    have HB2 := Lib.hid hb2
    clear hS hb1 hb2 hl
    go_wp2_with fail
    refine C2.out.mono ?_
    rintro e w2 ⟨⟨A2, c2, rfl, hS, hb1⟩, _, hl⟩
    have H := Lib.hid (And.intro hS (And.intro (HB2.out.trans (hb1.mono HB2.out.size)) (show S2.length ≤ 1001 by have := HL.out; omega)))
    clear hS hb1 hl
    go_wp2
    go_ret
    exact ⟨⟨_, _, rfl, H.out.1, H.out.2.1⟩, HR2.out, H.out.2.2⟩
  · have e : setP c = norm (hasR (rowsP.flatMap (partP c))) := by unfold setP; rw [if_neg h0]
    rw [e]
    have hp := parts_ok c h0
    have C := setOf_any 66 #[.pointer (some ⟨w.heap.size, 0, none⟩)] (fun _ _ => by kernel_rfl) (partP c) W0 (fun x hx W hbW => by
      have := pick_any x hx c w.heap.size W (by have := hbW.size; omega) ((hbW.cell (p := ⟨w.heap.size, 0, none⟩) hz).trans hc)
      exact this) hp.1 hp.2
    generalize rowsP.flatMap (partP c) = T at *
    have hr := norm_right (hasR T)
    generalize norm (hasR T) = S at *
    have C := Lib.hid C
    have HR := Lib.hid hr
    have HB := Lib.hid hb
    have d : (c == 0) = false := by simpa using h0
    clear e hr hb hz hp h0
    go_enter Try.func34, Try.ntmps34
    go_wp2_with fail
    rw [HW.out]
    go_wp2_with fail
    refine C.out.mono ?_
    rintro e w1 ⟨⟨A1, c1, rfl, hS, hb1⟩, _, hl⟩
    have H := Lib.hid (And.intro hS (And.intro (HB.out.trans (hb1.mono HB.out.size)) hl))
    clear hS hb1 hl
    go_wp2
    go_ret
    exact ⟨⟨_, _, rfl, H.out.1, H.out.2.1⟩, HR.out, by have := H.out.2.2; omega⟩
end Go.Proofs.Ytphhdkffnboboaa

namespace Go.Proofs.Ytphhdkffnboboaa
open Go.RowKit Go.Shelf
open Go.Lib Go.Great

/-- The set of a class, as the document's answer makes it. -/
noncomputable def refSet (c : Nat) : List Rng := if c = 0 then norm (notR (norm (hasR (allP 35)))) else refS c
theorem allP_succ (n : Nat) : allP (n + 1) = allP n ++ refList (n + 1) := by
  unfold allP
  rw [List.range_succ]
  simp
theorem allP_len (n : Nat) : (allP n).length ≤ (allP (n + 1)).length := by rw [allP_succ]; simp
theorem allP_le (n : Nat) (h : n ≤ 35) : (allP n).length ≤ 200 := by
  have : ∀ m, n ≤ m → (allP n).length ≤ (allP m).length := by
    intro m hm
    induction m with
    | zero => obtain rfl : n = 0 := by omega
              omega
    | succ m ih =>
      by_cases c : n ≤ m
      · exact Nat.le_trans (ih c) (allP_len m)
      · obtain rfl : n = m + 1 := by omega
        omega
  exact Nat.le_trans (this 35 h) all_len
theorem SW.aw {w : World} {A : Option Addr} {c : Nat} {xs : List Rng} (h : SW w A c xs) : AW w A c xs := ⟨h.r, h.f.w⟩

set_option maxHeartbeats 4000000 in
set_option maxRecDepth 100000 in
theorem rset_14 (w : World) : Calls Try.prog 35 #[.int .i64 14] w (SP (syllP 14) w) := by
  obtain ⟨i0, hi, hz0, hz1, hz2⟩ := info_parts Try.info40
  have HI := Lib.hid (syll_i32 14)
  have HL := Lib.hid (syll_len 14)
  have HT := Lib.hid (syll_take 14)
  have H1 : Hid (∀ k : Nat, syl1 14 k = (44032 + 28 * (k : Int), 44032 + 28 * (k : Int))) := Lib.hid fun k => rfl
  go_enter Try.func35, Try.ntmps35
  go_wp2_with fail
  go_loopw [3, 4] (fun v i wr => ∃ k : Nat, ∃ r : Int, k ≤ 399 ∧ i = .int .i32 r ∧ Hid (r = 44032 + 28 * (k : Int)) ∧ 44032 ≤ r ∧ r ≤ 55204 ∧ wr.ownsRow w.heap.size 40 2 v k (cells2 ((syllP 14).take k)) ∧ Below w.heap.size w wr) (fun _ i _ => (55204 - RowKit.intOf i).toNat)
  case atStart => exact ⟨0, _, by omega, rfl, (rfl : (44032 : Int) = 44032 + 28 * ((0 : Nat) : Int)), by omega, by omega, World.ownsRow_nil _ _ _ _, Below.refl _ _⟩
  case round =>
    obtain ⟨k, r, hk, rfl, hr, r0, r1, hown, hb⟩ := hrel
    by_cases hlt : k < 399
    · have h2 : r ≤ 55203 := by have := hr.out; omega
      have own2 := hown.alloc (.cells #[.int .i32 r, .int .i32 r] 40)
      have hnews := news2 wr 40 (.int .i32 r) (.int .i32 r) rfl rfl
      have hlt0 := own_block_lt hown
      have hs := hb.size
      have HTk := Lib.hid (HT.out k hlt)
      have HQ := Lib.hid (H1.out k)
      go_wp2_with (at_builtin; refine wpList_append_own _ rfl _ _ 36 rfl w.heap.size 40 i0 (.agg #[.int .i32 0, .int .i32 0]) 2 8 Try.underlying36 hi hz0 hz1 hz2 rfl (by decide) u3 k (cells2 ((syllP 14).take k)) rfl own2 ⟨wr.heap.size, 0, none⟩ 1 1 [.int .i32 r, .int .i32 r] rfl rfl hnews ?c2 ?c3 ?c4 ?c5 ?_)
      case c2 => intro u hu; simp at hu; rcases hu with rfl | rfl <;> rfl
      case c3 => unfold maxLen; omega
      case c4 => omega
      case c5 => simp; omega
      intro v' w2 own3 hgrow _
      have hbz : Below w.heap.size w w2 := (hb.alloc hs _).grown hgrow (by simp; omega) (fun k e => (hlt0 k e).1)
      have e3 : cells2 ((syllP 14).take k) ++ [.int .i32 r, .int .i32 r] = cells2 ((syllP 14).take (k + 1)) := by
        rw [HTk.out, cells2_snoc, HQ.out]
        show _ = (_ : List Value) ++ [Value.int .i32 (44032 + 28 * (k : Int)), Value.int .i32 (44032 + 28 * (k : Int))]
        rw [show 44032 + 28 * (k : Int) = r by have := hr.out; omega]
      rw [e3] at own3
      clear e3 hgrow own2 hnews hown
      go_wp2
      go_roundw
      case rel => exact ⟨k + 1, _, by omega, rfl, (by have := hr.out; show r + 28 = 44032 + 28 * ((k + 1 : Nat) : Int); omega : Hid _), by omega, by have := hr.out; omega, own3, hbz⟩
      case measure => simp [RowKit.intOf]; omega
    · have hkn : k = 399 := by omega
      have h2 : 55203 < r := by have := hr.out; omega
      have e : (syllP 14).take k = syllP 14 := by rw [hkn, ← HL.out, List.take_length]
      rw [e] at hown
      have HO := Lib.hid hown
      have HZ := Lib.hid hb
      clear hown e hb
      subst hkn
      have d : decide (r ≤ (55203 : Int)) = false := by simpa using h2
      go_wp2
      go_ret
      exact sp_of ⟨_, rfl, by rw [HL.out]; exact HO.out, HZ.out⟩ HI.out
set_option maxHeartbeats 4000000 in
set_option maxRecDepth 100000 in
theorem rset_15 (w : World) : Calls Try.prog 35 #[.int .i64 15] w (SP (syllP 15) w) := by
  obtain ⟨i0, hi, hz0, hz1, hz2⟩ := info_parts Try.info40
  have HI := Lib.hid (syll_i32 15)
  have HL := Lib.hid (syll_len 15)
  have HT := Lib.hid (syll_take 15)
  have H2 : Hid (∀ k : Nat, syl1 15 k = (44032 + 28 * (k : Int) + 1, 44032 + 28 * (k : Int) + 27)) := Lib.hid fun k => rfl
  go_enter Try.func35, Try.ntmps35
  go_wp2_with fail
  go_loopw [3, 4] (fun v i wr => ∃ k : Nat, ∃ r : Int, k ≤ 399 ∧ i = .int .i32 r ∧ Hid (r = 44032 + 28 * (k : Int)) ∧ 44032 ≤ r ∧ r ≤ 55204 ∧ wr.ownsRow w.heap.size 40 2 v k (cells2 ((syllP 15).take k)) ∧ Below w.heap.size w wr) (fun _ i _ => (55204 - RowKit.intOf i).toNat)
  case atStart => exact ⟨0, _, by omega, rfl, (rfl : (44032 : Int) = 44032 + 28 * ((0 : Nat) : Int)), by omega, by omega, World.ownsRow_nil _ _ _ _, Below.refl _ _⟩
  case round =>
    obtain ⟨k, r, hk, rfl, hr, r0, r1, hown, hb⟩ := hrel
    by_cases hlt : k < 399
    · have h2 : r ≤ 55203 := by have := hr.out; omega
      have own2 := hown.alloc (.cells #[.int .i32 (r + 1), .int .i32 (r + 27)] 40)
      have hnews := news2 wr 40 (.int .i32 (r + 1)) (.int .i32 (r + 27)) rfl rfl
      have hlt0 := own_block_lt hown
      have hs := hb.size
      have HTk := Lib.hid (HT.out k hlt)
      have HQ := Lib.hid (H2.out k)
      go_wp2_with (at_builtin; refine wpList_append_own _ rfl _ _ 36 rfl w.heap.size 40 i0 (.agg #[.int .i32 0, .int .i32 0]) 2 8 Try.underlying36 hi hz0 hz1 hz2 rfl (by decide) u3 k (cells2 ((syllP 15).take k)) rfl own2 ⟨wr.heap.size, 0, none⟩ 1 1 [.int .i32 (r + 1), .int .i32 (r + 27)] rfl rfl hnews ?c2 ?c3 ?c4 ?c5 ?_)
      case c2 => intro u hu; simp at hu; rcases hu with rfl | rfl <;> rfl
      case c3 => unfold maxLen; omega
      case c4 => omega
      case c5 => simp; omega
      intro v' w2 own3 hgrow _
      have hbz : Below w.heap.size w w2 := (hb.alloc hs _).grown hgrow (by simp; omega) (fun k e => (hlt0 k e).1)
      have e3 : cells2 ((syllP 15).take k) ++ [.int .i32 (r + 1), .int .i32 (r + 27)] = cells2 ((syllP 15).take (k + 1)) := by
        rw [HTk.out, cells2_snoc, HQ.out]
        show _ = (_ : List Value) ++ [Value.int .i32 (44032 + 28 * (k : Int) + 1), Value.int .i32 (44032 + 28 * (k : Int) + 27)]
        rw [show 44032 + 28 * (k : Int) + 1 = r + 1 by have := hr.out; omega, show 44032 + 28 * (k : Int) + 27 = r + 27 by have := hr.out; omega]
      rw [e3] at own3
      clear e3 hgrow own2 hnews hown
      go_wp2
      go_roundw
      case rel => exact ⟨k + 1, _, by omega, rfl, (by have := hr.out; show r + 28 = 44032 + 28 * ((k + 1 : Nat) : Int); omega : Hid _), by omega, by have := hr.out; omega, own3, hbz⟩
      case measure => simp [RowKit.intOf]; omega
    · have hkn : k = 399 := by omega
      have h2 : 55203 < r := by have := hr.out; omega
      have e : (syllP 15).take k = syllP 15 := by rw [hkn, ← HL.out, List.take_length]
      rw [e] at hown
      have HO := Lib.hid hown
      have HZ := Lib.hid hb
      clear hown e hb
      subst hkn
      have d : decide (r ≤ (55203 : Int)) = false := by simpa using h2
      go_wp2
      go_ret
      exact sp_of ⟨_, rfl, by rw [HL.out]; exact HO.out, HZ.out⟩ HI.out

set_option maxHeartbeats 2000000 in
theorem rset_list (c : Nat) (h0 : 0 < c) (h : c < 36) (h14 : c ≠ 14 ∧ c ≠ 15) (w : World) : Calls Try.prog 35 #[.int .i64 (c : Int)] w (SP (refList c) w) := by
  have C := Lib.hid (list_any c h0 h)
  have d1 : ((c : Int) == 14) = false := by simp; omega
  have d2 : ((c : Int) == 15) = false := by simp; omega
  have d3 : ((c : Int) == 0) = false := by simp; omega
  have d4 : ((c : Int) != 0) = true := by simp; omega
  clear h0 h h14
  go_enter Try.func35, Try.ntmps35
  go_wp2_with fail
  refine (C.out _).mono ?_
  rintro e w1 ⟨A1, c1, rfl, hS, hb1⟩
  have H := Lib.hid (And.intro hS hb1)
  clear hS hb1
  go_wp2
  go_ret
  exact ⟨_, _, rfl, H.out.1, H.out.2⟩

set_option maxHeartbeats 4000000 in
set_option maxRecDepth 100000 in
theorem rset_other (w : World) : Calls Try.prog 35 #[.int .i64 0] w (SP (norm (notR (norm (hasR (allP 35))))) w) := by
  obtain ⟨i0, hi, hz0, hz1, hz2⟩ := info_parts Try.info40
  obtain ⟨F, hF⟩ : ∃ F : Nat → List Rng, ∀ k, F k = allP k := ⟨_, fun _ => rfl⟩
  have HF0 : Hid (F 0 = [(44032, 55203)]) := Lib.hid (by rw [hF]; rfl)
  have HFs : Hid (∀ k, F (k + 1) = F k ++ refList (k + 1)) := Lib.hid (fun k => by rw [hF, hF]; exact allP_succ k)
  have HFl : Hid (∀ k, k ≤ 35 → (F k).length ≤ 200) := Lib.hid (fun k hk => by rw [hF]; exact allP_le k hk)
  have HFT : Hid (F 35 = allP 35) := Lib.hid (hF 35)
  have hm := all_may
  have hl := all_len
  clear hF
  generalize allP 35 = T at *
  have CM := fun A c W (hS : SW W A c T) => rmake_sp A c T W hS.aw (List.all_eq_true.1 hm) (by omega)
  have hr := norm_right (hasR T)
  generalize norm (hasR T) = S at *
  have CN := fun A c W (hS : SW W A c S) (h : S.length ≤ 2000) => rnot_sp A c S W hS.aw hr h
  generalize norm (notR S) = S2 at *
  have HM := Lib.hid hm
  have HLT := Lib.hid hl
  have CM := Lib.hid CM
  have CN := Lib.hid CN
  have CL := Lib.hid list_any
  have hI : Hid (I32 (44032, 55203)) := Lib.hid (by unfold I32; simp)
  have hw0 := sw_new w [(44032, 55203)] 40 1 rfl (by simpa using hI.out) (by unfold maxLen; omega)
  have hown0 : (w.alloc (.cells #[.int .i32 44032, .int .i32 55203] 40)).ownsRow w.heap.size 40 2 (.slice (some ⟨w.heap.size, 0, none⟩) 1 1) (F 0).length (cells2 (F 0)) := by
    rw [HF0.out]
    exact ⟨rfl, .inr ⟨w.heap.size, 1, #[.int .i32 44032, .int .i32 55203], rfl, Nat.le_refl _, World.alloc_heap_new w _, Nat.le_refl _, by decide, rfl, rfl⟩⟩
  have hb0 := below_new w (.cells #[.int .i32 44032, .int .i32 55203] 40)
  generalize hW : w.alloc (.cells #[.int .i32 44032, .int .i32 55203] 40) = W0 at *
  have HW := Lib.hid hW
  have H0 := Lib.hid (And.intro hown0 hb0)
  clear hm hl hr hw0 hown0 hb0 hW
  go_enter Try.func35, Try.ntmps35
  go_wp2_with fail
  rw [HW.out]
  go_wp2_with fail
  go_loopw [5, 6] (fun v i wr => ∃ k : Nat, i = .int .i64 (k + 1 : Nat) ∧ k ≤ 35 ∧ wr.ownsRow w.heap.size 40 2 v (F k).length (cells2 (F k)) ∧ Below w.heap.size w wr) (fun _ i _ => 36 - (RowKit.intOf i).toNat)
  case atStart => exact ⟨0, rfl, by omega, H0.out.1, H0.out.2⟩
  case round =>
    obtain ⟨k, rfl, hk, hown, hb⟩ := hrel
    by_cases hlt : k < 35
    · have i1 : ((k : Int) + 1) ≤ 35 := by omega
      have C := CL.out (k + 1) (by omega) (by omega) wr
      have HF := Lib.hid (HFs.out k)
      have HLk := Lib.hid (HFl.out (k + 1) (by omega))
      rw [Int.natCast_add] at C
      generalize hP : refList (k + 1) = Pk at C HF
      clear hP
      have HO := Lib.hid (And.intro hown hb)
      have C := Lib.hid C
      clear hown hb
      go_wp2_with fail
      refine C.out.mono ?_
      rintro e w2 ⟨A1, c1, rfl, hS, hb2⟩
      have own2 := ownsRow_below HO.out.1 hb2
      have hbz := HO.out.2.trans (hb2.mono HO.out.2.size)
      have hlen : (F k).length + Pk.length ≤ 200 := by have := HLk.out; rw [HF.out, List.length_append] at this; omega
      have HX := Lib.hid (And.intro own2 (And.intro hS (And.intro hbz hlen)))
      clear own2 hS hbz hlen hb2
      go_wp2_with (refine wpList_append_rg rfl (.tmp 44) (.tmp 46) 36 36 rfl w.heap.size 40 i0 (.agg #[.int .i32 0, .int .i32 0]) Try.underlying36 Try.underlying36 hi hz0 hz1 hz2 rfl _ (F k) rfl HX.out.1 A1 c1 Pk rfl HX.out.2.1.r HX.out.2.1.f.w (by have := HX.out.2.2.2; omega) HX.out.2.2.1.size ?_; intro v2 w3 own3 hb3)
      rw [← HF.out] at own3
      have hbq := HX.out.2.2.1.trans hb3
      clear hb3
      go_wp2
      go_roundw
      case rel => exact ⟨k + 1, by go_num, by omega, own3, hbq⟩
      case measure => simp [RowKit.intOf]; omega
    · have hkn : k = 35 := by omega
      have e : F k = T := by rw [hkn, HFT.out]
      rw [e] at hown
      have i1 : (35 : Int) < (k : Int) + 1 := by omega
      have i2 : decide ((k : Int) + 1 ≤ 35) = false := by simp; omega
      clear hkn hlt e
      obtain ⟨A1, c1, hv, hS⟩ := sw_own hown (fun x hx => may_i32 (List.all_eq_true.1 HM.out) x hx)
      subst hv
      have C := Lib.hid (CM.out A1 c1 wr hS)
      have HB := Lib.hid hb
      clear hown hS hb
      go_wp2_with fail
      refine C.out.mono ?_
      rintro e w2 ⟨⟨A2, c2, rfl, hS, hb2⟩, hl⟩
      have C2 := Lib.hid (CN.out A2 c2 w2 hS (by have := HLT.out; omega))
      have HB2 := Lib.hid (HB.out.trans (hb2.mono HB.out.size))
      clear hS hb2 hl
      go_wp2_with fail
      refine C2.out.mono ?_
      rintro e w3 ⟨A3, c3, rfl, hS, hb3⟩
      have H := Lib.hid (And.intro hS (HB2.out.trans (hb3.mono HB2.out.size)))
      clear hS hb3
      go_wp2
      go_ret
      exact ⟨_, _, rfl, H.out.1, H.out.2⟩
theorem rset_any (c : Nat) (h : c < 36) (w : World) : Calls Try.prog 35 #[.int .i64 (c : Int)] w (SP (refSet c) w) := by
  unfold refSet
  by_cases h0 : c = 0
  · subst h0
    rw [if_pos rfl]
    exact rset_other w
  · rw [if_neg h0]
    unfold refS
    by_cases h1 : c = 14
    · subst h1
      exact rset_14 w
    · by_cases h2 : c = 15
      · subst h2
        exact rset_15 w
      · rw [if_neg (by omega)]
        exact rset_list c (by omega) h ⟨h1, h2⟩ w
end Go.Proofs.Ytphhdkffnboboaa

namespace Go.Proofs.Ytphhdkffnboboaa
open Go.RowKit Go.Shelf
open Go.Lib

theorem cls65 : classR 65 = 17 := by decide +kernel
theorem cls44032 : classR 44032 = 14 := by decide +kernel
theorem cls44033 : classR 44033 = 15 := by decide +kernel
theorem nm17 : nmOf 17 = { data := #[85, 112, 112, 101, 114] } := by kernel_rfl
theorem no17 : noOf { data := #[85, 112, 112, 101, 114] } = 17 := by kernel_rfl
theorem okOf17 : okOf 17 = .tuple #[.int .i64 17, .bool true] := by kernel_rfl
set_option maxHeartbeats 1000000 in
theorem awake_any (w : World) : Calls Try.prog 30 #[] w fun e w' => e = .returned (.bool true) ∧ Below w.heap.size w w' := by
  have C1 := Lib.hid (fun W => number_any { data := #[85, 112, 112, 101, 114] } W)
  rw [no17, okOf17] at C1
  have C2 := Lib.hid (fun W => class_any 65 W (by decide) (by decide))
  rw [cls65] at C2
  have C3 := Lib.hid (fun W => name_any 17 W)
  rw [nm17] at C3
  have C4 := Lib.hid (fun W => class_any 44032 W (by decide) (by decide))
  rw [cls44032] at C4
  have C5 := Lib.hid (fun W => class_any 44033 W (by decide) (by decide))
  rw [cls44033] at C5
  go_enter Try.func30, Try.ntmps30
  go_wp2_with fail
  refine (C1.out _).mono ?_
  rintro e w1 ⟨rfl, hb1⟩
  go_wp2_with fail
  refine (C2.out _).mono ?_
  rintro e w2 ⟨rfl, hb⟩
  have hb2 := hb1.trans (hb.mono hb1.size)
  clear hb hb1
  go_wp2_with fail
  refine (C3.out _).mono ?_
  rintro e w3 ⟨rfl, hb⟩
  have hb3 := hb2.trans (hb.mono hb2.size)
  clear hb hb2
  go_wp2_with fail
  refine (C4.out _).mono ?_
  rintro e w4 ⟨rfl, hb⟩
  have hb4 := hb3.trans (hb.mono hb3.size)
  clear hb hb3
  go_wp2_with fail
  refine (C5.out _).mono ?_
  rintro e w5 ⟨rfl, hb⟩
  have hb5 := hb4.trans (hb.mono hb4.size)
  clear hb hb4
  go_wp2
  go_ret
  exact ⟨rfl, hb5⟩
end Go.Proofs.Ytphhdkffnboboaa

namespace Go.Proofs.Ytphhdkffnboboaa
open Go.RowKit Go.Shelf
open Go.Lib

/-! ### the plain part -/
def gaps : Int → List Rng → List Rng
  | b, [] => if b ≤ 1114111 then [(b, 1114111)] else []
  | b, x :: xs => if b < x.1 then (b, x.1 - 1) :: gaps (x.2 + 1) xs else gaps (x.2 + 1) xs
def risesP : Int → List Rng → Bool
  | _, [] => true
  | b, x :: xs => decide (b ≤ x.1) && decide (x.1 ≤ x.2) && decide (x.2 ≤ 1114111) && risesP (x.2 + 1) xs
theorem risesP_ge {b : Int} {l : List Rng} (h : risesP b l = true) {r : Int} (hr : hasR l r = true) : b ≤ r := by
  induction l generalizing b with
  | nil => simp [hasR] at hr
  | cons x xs ih =>
    simp only [risesP, Bool.and_eq_true, decide_eq_true_eq] at h
    rcases (hasR_cons_iff x xs r).1 hr with h1 | h1
    · omega
    · have := ih h.2 h1
      omega
theorem gaps_has {b : Int} {l : List Rng} (h : risesP b l = true) (r : Int) : hasR (gaps b l) r = true ↔ b ≤ r ∧ r ≤ 1114111 ∧ ¬ hasR l r = true := by
  induction l generalizing b with
  | nil =>
    unfold gaps
    split
    · simp [hasR]
    · simp [hasR]
      omega
  | cons x xs ih =>
    simp only [risesP, Bool.and_eq_true, decide_eq_true_eq] at h
    obtain ⟨⟨⟨h1, h2⟩, h3⟩, h4⟩ := h
    have hi := ih h4
    have hg := @risesP_ge _ _ h4 r
    have hc := hasR_cons_iff x xs r
    unfold gaps
    split
    · rw [hasR_cons_iff, hi, hc]
      simp only
      constructor
      · rintro (h5 | h5)
        · refine ⟨by omega, by omega, ?_⟩
          rintro (h6 | h6)
          · omega
          · have := hg h6; omega
        · refine ⟨by omega, by omega, ?_⟩
          rintro (h6 | h6)
          · omega
          · exact h5.2.2 h6
      · rintro ⟨h5, h6, h7⟩
        by_cases c : r < x.1
        · left; omega
        · right
          refine ⟨?_, h6, fun h8 => h7 (.inr h8)⟩
          apply Classical.byContradiction
          intro h9
          exact h7 (.inl (by omega))
    · rw [hi, hc]
      constructor
      · rintro h5
        refine ⟨by omega, by omega, ?_⟩
        rintro (h6 | h6)
        · omega
        · exact h5.2.2 h6
      · rintro ⟨h5, h6, h7⟩
        refine ⟨?_, h6, fun h8 => h7 (.inr h8)⟩
        apply Classical.byContradiction
        intro h9
        exact h7 (.inl (by omega))
def wholes : List Rng := rowsP.flatMap wholeP
def others : List Rng := gaps 0 wholes
def inners : List Rng := gaps 0 others
theorem wholes_rise : risesP 0 wholes = true := by decide +kernel
theorem others_right : right others = true := by decide +kernel
theorem others_rise : risesP 0 others = true := by decide +kernel
theorem inners_right : right inners = true := by decide +kernel
theorem wholes_may (r : Int) (h : hasR wholes r = true) : 0 ≤ r ∧ r ≤ 1114111 := by
  obtain ⟨x, hx, h1, h2⟩ := (hasR_iff _ _).1 h
  have := (may_iff x).1 (List.all_eq_true.1 whole_may x hx)
  omega
theorem inners_has (r : Int) : hasR inners r = hasR wholes r := by
  rw [Bool.eq_iff_iff]
  unfold inners
  rw [gaps_has others_rise]
  unfold others
  rw [gaps_has wholes_rise]
  constructor
  · rintro ⟨h1, h2, h3⟩
    apply Classical.byContradiction
    exact fun h4 => h3 ⟨h1, h2, h4⟩
  · intro h
    have := wholes_may r h
    exact ⟨this.1, this.2, fun h2 => h2.2.2 h⟩
theorem setP_zero : setP 0 = others := by
  unfold setP
  rw [if_pos rfl]
  have e1 : norm (hasR (rowsP.flatMap wholeP)) = inners := (norm_eq inners_right inners_has).symm
  rw [e1]
  refine (norm_eq others_right fun r => ?_).symm
  rw [Bool.eq_iff_iff, notR_iff, inners_has]
  unfold others
  exact gaps_has wholes_rise r
theorem setP_pos {c : Nat} (h0 : 0 < c) (h : c < 36) : setP (c : Int) = refS c := by
  unfold setP
  rw [if_neg (by omega), (part_right h0 h).1, norm_self (part_right h0 h).2]
theorem setP_out {c : Int} (h : c < 0 ∨ 35 < c) : setP c = [] := by
  unfold setP
  rw [if_neg (by omega), part_out h]
  exact norm_self (xs := []) rfl
theorem setP_ref {c : Nat} (h : c < 36) : setP (c : Int) = refSet c := by
  unfold refSet
  by_cases h0 : c = 0
  · subst h0
    rw [if_pos rfl]
    show setP 0 = _
    unfold setP
    rw [if_pos rfl]
    have e : hasR (allP 35) = hasR (rowsP.flatMap wholeP) := funext has_all
    rw [e]
  · rw [if_neg h0, setP_pos (by omega) h]
/-- Which numbers a class's set has. -/
theorem setP_has {c : Nat} (h : c < 36) (r : Int) : hasR (setP (c : Int)) r = true ↔ 0 ≤ r ∧ r ≤ 1114111 ∧ classR r = c := by
  by_cases h0 : c = 0
  · subst h0
    show hasR (setP 0) r = true ↔ _
    rw [setP_zero]
    unfold others
    rw [gaps_has wholes_rise]
    unfold wholes
    rw [has_other]
    simp
  · rw [setP_pos (by omega) h, ← (part_right (by omega) h).1, has_class (by omega)]
    constructor
    · intro hc
      have h1 : hasR wholes r = true := (has_other r).2 (by omega)
      have := wholes_may r h1
      exact ⟨this.1, this.2, hc⟩
    · exact fun hh => hh.2.2
theorem classR_out {r : Int} (h : r < 0 ∨ 1114111 < r) : classR r = 0 := by
  apply Classical.byContradiction
  intro h0
  have := wholes_may r ((has_other r).2 h0)
  omega

set_option maxHeartbeats 2000000 in
theorem sets_walk (c : Int) (_c0 : -9223372036854775808 ≤ c) (_c1 : c ≤ 9223372036854775807) (w : World) : Calls Try.prog 10 #[.int .i64 c] w fun e w' => e = .returned (.bool true) ∧ Below w.heap.size w w' := by
  have C1 := Lib.hid (set_any c)
  by_cases h : c < 0 ∨ 35 < c
  · have e := setP_out h
    rw [e] at C1
    rcases (show c < 0 ∨ (0 ≤ c ∧ 35 < c) by omega) with h1 | ⟨h1, h2⟩
    all_goals
      clear h e
      go_enter Try.func10, Try.ntmps10
      go_wp2_with fail
      refine (C1.out _).mono ?_
      rintro e w1 ⟨⟨A1, c1, rfl, hS, hb1⟩, _, _⟩
      clear hS
      go_wp2_with fail
      refine (awake_any _).mono ?_
      rintro e w2 ⟨rfl, hb⟩
      have hb2 := hb1.trans (hb.mono hb1.size)
      clear hb hb1
      go_wp2
      go_ret
      exact ⟨rfl, hb2⟩
  · have h1 : 0 ≤ c := by omega
    have h2 : c ≤ 35 := by omega
    obtain ⟨n, rfl⟩ := Int.eq_ofNat_of_zero_le h1
    rw [setP_ref (by omega)] at C1
    have C2 := Lib.hid (rset_any n (by omega))
    generalize refSet n = S at C1 C2
    have d1 : decide ((n : Int) < 0) = false := by simp
    have d2 : decide ((35 : Int) < (n : Int)) = false := by simpa using h2
    clear h
    go_enter Try.func10, Try.ntmps10
    go_wp2_with fail
    refine (C1.out _).mono ?_
    rintro e w1 ⟨⟨A1, c1, rfl, hS, hb1⟩, _, _⟩
    have HS := Lib.hid hS
    clear hS
    go_wp2_with fail
    refine (C2.out _).mono ?_
    rintro e w2 ⟨A2, c2, rfl, hS2, hb⟩
    have hb2 := hb1.trans (hb.mono hb1.size)
    have C3 := is_any A1 c1 S A2 c2 S w2 (HS.out.below hb).r hS2.r
    rw [show decide (S = S) = true by simp] at C3
    have C3 := Lib.hid C3
    clear hb hb1 hS2
    go_wp2_with fail
    refine C3.out.mono ?_
    rintro e w3 ⟨rfl, hb⟩
    have hb3 := hb2.trans (hb.mono hb2.size)
    clear hb hb2
    go_wp2_with fail
    refine (awake_any _).mono ?_
    rintro e w4 ⟨rfl, hb⟩
    have hb4 := hb3.trans (hb.mono hb3.size)
    clear hb hb3
    go_wp2
    go_ret
    exact ⟨rfl, hb4⟩
end Go.Proofs.Ytphhdkffnboboaa

namespace Go.Proofs.Ytphhdkffnboboaa
open Go.RowKit Go.Shelf
open Go.Lib Go.Great Go.Maps

theorem ES_of_own {w : World} {base n : Nat} {v : Value} {es : List En} (h : w.ownsRow base 72 2 v n (es.flatMap cellE)) (hl : es.length = n) (hR : ∀ e ∈ es, RS w w.heap.size e.A e.cap e.xs) :
    ∃ A cap, v = .slice A n cap ∧ ES w w.heap.size A cap es ∧ Fw A cap := by
  rcases h.2 with ⟨h1, h2⟩ | ⟨g, cp, cur, h1, h2, h3, h4, h5, h6, h7⟩
  · refine ⟨none, 0, by rw [h1, h2], ⟨by omega, Nat.zero_le _, hR, fun hn => absurd (List.length_eq_zero_iff.1 (by omega)) hn⟩, fun _ => rfl⟩
  · subst h1
    refine ⟨_, cp, rfl, ⟨by omega, h5, hR, fun _ => ⟨g, 0, rfl, (Array.getElem?_eq_some_iff.1 h3).1, fun i e he => ?_⟩⟩, fun h => by cases h⟩
    obtain ⟨c1, c2⟩ := flat2_get es i e he
    have hi := (List.getElem?_eq_some_iff.1 he).1
    rw [Nat.zero_add]
    have b1 : i * 2 < n * 2 := by omega
    have b2 : i * 2 + 1 < n * 2 := by omega
    rw [h.cellAt _ b1, h.cellAt _ b2]
    exact ⟨c1, c2⟩
theorem fold_one (es : List En) (i : Nat) (C : Int) (h : ∀ e ∈ es, (hasR e.xs i = true ↔ e.c = C)) : ∀ v : Int, es.foldl (fun v e => if hasR e.xs i then e.c else v) v = if es.any (fun e => decide (e.c = C)) then C else v := by
  induction es with
  | nil => intro v; rfl
  | cons x xs ih =>
    intro v
    rw [List.foldl_cons, ih (fun e he => h e (List.mem_cons_of_mem _ he)), List.any_cons]
    by_cases c : x.c = C
    · have hx := (h x List.mem_cons_self).2 c
      simp [hx, c]
    · have hx : ¬ hasR x.xs i = true := fun hh => c ((h x List.mem_cons_self).1 hh)
      simp [hx, c]
/-- The entries of the properties' trie: class and set, but not where they lie. -/
noncomputable def ptK (n : Nat) : List (List Rng × Int) := (List.range n).map fun j => (setP ((j + 1 : Nat) : Int), ((j + 1 : Nat) : Int))
theorem pt_snoc (n : Nat) : ptK (n + 1) = ptK n ++ [(setP ((n + 1 : Nat) : Int), ((n + 1 : Nat) : Int))] := by
  unfold ptK
  rw [List.range_succ, List.map_append]
  rfl
theorem pt_mem {es : List En} {n : Nat} (h : es.map (fun e => (e.xs, e.c)) = ptK n) {e : En} (he : e ∈ es) : ∃ j, j < n ∧ e.xs = setP ((j + 1 : Nat) : Int) ∧ e.c = ((j + 1 : Nat) : Int) := by
  have : (e.xs, e.c) ∈ ptK n := by rw [← h]; exact List.mem_map.2 ⟨e, he, rfl⟩
  obtain ⟨j, hj, hje⟩ := List.mem_map.1 this
  simp only [Prod.mk.injEq] at hje
  exact ⟨j, List.mem_range.1 hj, hje.1.symm, hje.2.symm⟩
theorem pt_fold {es : List En} (h : es.map (fun e => (e.xs, e.c)) = ptK 35) (i : Nat) (hi : i < 1114112) (hc : classR (i : Int) < 36) : es.foldl (fun v e => if hasR e.xs i then e.c else v) 0 = ((classR (i : Int) : Nat) : Int) := by
  rw [fold_one es i (classR (i : Int) : Nat) (fun e he => by
    obtain ⟨j, hj, h1, h2⟩ := pt_mem h he
    rw [h1, h2, setP_has (by omega)]
    constructor
    · intro hh; rw [hh.2.2]
    · intro hh; exact ⟨by omega, by omega, by omega⟩)]
  by_cases c0 : classR (i : Int) = 0
  · rw [c0]; split <;> rfl
  · rw [if_pos]
    rw [List.any_eq_true]
    have : (setP ((classR (i : Int) - 1 + 1 : Nat) : Int), ((classR (i : Int) - 1 + 1 : Nat) : Int)) ∈ es.map (fun e => (e.xs, e.c)) := by
      rw [h]
      exact List.mem_map.2 ⟨classR (i : Int) - 1, List.mem_range.2 (by omega), rfl⟩
    obtain ⟨e, he, hee⟩ := List.mem_map.1 this
    simp only [Prod.mk.injEq] at hee
    refine ⟨e, he, ?_⟩
    rw [hee.2]
    simp
    omega

theorem ptr_entry {w w' : World} {A : Option Addr} {c : Nat} {xs : List Rng} {k : Int} (h : RS w w.heap.size A c xs) (e : w' = w.alloc (.cells #[.slice A xs.length c, .int .i64 k] 72)) : ES w' w'.heap.size (some ⟨w.heap.size, 0, none⟩) 1 [⟨A, c, xs, k⟩] := by
  subst e
  have hh := heap_alloc_new w (.cells #[.slice A xs.length c, .int .i64 k] 72)
  refine ⟨Nat.le_refl _, by unfold maxLen; omega, fun e he => ?_, fun _ => ⟨_, 0, rfl, by simp, fun j e he => ?_⟩⟩
  · simp only [List.mem_cons, List.not_mem_nil, or_false] at he
    subst he
    exact (h.below (below_new w _)).mono (by simp)
  · match j, he with
    | 0, he => simp at he; subst he; exact ⟨cell_of_row _ _ 0 _ _ _ hh, cell_of_row _ _ 1 _ _ _ hh⟩
    | j + 1, he => simp at he
end Go.Proofs.Ytphhdkffnboboaa

