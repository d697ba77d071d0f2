/-
  The library's contracts at this dump: slices.IndexFunc of strings, sort.Search.
  Contracts: prop.Number, with its closure.
  Contracts: prop.row.at, the closure of prop.Class.
  Contracts: prop.Class.
  Contracts: prop.row.whole, prop.row.syllables, prop.row.part, the closure of prop.Set.
  Appending what may be nil; the source of an append, told by its cells.
-/
import Derived.Shelf.SlicesE.IndexFunc
import Derived.Shelf.SlSorted.Search
import Derived.Shelf.SlGeneric
import Derived.Ground.SlgfProg
import Derived.Ground.NamesProg
import Derived.Test.YtphhdkffnboboaaProg
import Derived.Test.YtphhdkffnboboaaPtg
import Derived.Lib.QuietBelow
import Derived.Laws.AppendOwnNone
import Derived.Test.YtphhdkffnboboaaPtc
namespace Go.Proofs
open Go.Shelf
def Try.idxS_ren : Go.Shelf.Ren := ⟨fun | 6 => 61 | n => n, fun | 22 => 91 | 23 => 9 | 25 => 104 | 3 => 3 | 4 => 4 | 0 => 0 | n => n, fun n => n⟩
theorem Try.idxS : Go.Proofs.SlLaysH.n6 Try.prog Try.idxS_ren := {
  mixed := by kernel_rfl
  f6 := ⟨Try.f61.name, by decide, Try.func61.trans (congrArg some (by kernel_rfl))⟩
  t0 := Try.underlying0
  a0 := Try.isAgg0
  z0 := Try.sizeOf0
  v0 := Try.zeroValue0
  t3 := Try.underlying3
  a3 := Try.isAgg3
  z3 := Try.sizeOf3
  v3 := Try.zeroValue3
  t4 := Try.underlying4
  a4 := Try.isAgg4
  z4 := Try.sizeOf4
  v4 := Try.zeroValue4
  t22 := Try.underlying91
  a22 := Try.isAgg91
  z22 := Try.sizeOf91
  v22 := Try.zeroValue91
  a23 := Try.isAgg9
  z23 := Try.sizeOf9
  t25 := Try.underlying104
  a25 := Try.isAgg104
  z25 := Try.sizeOf104
  v25 := Try.zeroValue104 }
def Try.searchL_ren : Go.Shelf.Ren := ⟨fun | 16 => 56 | n => n, fun | 3 => 3 | 4 => 4 | 35 => 62 | 38 => 116 | n => n, fun n => n⟩
theorem Try.searchL : Go.Proofs.SlLaysO.n16 Try.prog Try.searchL_ren := {
  mixed := by kernel_rfl
  f16 := Try.func56.trans (congrArg some (by kernel_rfl))
  t3 := Try.underlying3
  a3 := Try.isAgg3
  z3 := Try.sizeOf3
  v3 := Try.zeroValue3
  t4 := Try.underlying4
  a4 := Try.isAgg4
  z4 := Try.sizeOf4
  v4 := Try.zeroValue4
  t35 := Try.underlying62
  a35 := Try.isAgg62
  z35 := Try.sizeOf62
  v35 := Try.zeroValue62
  t38 := Try.underlying116
  a38 := Try.isAgg116
  z38 := Try.sizeOf116
  v38 := Try.zeroValue116 }
end Go.Proofs

namespace Go.Proofs.Ytphhdkffnboboaa
open Go.RowKit Go.Shelf
open Go.Lib Go.Great

/-- The class of a name, or a negative number. -/
def noOf (s : ByteArray) : Int := Lib.idxBy (fun _ y => y.toList == s.toList) nms default

set_option maxHeartbeats 1000000 in
theorem eqs_any (y s : ByteArray) (b : Nat) (W : World) (hc : W.cell? ⟨b, 0, none⟩ = some (.string s)) :
    FnGives Try.prog 62 #[.pointer (some ⟨b, 0, none⟩)] #[.string y] (.bool (y.toList == s.toList)) W := by
  have C : Calls Try.prog 62 #[.string y, .pointer (some ⟨b, 0, none⟩)] W fun e w' => e = .returned (.bool (y.toList == s.toList)) ∧ ∃ q, w' = W.drewN q := by
    go_enter Try.func62, Try.ntmps62
    go_wp2
    go_ret
    exact ⟨rfl, 0, rfl⟩
  exact C

def okOf (n : Int) : Value := .tuple #[.int .i64 (if n < 0 then 0 else n), .bool (decide (0 ≤ n))]
theorem okOf_neg {n : Int} (h : n < 0) : okOf n = .tuple #[.int .i64 0, .bool false] := by unfold okOf; rw [if_pos h]; simp; omega
theorem okOf_pos {n : Int} (h : ¬ n < 0) : okOf n = .tuple #[.int .i64 n, .bool true] := by unfold okOf; rw [if_neg h]; simp; omega
set_option maxHeartbeats 1000000 in
theorem number_any (s : ByteArray) (w : World) : Calls Try.prog 32 #[.string s] w fun e w' => e = .returned (okOf (noOf s)) ∧ Below w.heap.size w w' := by
  obtain ⟨n, hn⟩ : ∃ n, noOf s = n := ⟨_, rfl⟩
  rw [hn]
  have HN := Lib.hid hn
  clear hn
  go_enter Try.func32, Try.ntmps32
  go_wp2_with fail
  refine (names_any _).mono ?_
  rintro e w1 ⟨rfl, hb1⟩
  have hs1 := hb1.size
  simp at hs1
  have hc1 : w1.cell? ⟨w.heap.size, 0, none⟩ = some (.string s) := by
    rw [hb1.cell (p := ⟨w.heap.size, 0, none⟩) (by simp)]
    exact cell_new_sl w _ _
  have hb2 := (below_new w (.cells #[.string s] 9)).trans (hb1.mono (by simp))
  clear hb1
  have hb3 := (hb2.alloc (by omega) (.cells ZNM 101))
  have hb4 := below_setRow hb3 (g := w1.heap.size) (by omega) NM
  have hz := heap_alloc_new w1 (.cells ZNM 101)
  have hrow := setRow_heap _ _ _ NM _ _ hz
  have hc2 : ((w1.alloc (.cells ZNM 101)).setRow w1.heap.size NM).cell? ⟨w.heap.size, 0, none⟩ = some (.string s) := by
    rw [cell_setRow_other _ _ _ _ (by simp; omega), (below_new w1 _).cell (p := ⟨w.heap.size, 0, none⟩) (by show w.heap.size < w1.heap.size; omega)]
    exact hc1
  go_wp2_with (first
    | refine wpList_allocTo rfl (some 4) rfl (.pointer (some ⟨w1.heap.size, 0, none⟩)) (.cells ZNM 101) (by kernel_rfl) ?_
    | refine wpList_store_row rfl 101 (.tmp 4) (.tmp 6) rfl w1.heap.size NM rfl rfl 101 ZNM hz (by kernel_rfl) (by kernel_rfl) (by kernel_rfl) ?_)
  generalize (w1.alloc (.cells ZNM 101)).setRow w1.heap.size NM = W at *
  have hI := AnyE.slices_IndexFunc Try.idxS Value.string (fun y => y.toList == s.toList) 62 #[.pointer (some ⟨w.heap.size, 0, none⟩)] (fun _ _ => by kernel_rfl) w1.heap.size 0 36 36 nms W
    (fun W' y hb => eqs_any y s _ W' (by rw [hb.cell (p := ⟨w.heap.size, 0, none⟩) (by have := hb4.size; have := (Array.getElem?_eq_some_iff.1 hrow).1; show w.heap.size < W.heap.size; omega)]; exact hc2))
    (by decide) (by decide) (fun j hj => by
      rw [Nat.zero_add, cell_of_row _ _ _ _ _ _ hrow, nm_cell j hj]
      unfold nmOf
      rw [if_pos (by have : nms.length = 36 := rfl; omega), Int.toNat_natCast, List.getD_eq_getElem?_getD, List.getElem?_eq_getElem hj, getElem!_pos nms j hj]
      rfl)
  have hq := Lib.hid hb4
  have hI2 := hI.mono (fun e w' h => (⟨h.1, by obtain ⟨q, rfl⟩ := h.2; exact (hq.out.trans ((below_drewN (Below.refl _ _) q).mono hq.out.size))⟩ : e = .returned (.int .i64 (noOf s)) ∧ Below w.heap.size w w'))
  clear hI hc1 hc2 hb2 hb3 hb4 hz hrow
  rw [HN.out] at hI2
  refine hI2.mono ?_
  rintro e w2 ⟨rfl, hb⟩
  clear hI2
  by_cases hn : n < 0
  · have H := Lib.hid (okOf_neg hn)
    go_wp2
    go_ret2
    exact ⟨by rw [H.out]; rfl, hb⟩
  · have d : decide (n < 0) = false := by simpa using hn
    have H := Lib.hid (okOf_pos hn)
    go_wp2
    go_ret2
    exact ⟨by rw [H.out]; rfl, hb⟩
end Go.Proofs.Ytphhdkffnboboaa

namespace Go.Proofs.Ytphhdkffnboboaa
open Go.RowKit Go.Shelf
open Go.Lib Go.Great

set_option maxHeartbeats 1000000 in
theorem at_any (lo hi : Int) (c : Nat) (r : Int) (w : World) (h0 : 0 ≤ lo) (h1 : lo ≤ r) (h2 : r ≤ 2147483647) :
    Calls Try.prog 58 #[.agg #[.int .i32 lo, .int .i32 hi, .int .i64 (c : Int)], .int .i32 r] w fun e w' => e = .returned (.int .i64 (atRow (lo, hi, c) r : Nat)) ∧ Below w.heap.size w w' := by
  have hb := below_new w (.cells #[.int .i32 lo, .int .i32 hi, .int .i64 (c : Int)] 97)
  have HB := Lib.hid hb
  clear hb
  by_cases c14 : c = 14
  · subst c14
    by_cases cm : (r - lo) % 28 = 0
    · have e : atRow (lo, hi, 14) r = 14 := by unfold atRow; rw [if_neg (by simp [cm])]
      rw [e]
      have d : (((r - lo) % 28 : Int) == 0) = true := by simpa using cm
      have d' : (((r - lo) % 28 : Int) != 0) = false := by simpa using cm
      clear cm e
      go_enter Try.func58, Try.ntmps58
      go_wp2
      go_ret
      exact ⟨rfl, HB.out⟩
    · have e : atRow (lo, hi, 14) r = 15 := by unfold atRow; rw [if_pos ⟨rfl, cm⟩]
      rw [e]
      have d : (((r - lo) % 28 : Int) == 0) = false := by simpa using cm
      have d' : (((r - lo) % 28 : Int) != 0) = true := by simpa using cm
      clear cm e
      go_enter Try.func58, Try.ntmps58
      go_wp2
      go_ret
      exact ⟨rfl, HB.out⟩
  · have e : atRow (lo, hi, c) r = c := by unfold atRow; rw [if_neg (by simp [c14])]
    rw [e]
    have d : (((c : Nat) : Int) == 14) = false := by simp; omega
    have d' : ((c : Nat) == 14) = false := by simpa using c14
    clear e c14
    go_enter Try.func58, Try.ntmps58
    go_wp2
    go_ret
    exact ⟨rfl, HB.out⟩

theorem NR_get (l : List Row) (j : Nat) (x : Row) (h : l[j]? = some x) : (l.flatMap rcell)[j * 3]? = some (.int .i32 x.1) ∧ (l.flatMap rcell)[j * 3 + 1]? = some (.int .i32 x.2.1) ∧ (l.flatMap rcell)[j * 3 + 2]? = some (.int .i64 (x.2.2 : Int)) := by
  induction l generalizing j with
  | nil => simp at h
  | cons y ys ih =>
    have e : (y :: ys).flatMap rcell = .int .i32 y.1 :: .int .i32 y.2.1 :: .int .i64 (y.2.2 : Int) :: ys.flatMap rcell := by simp [rcell]
    rw [e]
    cases j with
    | zero => simp at h; subst h; simp
    | succ j =>
      have := ih j (by simpa using h)
      have e1 : (j + 1) * 3 = j * 3 + 1 + 1 + 1 := by omega
      rw [e1]
      simpa using this
/-- The table in a block of its own. -/
def TabAt (w : World) (g : Nat) : Prop := w.heap[g]? = some (.cells NR 98 (0, 0))
theorem TabAt.cells {w : World} {g : Nat} (h : TabAt w g) {j : Nat} {x : Row} (hx : rowsP[j]? = some x) :
    w.cell? ⟨g, j * 3, none⟩ = some (.int .i32 x.1) ∧ w.cell? ⟨g, j * 3 + 1, none⟩ = some (.int .i32 x.2.1) ∧ w.cell? ⟨g, j * 3 + 2, none⟩ = some (.int .i64 (x.2.2 : Int)) := by
  have h3 := NR_get rowsP j x hx
  have hc := fun k => cell_of_row w g k NR 98 (0, 0) h
  unfold NR at hc
  simp only [List.getElem?_toArray] at hc
  exact ⟨(hc _).trans h3.1, (hc _).trans h3.2.1, (hc _).trans h3.2.2⟩
theorem TabAt.below {w w' : World} {g : Nat} (h : TabAt w g) (hb : Below w.heap.size w w') : TabAt w' g := (hb.block g (Array.getElem?_eq_some_iff.1 h).1).trans h
theorem rows_len : rowsP.length = 140 := by decide +kernel

set_option maxHeartbeats 1000000 in
theorem cls_any (g b : Nat) (r : Int) (i : Nat) (x : Row) (W : World) (hx : rowsP[i]? = some x) (ht : TabAt W g) (hc : W.cell? ⟨b, 0, none⟩ = some (.int .i32 r)) :
    Calls Try.prog 57 #[.int .i64 i, .pointer (some ⟨g, 0, none⟩), .pointer (some ⟨b, 0, none⟩)] W fun e w' => e = .returned (.bool (decide (r ≤ x.2.1))) ∧ ∃ q, w' = W.drewN q := by
  obtain ⟨c1, c2, c3⟩ := ht.cells hx
  have hi : i < 140 := by have := (List.getElem?_eq_some_iff.1 hx).1; rw [rows_len] at this; exact this
  have i0 : (0 : Int) ≤ (i : Int) := by omega
  have i1 : (i : Int) < 140 := by omega
  have e : (⟨g, 0 + i * 3, none⟩ : Addr) = ⟨g, i * 3, none⟩ := by rw [Nat.zero_add]
  obtain ⟨lo, hi', c⟩ := x
  simp only at c1 c2 c3 ⊢
  clear ht hx e
  go_enter Try.func57, Try.ntmps57
  go_wp2
  go_quiet (fail)
  go_wp2
  go_ret
  exact ⟨rfl, _, rfl⟩
end Go.Proofs.Ytphhdkffnboboaa

namespace Go.Proofs.Ytphhdkffnboboaa
open Go.RowKit Go.Shelf
open Go.Lib Go.Great Go.Sort

/-- In rows that rise: the first row that ends no sooner stands behind all those that end sooner. -/
theorem find_count {b : Int} {l : List Row} (h : rises b l = true) (r : Int) : l.find? (fun x => decide (r ≤ x.2.1)) = l[l.countP fun x => !decide (r ≤ x.2.1)]? := by
  induction l generalizing b with
  | nil => rfl
  | cons y ys ih =>
    simp only [rises, Bool.and_eq_true, decide_eq_true_eq] at h
    obtain ⟨⟨h1, h2⟩, h3⟩ := h
    rw [List.find?_cons, List.countP_cons]
    by_cases c : r ≤ y.2.1
    · have h0 : ys.countP (fun x => !decide (r ≤ x.2.1)) = 0 := by
        rw [List.countP_eq_zero]
        intro x hx
        have := rises_gt h3 x hx
        simp
        omega
      rw [h0]
      simp [c]
    · simp [c, ih h3]
def hiAt (i : Nat) : Int := match rowsP[i]? with | some x => x.2.1 | none => 0
theorem hiAt_of {i : Nat} {x : Row} (h : rowsP[i]? = some x) : hiAt i = x.2.1 := by unfold hiAt; rw [h]
theorem countP_get {α : Type} (f : α → Bool) (l : List α) : ∀ g : Nat → Bool, (∀ i x, l[i]? = some x → g i = f x) → (List.range l.length).countP g = l.countP f := by
  induction l with
  | nil => intro g _; rfl
  | cons y ys ih =>
    intro g h
    rw [List.length_cons, List.range_succ_eq_map, List.countP_cons, List.countP_map, ih (g ∘ Nat.succ) (fun i x hx => h (i + 1) x (by simpa using hx)), List.countP_cons, h 0 y rfl]
theorem hi_mono_from {b : Int} {l : List Row} (h : rises b l = true) : ∀ (i j : Nat) (x y : Row), i ≤ j → l[i]? = some x → l[j]? = some y → x.2.1 ≤ y.2.1 := by
  induction l generalizing b with
  | nil => simp
  | cons z zs ih =>
    simp only [rises, Bool.and_eq_true, decide_eq_true_eq] at h
    intro i j x y hij hx hy
    cases i with
    | zero =>
      simp at hx
      subst hx
      cases j with
      | zero => simp at hy; subst hy; omega
      | succ j =>
        have := rises_gt h.2 y (List.mem_of_getElem? (by simpa using hy))
        omega
    | succ i =>
      cases j with
      | zero => omega
      | succ j => exact ih h.2 i j x y (by omega) (by simpa using hx) (by simpa using hy)
theorem hi_mono (r : Int) (i j : Nat) (hij : i ≤ j) (hj : j < 140) (h : decide (r ≤ hiAt i) = true) : decide (r ≤ hiAt j) = true := by
  have hl := rows_len
  have hx := List.getElem?_eq_getElem (l := rowsP) (i := i) (by omega)
  have hy := List.getElem?_eq_getElem (l := rowsP) (i := j) (by omega)
  rw [hiAt_of hx] at h
  rw [hiAt_of hy]
  have := hi_mono_from rows_rise i j _ _ hij hx hy
  simp only [decide_eq_true_eq] at *
  omega
def cntR (r : Int) : Nat := (List.range 140).countP fun i => !decide (r ≤ hiAt i)
theorem cntR_find (r : Int) : rowsP.find? (fun x => decide (r ≤ x.2.1)) = rowsP[cntR r]? := by
  rw [find_count rows_rise]
  unfold cntR
  rw [← rows_len, countP_get (fun x => !decide (r ≤ x.2.1)) rowsP]
  intro i x hx
  rw [hiAt_of hx]
theorem class_cnt (r : Int) : classR r = match rowsP[cntR r]? with | none => 0 | some x => if r < x.1 then 0 else atRow x r := by
  have h := cntR_find r
  unfold classR
  rw [h]
  rfl
theorem cnt_le (r : Int) : cntR r ≤ 140 := by
  unfold cntR
  have := List.countP_le_length (p := fun i => !decide (r ≤ hiAt i)) (l := List.range 140)
  simpa using this
theorem rows_bounds : (rowsP.all fun x => decide (0 ≤ x.1 ∧ x.1 ≤ 1114111 ∧ 0 ≤ x.2.1 ∧ x.2.1 ≤ 1114111)) = true := by decide +kernel

set_option maxHeartbeats 2000000 in
theorem class_any (r : Int) (w : World) (_hr0 : -2147483648 ≤ r) (hr1 : r ≤ 2147483647) :
    Calls Try.prog 28 #[.int .i32 r] w fun e w' => e = .returned (.int .i64 (classR r : Nat)) ∧ Below w.heap.size w w' := by
  obtain ⟨N, hN⟩ : ∃ N, classR r = N := ⟨_, rfl⟩
  rw [hN]
  have HN := Lib.hid hN
  clear hN
  go_enter Try.func28, Try.ntmps28
  go_wp2_with fail
  refine (rows_any _).mono ?_
  rintro e w1 ⟨rfl, hb1⟩
  have hs1 := hb1.size
  simp at hs1
  have hc1 : w1.cell? ⟨w.heap.size, 0, none⟩ = some (.int .i32 r) := by
    rw [hb1.cell (p := ⟨w.heap.size, 0, none⟩) (by simp)]
    exact cell_new_sl w _ _
  have hb2 := (below_new w (.cells #[.int .i32 r] 21)).trans (hb1.mono (by simp))
  clear hb1
  have hb3 := (hb2.alloc (by omega) (.cells ZNR 98))
  have hb4 := below_setRow hb3 (g := w1.heap.size) (by omega) NR
  have hz := heap_alloc_new w1 (.cells ZNR 98)
  have hrow : TabAt ((w1.alloc (.cells ZNR 98)).setRow w1.heap.size NR) w1.heap.size := setRow_heap _ _ _ NR _ _ hz
  have hc2 : ((w1.alloc (.cells ZNR 98)).setRow w1.heap.size NR).cell? ⟨w.heap.size, 0, none⟩ = some (.int .i32 r) := by
    rw [cell_setRow_other _ _ _ _ (by simp; omega), (below_new w1 _).cell (p := ⟨w.heap.size, 0, none⟩) (by show w.heap.size < w1.heap.size; omega)]
    exact hc1
  have hne : w.heap.size < w1.heap.size := by omega
  go_wp2_with (first
    | refine wpList_allocTo rfl (some 3) rfl (.pointer (some ⟨w1.heap.size, 0, none⟩)) (.cells ZNR 98) (by kernel_rfl) ?_
    | refine wpList_store_row rfl 98 (.tmp 3) (.tmp 5) rfl w1.heap.size NR rfl rfl 98 ZNR hz (by kernel_rfl) (by kernel_rfl) (by kernel_rfl) ?_)
  generalize (w1.alloc (.cells ZNR 98)).setRow w1.heap.size NR = W at *
  have hgl : w1.heap.size < W.heap.size := (Array.getElem?_eq_some_iff.1 hrow).1
  generalize w1.heap.size = g at *
  generalize hbE : w.heap.size = b at *
  have HBE := Lib.hid hbE
  clear hbE
  have hS := Any.sort_Search Try.searchL 57 #[.pointer (some ⟨g, 0, none⟩), .pointer (some ⟨b, 0, none⟩)] 140 (fun i => decide (r ≤ hiAt i)) W (fun _ _ => by kernel_rfl) (by decide)
    (fun m os i hi => by
      have hx := List.getElem?_eq_getElem (l := rowsP) (i := i) (by rw [rows_len]; exact hi)
      have hbw := below_grown_sl W.heap.size W m os (Nat.le_refl _)
      rw [hiAt_of hx]
      exact (cls_any g b r i _ _ hx (hrow.below hbw) (by rw [hbw.cell (p := ⟨b, 0, none⟩) (by show b < W.heap.size; omega)]; exact hc2)).mono fun e w' h => ⟨h.1, by obtain ⟨q, rfl⟩ := h.2; exact ⟨q, #[], (grow_empty _).symm⟩⟩)
    (hi_mono r)
  have hS2 := hS.mono (fun e w' h => (⟨h.1, by obtain ⟨q, os, rfl⟩ := h.2; exact below_grown_sl W.heap.size W q os (Nat.le_refl _)⟩ : e = .returned (.int .i64 (cntR r : Nat)) ∧ Below W.heap.size W w'))
  have HC := Lib.hid (class_cnt r)
  have hk := cnt_le r
  generalize cntR r = k at hS2 HC hk
  have HN2 := Lib.hid (HN.out.symm.trans HC.out)
  clear hS HC HN hz hc1 hb2 hb3
  have HT := Lib.hid hrow
  have HC2 := Lib.hid hc2
  have HB4 := Lib.hid hb4
  have HSz := Lib.hid (And.intro hne hgl)
  clear hrow hc2 hb4 hne hgl hs1
  refine hS2.mono ?_
  rintro e w2 ⟨rfl, hb⟩
  clear hS2
  have hT2 := HT.out.below hb
  have hc3 : w2.cell? ⟨b, 0, none⟩ = some (.int .i32 r) := by rw [hb.cell (p := ⟨b, 0, none⟩) (by have := HSz.out.1; have := HSz.out.2; show b < W.heap.size; omega)]; exact HC2.out
  have hb5 := HB4.out.trans (hb.mono (by have := HSz.out.1; have := HSz.out.2; omega))
  have HB5 := Lib.hid hb5
  clear hb hb5 HT HC2 HB4
  by_cases c : k = 140
  · subst c
    have hn : N = 0 := by have := HN2.out; rwa [List.getElem?_eq_none (by rw [rows_len]; omega)] at this
    have HN3 := Lib.hid hn
    clear hn hT2
    go_wp2_with fail
    go_quiet (fail)
    go_wp2
    go_ret
    exact ⟨by rw [HN3.out]; rfl, by rw [HBE.out]; exact below_drewN HB5.out _⟩
  · have hk2 : k < 140 := by omega
    obtain ⟨x, hx⟩ : ∃ x, rowsP[k]? = some x := ⟨rowsP[k]'(by rw [rows_len]; exact hk2), List.getElem?_eq_getElem _⟩
    have HN3 := HN2.out
    rw [hx] at HN3
    obtain ⟨q1, q2, q3⟩ := hT2.cells hx
    have hxb := List.all_eq_true.1 rows_bounds x (List.mem_of_getElem? hx)
    simp only [decide_eq_true_eq] at hxb
    obtain ⟨b1, b2, b3, b4⟩ := hxb
    obtain ⟨lo, hi', cl⟩ := x
    simp only at q1 q2 q3 b1 b2 b3 b4 HN3
    have i0 : (0 : Int) ≤ (k : Int) := by omega
    have i1 : (k : Int) < 140 := by omega
    have d0 : ((k : Int) == 140) = false := by simp; omega
    clear hT2 hx hk c hk2
    by_cases c : r < lo
    · rw [if_pos c] at HN3
      have HN3 := Lib.hid HN3
      go_wp2_with fail
      go_quiet (fail)
      go_wp2
      go_ret
      exact ⟨by rw [HN3.out]; rfl, by rw [HBE.out]; exact below_drewN HB5.out _⟩
    · rw [if_neg c] at HN3
      have HN3 := Lib.hid HN3
      have d1 : decide (r < lo) = false := by simpa using c
      have C := Lib.hid (fun W => at_any lo hi' cl r W b1 (by omega) hr1)
      clear c
      go_wp2_with fail
      go_quiet (fail)
      rename_i nq _
      have hbq := below_drewN HB5.out nq
      have f0 : (w2.drewN nq).cell? ⟨g, k * 3, none⟩ = some (.int .i32 lo) := q1
      have f1 : (w2.drewN nq).cell? ⟨g, k * 3 + 1, none⟩ = some (.int .i32 hi') := q2
      have f2 : (w2.drewN nq).cell? ⟨g, k * 3 + 2, none⟩ = some (.int .i64 (cl : Int)) := q3
      have f3 : (w2.drewN nq).cell? ⟨b, 0, none⟩ = some (.int .i32 r) := hc3
      generalize w2.drewN nq = W1 at *
      have HBQ := Lib.hid hbq
      have g0 := cell_regrown f0
      have g1 := cell_regrown f1
      have g2 := cell_regrown f2
      have g3 := cell_regrown f3
      have C1 : ∀ d os, Calls Try.prog 58 #[.agg #[.int .i32 lo, .int .i32 hi', .int .i64 (cl : Int)], .int .i32 r] (grow (redrawn W1 d) os) fun e w'' => e = .returned (.int .i64 (atRow (lo, hi', cl) r : Nat)) ∧ ∃ p : Regrown, w'' = grow (redrawn W1 p.d) p.os := fun d os => Calls.regrown_of (C.out _)
      clear f0 f1 f2 f3 q1 q2 q3 hc3 hbq
      generalize atRow (lo, hi', cl) r = V at *
      go_wp2_with fail
      refine wp_region_quiet_below (by kernel_rfl) (by kernel_rfl) ?_
      repeat (go_big_quiet_step (exact C1 _ _))
      refine wpQuiet_nil ?_
      intro _ hw'
      obtain ⟨⟨dq, osq⟩, hw''⟩ := hw'
      subst hw''
      have hbz := HBQ.out.trans ((below_regrown W1 dq osq).mono (by rw [← HBE.out]; exact HBQ.out.size))
      go_wp2
      go_ret
      exact ⟨by rw [HN3.out]; rfl, by rw [HBE.out]; exact hbz⟩
end Go.Proofs.Ytphhdkffnboboaa

namespace Go.Proofs.Ytphhdkffnboboaa
open Go.RowKit Go.Shelf
open Go.Lib Go.Great

/-- A row as it is handed over. -/
def rv (x : Row) : Value := .agg #[.int .i32 x.1, .int .i32 x.2.1, .int .i64 (x.2.2 : Int)]

set_option maxHeartbeats 1000000 in
theorem whole_any (lo hi : Int) (c : Nat) (h : I32 (lo, hi)) (w : World) : Calls Try.prog 65 #[.agg #[.int .i32 lo, .int .i32 hi, .int .i64 (c : Int)]] w (SP [(lo, hi)] w) := by
  have hb := below_new w (.cells #[.int .i32 lo, .int .i32 hi, .int .i64 (c : Int)] 97)
  have hw := sw_new (w.alloc (.cells #[.int .i32 lo, .int .i32 hi, .int .i64 (c : Int)] 97)) [(lo, hi)] 70 1 rfl (by simpa using h) (by unfold maxLen; omega)
  have hb2 := hb.alloc hb.size (.cells #[.int .i32 lo, .int .i32 hi] 70)
  have e : (cells2 [(lo, hi)]).toArray = #[.int .i32 lo, .int .i32 hi] := rfl
  rw [e, World.size_alloc] at hw
  have HW := Lib.hid hw
  have HB := Lib.hid hb2
  clear hw hb hb2 e
  go_enter Try.func65, Try.ntmps65
  go_wp2
  go_ret
  exact ⟨_, _, rfl, HW.out, HB.out⟩

theorem syll_take (c : Int) (k : Nat) (h : k < 399) : (syllP c).take (k + 1) = (syllP c).take k ++ [syl1 c k] := by
  have : (syllP c)[k]? = some (syl1 c k) := by
    unfold syllP
    simp [h]
  rw [List.take_add_one, this]
  rfl
theorem syll_len (c : Int) : (syllP c).length = 399 := by simp [syllP]
theorem syll_i32 (c : Int) : ∀ x ∈ syllP c, I32 x := fun x hx => by
  obtain ⟨k, hk, rfl⟩ := List.mem_map.1 hx
  have := List.mem_range.1 hk
  unfold syl1 I32
  split <;> (simp only; omega)

set_option maxHeartbeats 4000000 in
set_option maxRecDepth 100000 in
theorem syll_any (c : Int) (hc : c = 14 ∨ c = 15) (w : World) : Calls Try.prog 76 #[.agg #[.int .i32 44032, .int .i32 55203, .int .i64 14], .int .i64 c] w (SP (syllP c) w) := by
  obtain ⟨i0, hi, hz0, hz1, hz2⟩ := info_parts Try.info70
  have HI := Lib.hid (syll_i32 c)
  have HL := Lib.hid (syll_len c)
  have HT := Lib.hid (syll_take c)
  have H1 : Hid (∀ k : Nat, syl1 14 k = (44032 + 28 * (k : Int), 44032 + 28 * (k : Int))) := Lib.hid fun k => rfl
  have H2 : Hid (∀ k : Nat, syl1 15 k = (44032 + 28 * (k : Int) + 1, 44032 + 28 * (k : Int) + 27)) := Lib.hid fun k => rfl
  have hb0 := below_new w (.cells #[.int .i32 44032, .int .i32 55203, .int .i64 14] 97)
  have f0 : (w.alloc (.cells #[.int .i32 44032, .int .i32 55203, .int .i64 14] 97)).cell? ⟨w.heap.size, 0, none⟩ = some (.int .i32 44032) := by simp
  have f1 : (w.alloc (.cells #[.int .i32 44032, .int .i32 55203, .int .i64 14] 97)).cell? ⟨w.heap.size, 1, none⟩ = some (.int .i32 55203) := by simp
  have hz : w.heap.size < (w.alloc (.cells #[.int .i32 44032, .int .i32 55203, .int .i64 14] 97)).heap.size := by simp
  generalize hW : w.alloc (.cells #[.int .i32 44032, .int .i32 55203, .int .i64 14] 97) = W0 at *
  have HW := Lib.hid hW
  have HF := Lib.hid (And.intro hb0 (And.intro f1 hz))
  clear hW hb0 f1 hz
  rcases hc with rfl | rfl
  · go_enter Try.func76, Try.ntmps76
    go_wp2_with fail
    rw [HW.out]
    go_wp2_with fail
    go_loopw [5, 6] (fun v i wr => ∃ k : Nat, ∃ r : Int, k ≤ 399 ∧ i = .int .i32 r ∧ Hid (r = 44032 + 28 * (k : Int)) ∧ 44032 ≤ r ∧ r ≤ 55204 ∧ wr.ownsRow W0.heap.size 70 2 v k (cells2 ((syllP 14).take k)) ∧ Below W0.heap.size W0 wr) (fun _ i _ => (55204 - RowKit.intOf i).toNat)
    case atStart => exact ⟨0, _, by omega, rfl, (rfl : (44032 : Int) = 44032 + 28 * ((0 : Nat) : Int)), by omega, by omega, World.ownsRow_nil _ _ _ _, Below.refl _ _⟩
    case round =>
      obtain ⟨k, r, hk, rfl, hr, r0, r1, hown, hb⟩ := hrel
      have g1 : wr.cell? ⟨w.heap.size, 1, none⟩ = some (.int .i32 55203) := (hb.cell (p := ⟨w.heap.size, 1, none⟩) HF.out.2.2).trans HF.out.2.1
      by_cases hlt : k < 399
      · have h2 : r ≤ 55203 := by have := hr.out; omega
        have own2 := hown.alloc (.cells #[.int .i32 r, .int .i32 r] 70)
        have hnews := news2 wr 70 (.int .i32 r) (.int .i32 r) rfl rfl
        have hlt0 := own_block_lt hown
        have hs := hb.size
        have HTk := Lib.hid (HT.out k hlt)
        have HQ := Lib.hid (H1.out k)
        go_wp2_with (at_builtin; refine wpList_append_own _ rfl _ _ 41 rfl W0.heap.size 70 i0 (.agg #[.int .i32 0, .int .i32 0]) 2 8 Try.underlying41 hi hz0 hz1 hz2 rfl (by decide) u5 k (cells2 ((syllP 14).take k)) rfl own2 ⟨wr.heap.size, 0, none⟩ 1 1 [.int .i32 r, .int .i32 r] rfl rfl hnews ?c2 ?c3 ?c4 ?c5 ?_)
        case c2 => intro u hu; simp at hu; rcases hu with rfl | rfl <;> rfl
        case c3 => unfold maxLen; omega
        case c4 => omega
        case c5 => simp; omega
        intro v' w2 own3 hgrow _
        have hbz : Below W0.heap.size W0 w2 := (hb.alloc hs _).grown hgrow (by simp; omega) (fun k e => (hlt0 k e).1)
        have e3 : cells2 ((syllP 14).take k) ++ [.int .i32 r, .int .i32 r] = cells2 ((syllP 14).take (k + 1)) := by
          rw [HTk.out, cells2_snoc, HQ.out]
          show _ = (_ : List Value) ++ [Value.int .i32 (44032 + 28 * (k : Int)), .int .i32 (44032 + 28 * (k : Int))]
          rw [show 44032 + 28 * (k : Int) = r by have := hr.out; omega]
        rw [e3] at own3
        clear e3 hgrow own2 hnews hown
        go_wp2
        go_roundw
        case rel => exact ⟨k + 1, _, by omega, rfl, (by have := hr.out; show r + 28 = 44032 + 28 * ((k + 1 : Nat) : Int); omega : Hid _), by omega, by have := hr.out; omega, own3, hbz⟩
        case measure => simp [RowKit.intOf]; omega
      · have hkn : k = 399 := by omega
        have h2 : 55203 < r := by have := hr.out; omega
        have e : (syllP 14).take k = syllP 14 := by rw [hkn, ← HL.out, List.take_length]
        rw [e] at hown
        have HO := Lib.hid hown
        have hbz := HF.out.1.trans (hb.mono HF.out.1.size)
        clear hown e hb
        subst hkn
        have d : decide (r ≤ (55203 : Int)) = false := by simpa using h2
        go_wp2
        go_ret
        exact sp_of ⟨_, rfl, by rw [HL.out]; exact own_mono HO.out HF.out.1.size, hbz⟩ HI.out
  · go_enter Try.func76, Try.ntmps76
    go_wp2_with fail
    rw [HW.out]
    go_wp2_with fail
    go_loopw [5, 6] (fun v i wr => ∃ k : Nat, ∃ r : Int, k ≤ 399 ∧ i = .int .i32 r ∧ Hid (r = 44032 + 28 * (k : Int)) ∧ 44032 ≤ r ∧ r ≤ 55204 ∧ wr.ownsRow W0.heap.size 70 2 v k (cells2 ((syllP 15).take k)) ∧ Below W0.heap.size W0 wr) (fun _ i _ => (55204 - RowKit.intOf i).toNat)
    case atStart => exact ⟨0, _, by omega, rfl, (rfl : (44032 : Int) = 44032 + 28 * ((0 : Nat) : Int)), by omega, by omega, World.ownsRow_nil _ _ _ _, Below.refl _ _⟩
    case round =>
      obtain ⟨k, r, hk, rfl, hr, r0, r1, hown, hb⟩ := hrel
      have g1 : wr.cell? ⟨w.heap.size, 1, none⟩ = some (.int .i32 55203) := (hb.cell (p := ⟨w.heap.size, 1, none⟩) HF.out.2.2).trans HF.out.2.1
      by_cases hlt : k < 399
      · have h2 : r ≤ 55203 := by have := hr.out; omega
        have own2 := hown.alloc (.cells #[.int .i32 (r + 1), .int .i32 (r + 28 - 1)] 70)
        have hnews := news2 wr 70 (.int .i32 (r + 1)) (.int .i32 (r + 28 - 1)) rfl rfl
        have hlt0 := own_block_lt hown
        have hs := hb.size
        have HTk := Lib.hid (HT.out k hlt)
        have HQ := Lib.hid (H2.out k)
        go_wp2_with (at_builtin; refine wpList_append_own _ rfl _ _ 41 rfl W0.heap.size 70 i0 (.agg #[.int .i32 0, .int .i32 0]) 2 8 Try.underlying41 hi hz0 hz1 hz2 rfl (by decide) u5 k (cells2 ((syllP 15).take k)) rfl own2 ⟨wr.heap.size, 0, none⟩ 1 1 [.int .i32 (r + 1), .int .i32 (r + 28 - 1)] rfl rfl hnews ?c2 ?c3 ?c4 ?c5 ?_)
        case c2 => intro u hu; simp at hu; rcases hu with rfl | rfl <;> rfl
        case c3 => unfold maxLen; omega
        case c4 => omega
        case c5 => simp; omega
        intro v' w2 own3 hgrow _
        have hbz : Below W0.heap.size W0 w2 := (hb.alloc hs _).grown hgrow (by simp; omega) (fun k e => (hlt0 k e).1)
        have e3 : cells2 ((syllP 15).take k) ++ [.int .i32 (r + 1), .int .i32 (r + 28 - 1)] = cells2 ((syllP 15).take (k + 1)) := by
          rw [HTk.out, cells2_snoc, HQ.out]
          show _ = (_ : List Value) ++ [Value.int .i32 (44032 + 28 * (k : Int) + 1), .int .i32 (44032 + 28 * (k : Int) + 27)]
          rw [show 44032 + 28 * (k : Int) + 1 = r + 1 by have := hr.out; omega, show 44032 + 28 * (k : Int) + 27 = r + 28 - 1 by have := hr.out; omega]
        rw [e3] at own3
        clear e3 hgrow own2 hnews hown
        go_wp2
        go_roundw
        case rel => exact ⟨k + 1, _, by omega, rfl, (by have := hr.out; show r + 28 = 44032 + 28 * ((k + 1 : Nat) : Int); omega : Hid _), by omega, by have := hr.out; omega, own3, hbz⟩
        case measure => simp [RowKit.intOf]; omega
      · have hkn : k = 399 := by omega
        have h2 : 55203 < r := by have := hr.out; omega
        have e : (syllP 15).take k = syllP 15 := by rw [hkn, ← HL.out, List.take_length]
        rw [e] at hown
        have HO := Lib.hid hown
        have hbz := HF.out.1.trans (hb.mono HF.out.1.size)
        clear hown e hb
        subst hkn
        have d : decide (r ≤ (55203 : Int)) = false := by simpa using h2
        go_wp2
        go_ret
        exact sp_of ⟨_, rfl, by rw [HL.out]; exact own_mono HO.out HF.out.1.size, hbz⟩ HI.out

theorem row_i32 {x : Row} (hx : x ∈ rowsP) : I32 (x.1, x.2.1) := by
  have := List.all_eq_true.1 rows_bounds x hx
  simp only [decide_eq_true_eq] at this
  unfold I32
  simp only
  omega

set_option maxHeartbeats 2000000 in
theorem part_any (x : Row) (hx : x ∈ rowsP) (c : Int) (w : World) : Calls Try.prog 67 #[.agg #[.int .i32 x.1, .int .i32 x.2.1, .int .i64 (x.2.2 : Int)], .int .i64 c] w (SP (partP c x) w) := by
  have hi := row_i32 hx
  have hrow := List.all_eq_true.1 rows_ref x hx
  obtain ⟨lo, hi', cl⟩ := x
  simp only at hi hrow ⊢
  have hb := below_new w (.cells #[.int .i32 lo, .int .i32 hi', .int .i64 (cl : Int)] 97)
  by_cases h14 : cl = 14
  · subst h14
    rw [if_pos rfl] at hrow
    simp only [decide_eq_true_eq, Prod.mk.injEq] at hrow
    obtain ⟨rfl, rfl, _⟩ := hrow
    by_cases hc : c = 14 ∨ c = 15
    · have e : partP c (44032, 55203, 14) = syllP c := by unfold partP; rw [if_pos ⟨rfl, hc⟩]
      rw [e]
      have C := syll_any c hc (w.alloc (.cells #[.int .i32 44032, .int .i32 55203, .int .i64 14] 97))
      have HB := Lib.hid hb
      have C := Lib.hid C
      generalize hS : syllP c = S at C ⊢
      clear hb e hi hS
      rcases hc with rfl | rfl
      all_goals
        go_enter Try.func67, Try.ntmps67
        go_wp2_with fail
        refine C.out.mono ?_
        rintro e w1 ⟨A1, c1, rfl, hS, hb1⟩
        have H := Lib.hid (And.intro hS (HB.out.trans (hb1.mono HB.out.size)))
        clear hS hb1
        go_wp2
        go_ret
        exact ⟨_, _, rfl, H.out.1, H.out.2⟩
    · have e : partP c (44032, 55203, 14) = [] := by
        unfold partP
        rw [if_neg (fun h => hc h.2), if_neg (show ¬ ((((44032, 55203, 14) : Row).2.2 : Int) = c) by show ¬ ((14 : Int) = c); omega)]
      rw [e]
      have d1 : (c == 14) = false := by simp; omega
      have d2 : (c == 15) = false := by simp; omega
      have d3 : ((14 : Int) == c) = false := by simp; omega
      have HB := Lib.hid hb
      clear hb e hi hc
      go_enter Try.func67, Try.ntmps67
      go_wp2
      go_ret
      exact ⟨none, 0, rfl, SW.nil _, HB.out⟩
  · have d0 : ((cl : Int) == 14) = false := by simp; omega
    have e1 : ¬ (cl = 14 ∧ (c = 14 ∨ c = 15)) := fun h => h14 h.1
    by_cases hc : (cl : Int) = c
    · have e : partP c (lo, hi', cl) = [(lo, hi')] := by
        unfold partP
        rw [if_neg e1, if_pos hc]
        rfl
      rw [e]
      have d3 : ((cl : Int) == c) = true := by simpa using hc
      have HB := Lib.hid hb
      have C := Lib.hid (fun W => whole_any lo hi' cl hi W)
      clear hb e hi hc hrow h14 e1 hx
      go_enter Try.func67, Try.ntmps67
      go_wp2_with fail
      refine (C.out _).mono ?_
      rintro e w1 ⟨A1, c1, rfl, hS, hb1⟩
      have H := Lib.hid (And.intro hS (HB.out.trans (hb1.mono HB.out.size)))
      clear hS hb1
      go_wp2
      go_ret
      exact ⟨_, _, rfl, H.out.1, H.out.2⟩
    · have e : partP c (lo, hi', cl) = [] := by
        unfold partP
        rw [if_neg e1, if_neg hc]
      rw [e]
      have d3 : ((cl : Int) == c) = false := by simpa using hc
      have HB := Lib.hid hb
      clear hb e hi hc hrow h14 e1 hx
      go_enter Try.func67, Try.ntmps67
      go_wp2
      go_ret
      exact ⟨none, 0, rfl, SW.nil _, HB.out⟩

set_option maxHeartbeats 2000000 in
theorem pick_any (x : Row) (hx : x ∈ rowsP) (c : Int) (b : Nat) (w : World) (hb : b < w.heap.size) (hc : w.cell? ⟨b, 0, none⟩ = some (.int .i64 c)) :
    Calls Try.prog 66 #[.agg #[.int .i32 x.1, .int .i32 x.2.1, .int .i64 (x.2.2 : Int)], .pointer (some ⟨b, 0, none⟩)] w (SP (partP c x) w) := by
  have C := fun W => part_any x hx c W
  obtain ⟨lo, hi', cl⟩ := x
  simp only at C ⊢
  have hbw := below_new w (.cells #[.int .i32 lo, .int .i32 hi', .int .i64 (cl : Int)] 97)
  have hc2 : (w.alloc (.cells #[.int .i32 lo, .int .i32 hi', .int .i64 (cl : Int)] 97)).cell? ⟨b, 0, none⟩ = some (.int .i64 c) := (hbw.cell (p := ⟨b, 0, none⟩) hb).trans hc
  have HB := Lib.hid hbw
  have C := Lib.hid C
  generalize partP c (lo, hi', cl) = S at C ⊢
  clear hbw hc hx
  go_enter Try.func66, Try.ntmps66
  go_wp2_with fail
  refine (C.out _).mono ?_
  rintro e w1 ⟨A1, c1, rfl, hS, hb1⟩
  have H := Lib.hid (And.intro hS (HB.out.trans (hb1.mono HB.out.size)))
  clear hS hb1
  go_wp2
  go_ret
  exact ⟨_, _, rfl, H.out.1, H.out.2⟩
end Go.Proofs.Ytphhdkffnboboaa

namespace Go.Proofs.Ytphhdkffnboboaa
open Go.RowKit Go.Shelf
open Go.Lib

/-- What is appended: nothing, of nil; or cells that are there. -/
def Src (w : World) (A : Option Addr) (m c : Nat) (news : List Value) : Prop :=
  (A = none ∧ m = 0 ∧ c = 0 ∧ news = []) ∨ ∃ ad, A = some ad ∧ (0 < m → ad.block < w.heap.size) ∧ news.length = m ∧ ∀ (j : Nat) (u : Value), news[j]? = some u → w.cell? (ad.add j) = some u
theorem block_add (ad : Addr) (j : Nat) : (ad.add j).block = ad.block := by
  unfold Addr.add
  split <;> rfl
theorem Src.below {w w' : World} {A : Option Addr} {m c : Nat} {news : List Value} (h : Src w A m c news) (hb : Below w.heap.size w w') : Src w' A m c news := by
  rcases h with h | ⟨ad, e, hl, h1, h2⟩
  · exact .inl h
  · exact .inr ⟨ad, e, fun hm => Nat.lt_of_lt_of_le (hl hm) hb.size, h1, fun j u hu => (hb.cell (p := ad.add j) (by rw [block_add]; exact hl (by have := (List.getElem?_eq_some_iff.1 hu).1; omega))).trans (h2 j u hu)⟩

theorem wpList_append_src {P : Program} {w : World} {ops : Array Oper} {rest : List Oper} {o : Oper} {a : Act} {Q : Exit → Act → World → Prop} (hgd : o.guard = none) (s x : Operand) (t : TypeId)
    (ho : o.op = .call { callee := .builtin .append, args := #[s, x], argTypes := #[t, t] })
    (base : Nat) (e : TypeId) (i : TypeInfo) (z : Value) (bytes : Nat) (ht : P.underlying t = some (.slice e)) (hi : P.info? e = some i) (hz : i.zero = some z)
    (hsize : i.size = 1) (hby : i.bytes = bytes) (hzs : z.cells.size = 1)
    (v : Value) (n : Nat) (xs : List Value) (hs : a.eval s = v) (hown : w.ownsRow base e 1 v n xs)
    (A : Option Addr) (m c : Nat) (news : List Value) (hx : a.eval x = .slice A m c) (hsrc : Src w A m c news) (h1 : ∀ u ∈ news, u.oneCell' = true)
    (h63 : n + m ≤ maxLen) (hbytes : (n + m) * bytes ≤ 140737488355328) (hbase : base ≤ w.heap.size)
    (h : ∀ v' w', w'.ownsRow base e 1 v' (n + m) (xs ++ news) → Below base w w' → wpList P ops Q rest (a.put o.dst v') w') : wpList P ops Q (o :: rest) a w := by
  rcases hsrc with ⟨rfl, rfl, rfl, rfl⟩ | ⟨ad, rfl, _, hl, hcells⟩
  · exact wpList_append_own_none hgd s x t ho base e i 1 ht hi v n xs hs hown hx (h v w (by simpa using hown) (Below.refl _ _))
  · exact wpList_append_own _ hgd s x t ho base e i z 1 bytes ht hi hz hsize hby hzs (by omega) v n xs hs hown ad m c news hx (by omega) hcells h1 h63 hbytes hbase
      (fun v' w' h2 h3 _ => h v' w' h2 ((Below.refl _ w).grown h3 hbase (fun k e' => (own_block_lt hown k e').1)))

theorem src_of_own {w : World} {base e n : Nat} {v : Value} {xs : List Value} (h : w.ownsRow base e 1 v n xs) : ∃ A cap, v = .slice A n cap ∧ Src w A n cap xs := by
  have hl := h.1
  rcases h.2 with ⟨rfl, rfl⟩ | ⟨g, cap, cur, rfl, hb, hh, hnc, hcm, hcs, htk⟩
  · exact ⟨none, 0, rfl, .inl ⟨rfl, rfl, rfl, List.eq_nil_of_length_eq_zero (by omega)⟩⟩
  · refine ⟨_, cap, rfl, .inr ⟨_, rfl, fun _ => (Array.getElem?_eq_some_iff.1 hh).1, by omega, fun j u hu => ?_⟩⟩
    have hj := (List.getElem?_eq_some_iff.1 hu).1
    rw [add0, h.cellAt j (by omega), hu]
theorem own_empty (w : World) (base e : Nat) (hb : base ≤ w.heap.size) : (w.alloc (.cells #[] e)).ownsRow base e 1 (.slice (some ⟨w.heap.size, 0, none⟩) 0 0) 0 [] :=
  ⟨rfl, .inr ⟨w.heap.size, 0, #[], rfl, hb, World.alloc_heap_new w _, Nat.le_refl _, Nat.zero_le _, rfl, rfl⟩⟩
theorem Try.info21 : (Try.prog.info? 21).map (fun i => (i.zero, i.size, i.bytes)) = some (some (.int .i32 0), 1, 4) := by kernel_rfl
end Go.Proofs.Ytphhdkffnboboaa

