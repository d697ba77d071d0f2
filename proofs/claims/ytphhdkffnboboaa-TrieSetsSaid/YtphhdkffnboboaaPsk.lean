/-
  Contracts: virguleref03.Points.
-/
import Derived.BigRegion
import Derived.Deep.RegionLaw
import Derived.Test.YtphhdkffnboboaaPsj
namespace Go.Proofs.Ytphhdkffnboboaa
open Go.RowKit Go.Shelf
open Go.Lib

/-- The numbers that are put in, one behind the other. -/
def putAt (xs : List Rng) (i : Nat) : Int := if i % 2 = 1 then (xs.getD (i / 2) (0, 0)).2 + 1 else (xs.getD (i / 2) (0, 0)).1
/-- Where something may change, of the first i numbers. -/
structure PtsTo (xs : List Rng) (i : Nat) (l : List Int) : Prop where
  s : l.Pairwise (· < ·)
  m : ∀ x, x ∈ l ↔ x = 0 ∨ x = 1114112 ∨ ∃ j, j < i ∧ x = putAt xs j
theorem pts_put {xs : List Rng} {i : Nat} {l l' : List Int} (h : PtsTo xs i l) (h1 : Ins l (putAt xs i) l') : PtsTo xs (i + 1) l' := by
  refine ⟨h1.s, fun y => ?_⟩
  rw [h1.m y, h.m y]
  constructor
  · rintro (e | e | e | ⟨j, hj, e⟩)
    · exact .inr (.inr ⟨i, by omega, e⟩)
    · exact .inl e
    · exact .inr (.inl e)
    · exact .inr (.inr ⟨j, by omega, e⟩)
  · rintro (e | e | ⟨j, hj, e⟩)
    · exact .inr (.inl e)
    · exact .inr (.inr (.inl e))
    · by_cases c : j = i
      · subst c; exact .inl e
      · exact .inr (.inr (.inr ⟨j, by omega, e⟩))
theorem pts_whole {xs : List Rng} {l : List Int} (h : PtsTo xs (2 * xs.length) l) : PtsAll xs l := by
  refine ⟨h.s, fun x => ?_⟩
  rw [h.m x]
  constructor
  · rintro (e | e | ⟨j, hj, e⟩)
    · exact .inl e
    · exact .inr (.inl e)
    · obtain ⟨y, hy⟩ : ∃ y, xs[j / 2]? = some y := ⟨xs[j / 2]'(by omega), List.getElem?_eq_getElem _⟩
      unfold putAt at e
      rw [List.getD_eq_getElem?_getD, hy] at e
      simp only [Option.getD_some] at e
      refine .inr (.inr ⟨y, List.mem_of_getElem? hy, ?_⟩)
      split at e
      · exact .inr e
      · exact .inl e
  · rintro (e | e | ⟨y, hy, e⟩)
    · exact .inl e
    · exact .inr (.inl e)
    · obtain ⟨j, hj⟩ := List.mem_iff_getElem?.1 hy
      have hjl := (List.getElem?_eq_some_iff.1 hj).1
      rcases e with e | e
      · refine .inr (.inr ⟨2 * j, by omega, ?_⟩)
        unfold putAt
        rw [if_neg (by omega), show 2 * j / 2 = j by omega, List.getD_eq_getElem?_getD, hj]
        exact e
      · refine .inr (.inr ⟨2 * j + 1, by omega, ?_⟩)
        unfold putAt
        rw [if_pos (by omega), show (2 * j + 1) / 2 = j by omega, List.getD_eq_getElem?_getD, hj]
        exact e
theorem put_bounds {xs : List Rng} (hm : ∀ x ∈ xs, may x = true) {i : Nat} (hi : i < 2 * xs.length) : ∃ y, xs[i / 2]? = some y ∧ putAt xs i = (if i % 2 = 1 then y.2 + 1 else y.1) ∧ 0 ≤ y.1 ∧ y.1 ≤ y.2 ∧ y.2 ≤ 1114111 := by
  obtain ⟨y, hy⟩ : ∃ y, xs[i / 2]? = some y := ⟨xs[i / 2]'(by omega), List.getElem?_eq_getElem _⟩
  have := (may_iff y).1 (hm y (List.mem_of_getElem? hy))
  refine ⟨y, hy, ?_, by omega, by omega, by omega⟩
  unfold putAt
  rw [List.getD_eq_getElem?_getD, hy]
  rfl

set_option maxHeartbeats 8000000 in
set_option maxRecDepth 100000 in
theorem points3_any (A : Option Addr) (cap : Nat) (xs : List Rng) (w : World) (h : RS w w.heap.size A cap xs) (hmay : ∀ x ∈ xs, may x = true) (hl : xs.length ≤ 10000) :
    Calls Try.prog 51 #[.slice A xs.length cap] w (PtsPost xs w) := by
  obtain ⟨i21, hi21, hz210, hz211, hz212⟩ := info_parts Try.info21
  have H0 := Lib.hid h
  have HM := Lib.hid hmay
  obtain ⟨N, hN⟩ : ∃ n, xs.length = n := ⟨_, rfl⟩
  have HNN := Lib.hid hN
  rw [hN] at hl ⊢
  clear h hmay hN
  go_enter Try.func51, Try.ntmps51
  go_wp2_with fail
  go_loopw [3, 4] (fun v i wr => ∃ (t : Nat) (l : List Int) (A' : Option Addr) (c' : Nat), i = .int .i64 (t : Int) ∧ t ≤ 2 * N ∧ v = .slice A' l.length c' ∧ PtsTo xs t l ∧ l.length ≤ t + 2 ∧ LS wr wr.heap.size A' c' l ∧ Below w.heap.size w wr) (fun _ i _ => 2 * N - (RowKit.intOf i).toNat)
  case atStart =>
    refine ⟨0, [0, 1114112], some ⟨w.heap.size, 0, none⟩, 2, rfl, Nat.zero_le _, rfl, ⟨by simp, fun x => by simp⟩, by simp, ⟨by simp, by unfold maxLen; omega, (fun x hx => by simp at hx; omega), w.heap.size, 0, rfl, by simp, fun i x hx => ?_⟩, below_new _ _⟩
    match i with
    | 0 => simp at hx; subst hx; simp
    | 1 => simp at hx; subst hx; simp
    | i + 2 => simp at hx
  case round =>
    obtain ⟨t, l, A', c', rfl, ht, rfl, hP, hll, hLS, hb⟩ := hrel
    by_cases hlt0 : t < 2 * N
    · obtain ⟨y, hy, hput, y0, y1, y2⟩ := put_bounds HM.out (i := t) (by rw [HNN.out]; exact hlt0)
      obtain ⟨bx, ox, rfl, hbx, hRG⟩ := H0.out.2.2.2 (by intro e; rw [e] at hy; simp at hy)
      obtain ⟨r1, r2⟩ := hRG (t / 2) y hy
      have q1 := (hb.cell (p := ⟨bx, ox + t / 2 * 2, none⟩) hbx).trans r1
      have q2 := (hb.cell (p := ⟨bx, ox + t / 2 * 2 + 1, none⟩) hbx).trans r2
      have H := Lib.hid hLS
      have HS := Lib.hid hP.s
      have HPT := Lib.hid hP
      have hlast : ∃ j : Nat, l[j]? = some (1114112 : Int) := List.mem_iff_getElem?.1 ((hP.m _).2 (.inr (.inl rfl)))
      have HLAST := Lib.hid hlast
      obtain ⟨b, o, rfl, hbl, hc⟩ := hLS.a
      have hcap := hLS.c
      have hmx := hLS.m
      have HC := Lib.hid hc
      obtain ⟨n, hn⟩ : ∃ n, l.length = n := ⟨_, rfl⟩
      have HN := Lib.hid hn
      have HB0 := Lib.hid hb
      have hln : n ≤ t + 2 := by omega
      have hl : n ≤ 1000000 := by omega
      rw [hn] at hcap ⊢
      unfold maxLen at hmx
      obtain ⟨r, hr⟩ : ∃ r, putAt xs t = r := ⟨_, rfl⟩
      have HR := Lib.hid hr
      rw [hr] at hput
      have hr0 : -2147483648 ≤ r ∧ r ≤ 1114112 ∧ r ≤ 2147483647 := by rw [hput]; split <;> omega
      obtain ⟨hr0, hr11, hr1⟩ := hr0
      obtain ⟨lo, hi⟩ := y
      simp only at *
      have j1 : (t : Int) < 2 * (N : Int) := by omega
      have j2 : (0 : Int) ≤ (t : Int) / 2 := by omega
      have j3 : (t : Int) / 2 < (N : Int) := by omega
      have HPUT := Lib.hid hput
      clear hP hLS hb hn hRG r1 r2 hc hy hr hput hlast hll
      have main : ∀ (Q : Unit), True := fun _ => trivial
      clear main
      by_cases par : t % 2 = 1
      · have e1 : ((t : Int) % 2 == 1) = true := by simp; omega
        have e2 : r = hi + 1 := by have := HPUT.out; rw [if_pos par] at this; exact this
        subst e2
        go_wp2_with fail
        generalize hi + 1 = r at *
        obtain ⟨wr0, rfl⟩ : ∃ W : World, W = wr := ⟨_, rfl⟩
        go_loopw [6] (fun i wr => ∃ k : Nat, i = .int .i64 k ∧ k < n ∧ (∀ y ∈ l.take k, y < r) ∧ wr = wr0) (fun i _ => n - (RowKit.intOf i).toNat)
        case atStart => exact ⟨0, rfl, by obtain ⟨j, hj⟩ := HLAST.out; have := (List.getElem?_eq_some_iff.1 hj).1; have := HN.out; omega, (fun y hy => by simp at hy), rfl⟩
        case round =>
          obtain ⟨k, rfl, hk, hlt1, rfl⟩ := hrel
          have HLT := Lib.hid hlt1
          clear hlt1
          obtain ⟨x, hx⟩ : ∃ x, l[k]? = some x := ⟨l[k]'(by have := HN.out; omega), List.getElem?_eq_getElem _⟩
          have q := HC.out k x hx
          have hxb := H.out.i x (List.mem_of_getElem? hx)
          have HX := Lib.hid hx
          clear hx
          have i1 : (k : Int) < (n : Int) := by omega
          by_cases c1 : x < r
          · have HT := Lib.hid (lt_step l k x r HX.out HLT.out c1)
            have hk1 : k + 1 < n := by
              obtain ⟨j, hj⟩ := HLAST.out
              have hjl := (List.getElem?_eq_some_iff.1 hj).1
              have := HN.out
              by_cases c : j ≤ k
              · exfalso
                rcases Nat.lt_or_ge j k with d | d
                · have := HLT.out 1114112 (List.mem_iff_getElem?.2 ⟨j, by rw [List.getElem?_take, if_pos d]; exact hj⟩)
                  omega
                · have : j = k := by omega
                  subst this
                  rw [HX.out] at hj
                  injection hj with hj
                  omega
              · omega
            go_wp2_with fail
            go_roundw
            case rel => exact ⟨k + 1, by go_num, by omega, HT.out, trivial⟩
            case measure => simp [RowKit.intOf]; omega
          · have d1 : decide (x < r) = false := by simpa using c1
            by_cases c2 : x = r
            · subst c2
              have HI := Lib.hid (ins_there HS.out HX.out)
              have hd : ∃ (t_1 : Nat) (l : List Int) (A' : Option Addr) (c'_1 : Nat), Value.int .i64 ((t : Int) + 1) = .int .i64 (t_1 : Int) ∧ t_1 ≤ 2 * N ∧ Value.slice (some ⟨b, o, none⟩) n c' = .slice A' l.length c'_1 ∧ PtsTo xs t_1 l ∧ l.length ≤ t_1 + 2 ∧ LS wr wr.heap.size A' c'_1 l ∧ Below w.heap.size w wr :=
                ⟨t + 1, l, _, _, by simp, by omega, by rw [HN.out], pts_put HPT.out (by rw [HR.out]; exact HI.out), by have := HN.out; omega, H.out, HB0.out⟩
              have HD := Lib.hid hd
              clear hd
              go_wp2_with fail
              go_roundw
              case rel => exact HD.out
              case measure => simp [RowKit.intOf]; omega
            · have hkn0 : k ≤ n := by omega
              have HI := Lib.hid (ins_new HS.out HLT.out (k := k) (r := r) (fun y hy => by rw [HX.out] at hy; injection hy with hy; omega))
              have hkc : k ≤ c' := by omega
              have HN2 := Lib.hid (HN.out)
              have S1 : Hid (∀ W, Below wr.heap.size wr W → Src W (some ⟨b, o, none⟩) k c' (ints (l.take k))) := Lib.hid fun W hb => src_take H.out hb (by have := HN.out; omega)
              have S2 : Hid (∀ W, Below wr.heap.size wr W → Src W (if c' = k then some ⟨b, o, none⟩ else some ⟨b, o + k, none⟩) (n - k) (c' - k) (ints (l.drop k))) := Lib.hid fun W hb => by rw [← HN.out]; exact src_drop H.out hb (by have := HN.out; omega)
              have HW0 : Hid (Below wr.heap.size wr wr) := Lib.hid (Below.refl _ _)
              have HBE : Hid (∀ o, Below wr.heap.size wr (wr.alloc o)) := Lib.hid fun o => below_new _ _
              have HBB : Hid (∀ o o', Below wr.heap.size wr ((wr.alloc o).alloc o')) := Lib.hid fun o o' => (below_new _ _).alloc (by simp) _
              have fC := own_empty wr wr.heap.size 21 (Nat.le_refl _)
              have fA := fC.alloc (.cells #[.int .i32 r] 21)
              have fB := own_empty (wr.alloc (.cells #[.int .i32 r] 21)) wr.heap.size 21 (by simp)
              rw [World.size_alloc] at fB
              have HA := Lib.hid fA
              have HB := Lib.hid fB
              have HCc := Lib.hid fC
              have rA := cell_one wr.heap.size.succ ((wr.alloc (.cells #[] 21)).alloc (.cells #[.int .i32 r] 21)) r (by have h := World.alloc_heap_new (wr.alloc (.cells #[] 21)) (.cells #[.int .i32 r] 21); rwa [World.size_alloc] at h)
              have rB := cell_one wr.heap.size ((wr.alloc (.cells #[.int .i32 r] 21)).alloc (.cells #[] 21)) r (by rw [Below.heap_alloc _ _ _ (by simp)]; exact World.alloc_heap_new _ _)
              have HrA := Lib.hid rA
              have HrB := Lib.hid rB
              clear fA fB fC rA rB
              go_wp2_with fail
              go_region_law (first
                | (refine step_append_src (w := ((wr.alloc (.cells #[] 21)).alloc (.cells #[.int .i32 r] 21)).drew) rfl (.tmp 45) (.tmp 48) 23 rfl wr.heap.size 21 i21 (.int .i32 0) 4 Try.underlying23 hi21 hz210 hz211 hz212 rfl (.slice (some ⟨wr.heap.size, 0, none⟩) 0 0) 0 [] (by simp [Act.eval] <;> omega) (show World.ownsRow (((wr.alloc (.cells #[] 21)).alloc (.cells #[.int .i32 r] 21)).drew) wr.heap.size 21 1 _ 0 [] from HA.out) (some ⟨b, o, none⟩) k c' (ints (l.take k)) (by simp [Act.eval] <;> omega) (S1.out _ (HBB.out _ _).drew) (ints_one _) (by unfold maxLen; omega) (by omega) (HBB.out _ _).size ?_
                   intro v1 w1 ho1 hb1 hg1
                   have hbw1 := (HBB.out _ _).drew.trans hb1
                   have hR1 := src_far (W := ((wr.alloc (.cells #[] 21)).alloc (.cells #[.int .i32 r] 21)).drew) (B := wr.heap.size + 1) HrA.out hg1 (by simp [Value.ownBlock]))
                | (refine step_append_src (w := ((wr.alloc (.cells #[.int .i32 r] 21)).alloc (.cells #[] 21)).drew) rfl (.tmp 45) (.tmp 48) 23 rfl wr.heap.size 21 i21 (.int .i32 0) 4 Try.underlying23 hi21 hz210 hz211 hz212 rfl (.slice (some ⟨wr.heap.size + 1, 0, none⟩) 0 0) 0 [] (by simp [Act.eval] <;> omega) (show World.ownsRow (((wr.alloc (.cells #[.int .i32 r] 21)).alloc (.cells #[] 21)).drew) wr.heap.size 21 1 _ 0 [] from HB.out) (some ⟨b, o, none⟩) k c' (ints (l.take k)) (by simp [Act.eval] <;> omega) (S1.out _ (HBB.out _ _).drew) (ints_one _) (by unfold maxLen; omega) (by omega) (HBB.out _ _).size ?_
                   intro v1 w1 ho1 hb1 hg1
                   have hbw1 := (HBB.out _ _).drew.trans hb1
                   have hR1 := src_far (W := ((wr.alloc (.cells #[.int .i32 r] 21)).alloc (.cells #[] 21)).drew) (B := wr.heap.size) HrB.out hg1 (by simp [Value.ownBlock]))
                | (refine step_append_src (w := (wr.alloc (.cells #[] 21)).drew) rfl (.tmp 45) (.tmp 48) 23 rfl wr.heap.size 21 i21 (.int .i32 0) 4 Try.underlying23 hi21 hz210 hz211 hz212 rfl (.slice (some ⟨wr.heap.size, 0, none⟩) 0 0) 0 [] (by simp [Act.eval] <;> omega) (show World.ownsRow ((wr.alloc (.cells #[] 21)).drew) wr.heap.size 21 1 _ 0 [] from HCc.out) (some ⟨b, o, none⟩) k c' (ints (l.take k)) (by simp [Act.eval] <;> omega) (S1.out _ (HBE.out _).drew) (ints_one _) (by unfold maxLen; omega) (by omega) (HBE.out _).size ?_
                   intro v1 w1 ho1 hb1 hg1
                   have hbw1 := (HBE.out _).drew.trans hb1)
                | (refine step_append_src (w := w1) rfl (.tmp 49) (.tmp 51) 23 rfl wr.heap.size 21 i21 (.int .i32 0) 4 Try.underlying23 hi21 hz210 hz211 hz212 rfl v1 (0 + k) ([] ++ ints (l.take k)) (by simp [Act.eval] <;> omega) ho1 _ 1 1 [.int .i32 r] (by simp [Act.eval] <;> omega) hR1 (ints_one [r]) (by unfold maxLen; omega) (by omega) hbw1.size ?_
                   intro v2 w2 ho2 hb2 _
                   have hbw2 := hbw1.trans hb2)
                | (refine step_append_src (w := w1.alloc (.cells #[.int .i32 r] 21)) rfl (.tmp 49) (.tmp 51) 23 rfl wr.heap.size 21 i21 (.int .i32 0) 4 Try.underlying23 hi21 hz210 hz211 hz212 rfl v1 (0 + k) ([] ++ ints (l.take k)) (by simp [Act.eval] <;> omega) (ho1.alloc _) (some ⟨w1.heap.size, 0, none⟩) 1 1 [.int .i32 r] (by simp [Act.eval] <;> omega) (cell_one w1.heap.size _ r (World.alloc_heap_new _ _)) (ints_one [r]) (by unfold maxLen; omega) (by omega) (hbw1.alloc hbw1.size _).size ?_
                   intro v2 w2 ho2 hb2 _
                   have hbw2 := (hbw1.alloc hbw1.size _).trans hb2)
                | (refine step_append_src (w := w2) rfl (.tmp 52) (.tmp 55) 23 rfl wr.heap.size 21 i21 (.int .i32 0) 4 Try.underlying23 hi21 hz210 hz211 hz212 rfl v2 (0 + k + 1) ([] ++ ints (l.take k) ++ [.int .i32 r]) (by simp [Act.eval] <;> omega) ho2 (if c' = k then some ⟨b, o, none⟩ else some ⟨b, o + k, none⟩) (n - k) (c' - k) (ints (l.drop k)) (by simp [Act.eval] <;> omega) (S2.out _ hbw2) (ints_one _) (by unfold maxLen; omega) (by omega) hbw2.size ?_
                   intro v3 w3 ho3 hb3 _
                   have hbw3 := hbw2.trans hb3))
              all_goals
                have HO := Lib.hid ho3
                have hl' : ints (l.take k ++ [r] ++ l.drop k) = [] ++ ints (l.take k) ++ [.int .i32 r] ++ ints (l.drop k) := by simp [ints]
                clear ho3
                have hd := ins_done (B := wr.heap.size) (m := 0 + k + 1 + (n - k)) HI.out (by have h := HO.out; rw [← hl'] at h; exact h) (by have := HN.out; simp; omega) (fun x hx => by
                  rcases (HI.out.m x).1 hx with e | e
                  · rw [e]; exact ⟨hr0, hr1⟩
                  · exact H.out.i x e) hbw3
                have HD := Lib.hid hd
                obtain ⟨l9, A9, c9, hv9, hI9, hL9, hb9⟩ := HD.out
                injection hv9 with hv9
                have hd2 : ∃ (t_1 : Nat) (l : List Int) (A' : Option Addr) (c' : Nat), Value.int .i64 ((t : Int) + 1) = .int .i64 (t_1 : Int) ∧ t_1 ≤ 2 * N ∧ v3 = .slice A' l.length c' ∧ PtsTo xs t_1 l ∧ l.length ≤ t_1 + 2 ∧ LS w3 w3.heap.size A' c' l ∧ Below w.heap.size w w3 :=
                  ⟨t + 1, l9, _, _, by simp, by omega, hv9, pts_put HPT.out (by rw [HR.out]; exact hI9), by have := hI9.n; have := HN.out; omega, hL9, HB0.out.trans (hb9.mono HB0.out.size)⟩
                have HD2 := Lib.hid hd2
                clear hd hl' hbw3 hd2 hv9 hI9 hL9 hb9 HD
                go_wp2_with fail
                go_roundw
                case rel => exact HD2.out
                case measure => simp [RowKit.intOf]; omega
      · have e1 : ((t : Int) % 2 == 1) = false := by simp; omega
        have e2 : r = lo := by have := HPUT.out; rw [if_neg par] at this; exact this
        subst e2
        go_wp2_with fail
        obtain ⟨wr0, rfl⟩ : ∃ W : World, W = wr := ⟨_, rfl⟩
        go_loopw [6] (fun i wr => ∃ k : Nat, i = .int .i64 k ∧ k < n ∧ (∀ y ∈ l.take k, y < r) ∧ wr = wr0) (fun i _ => n - (RowKit.intOf i).toNat)
        case atStart => exact ⟨0, rfl, by obtain ⟨j, hj⟩ := HLAST.out; have := (List.getElem?_eq_some_iff.1 hj).1; have := HN.out; omega, (fun y hy => by simp at hy), rfl⟩
        case round =>
          obtain ⟨k, rfl, hk, hlt1, rfl⟩ := hrel
          have HLT := Lib.hid hlt1
          clear hlt1
          obtain ⟨x, hx⟩ : ∃ x, l[k]? = some x := ⟨l[k]'(by have := HN.out; omega), List.getElem?_eq_getElem _⟩
          have q := HC.out k x hx
          have hxb := H.out.i x (List.mem_of_getElem? hx)
          have HX := Lib.hid hx
          clear hx
          have i1 : (k : Int) < (n : Int) := by omega
          by_cases c1 : x < r
          · have HT := Lib.hid (lt_step l k x r HX.out HLT.out c1)
            have hk1 : k + 1 < n := by
              obtain ⟨j, hj⟩ := HLAST.out
              have hjl := (List.getElem?_eq_some_iff.1 hj).1
              have := HN.out
              by_cases c : j ≤ k
              · exfalso
                rcases Nat.lt_or_ge j k with d | d
                · have := HLT.out 1114112 (List.mem_iff_getElem?.2 ⟨j, by rw [List.getElem?_take, if_pos d]; exact hj⟩)
                  omega
                · have : j = k := by omega
                  subst this
                  rw [HX.out] at hj
                  injection hj with hj
                  omega
              · omega
            go_wp2_with fail
            go_roundw
            case rel => exact ⟨k + 1, by go_num, by omega, HT.out, trivial⟩
            case measure => simp [RowKit.intOf]; omega
          · have d1 : decide (x < r) = false := by simpa using c1
            by_cases c2 : x = r
            · subst c2
              have HI := Lib.hid (ins_there HS.out HX.out)
              have hd : ∃ (t_1 : Nat) (l : List Int) (A' : Option Addr) (c'_1 : Nat), Value.int .i64 ((t : Int) + 1) = .int .i64 (t_1 : Int) ∧ t_1 ≤ 2 * N ∧ Value.slice (some ⟨b, o, none⟩) n c' = .slice A' l.length c'_1 ∧ PtsTo xs t_1 l ∧ l.length ≤ t_1 + 2 ∧ LS wr wr.heap.size A' c'_1 l ∧ Below w.heap.size w wr :=
                ⟨t + 1, l, _, _, by simp, by omega, by rw [HN.out], pts_put HPT.out (by rw [HR.out]; exact HI.out), by have := HN.out; omega, H.out, HB0.out⟩
              have HD := Lib.hid hd
              clear hd
              go_wp2_with fail
              go_roundw
              case rel => exact HD.out
              case measure => simp [RowKit.intOf]; omega
            · have hkn0 : k ≤ n := by omega
              have HI := Lib.hid (ins_new HS.out HLT.out (k := k) (r := r) (fun y hy => by rw [HX.out] at hy; injection hy with hy; omega))
              have hkc : k ≤ c' := by omega
              have HN2 := Lib.hid (HN.out)
              have S1 : Hid (∀ W, Below wr.heap.size wr W → Src W (some ⟨b, o, none⟩) k c' (ints (l.take k))) := Lib.hid fun W hb => src_take H.out hb (by have := HN.out; omega)
              have S2 : Hid (∀ W, Below wr.heap.size wr W → Src W (if c' = k then some ⟨b, o, none⟩ else some ⟨b, o + k, none⟩) (n - k) (c' - k) (ints (l.drop k))) := Lib.hid fun W hb => by rw [← HN.out]; exact src_drop H.out hb (by have := HN.out; omega)
              have HW0 : Hid (Below wr.heap.size wr wr) := Lib.hid (Below.refl _ _)
              have HBE : Hid (∀ o, Below wr.heap.size wr (wr.alloc o)) := Lib.hid fun o => below_new _ _
              have HBB : Hid (∀ o o', Below wr.heap.size wr ((wr.alloc o).alloc o')) := Lib.hid fun o o' => (below_new _ _).alloc (by simp) _
              have fC := own_empty wr wr.heap.size 21 (Nat.le_refl _)
              have fA := fC.alloc (.cells #[.int .i32 r] 21)
              have fB := own_empty (wr.alloc (.cells #[.int .i32 r] 21)) wr.heap.size 21 (by simp)
              rw [World.size_alloc] at fB
              have HA := Lib.hid fA
              have HB := Lib.hid fB
              have HCc := Lib.hid fC
              have rA := cell_one wr.heap.size.succ ((wr.alloc (.cells #[] 21)).alloc (.cells #[.int .i32 r] 21)) r (by have h := World.alloc_heap_new (wr.alloc (.cells #[] 21)) (.cells #[.int .i32 r] 21); rwa [World.size_alloc] at h)
              have rB := cell_one wr.heap.size ((wr.alloc (.cells #[.int .i32 r] 21)).alloc (.cells #[] 21)) r (by rw [Below.heap_alloc _ _ _ (by simp)]; exact World.alloc_heap_new _ _)
              have HrA := Lib.hid rA
              have HrB := Lib.hid rB
              clear fA fB fC rA rB
              go_wp2_with fail
              go_region_law (first
                | (refine step_append_src (w := ((wr.alloc (.cells #[] 21)).alloc (.cells #[.int .i32 r] 21)).drew) rfl (.tmp 45) (.tmp 48) 23 rfl wr.heap.size 21 i21 (.int .i32 0) 4 Try.underlying23 hi21 hz210 hz211 hz212 rfl (.slice (some ⟨wr.heap.size, 0, none⟩) 0 0) 0 [] (by simp [Act.eval] <;> omega) (show World.ownsRow (((wr.alloc (.cells #[] 21)).alloc (.cells #[.int .i32 r] 21)).drew) wr.heap.size 21 1 _ 0 [] from HA.out) (some ⟨b, o, none⟩) k c' (ints (l.take k)) (by simp [Act.eval] <;> omega) (S1.out _ (HBB.out _ _).drew) (ints_one _) (by unfold maxLen; omega) (by omega) (HBB.out _ _).size ?_
                   intro v1 w1 ho1 hb1 hg1
                   have hbw1 := (HBB.out _ _).drew.trans hb1
                   have hR1 := src_far (W := ((wr.alloc (.cells #[] 21)).alloc (.cells #[.int .i32 r] 21)).drew) (B := wr.heap.size + 1) HrA.out hg1 (by simp [Value.ownBlock]))
                | (refine step_append_src (w := ((wr.alloc (.cells #[.int .i32 r] 21)).alloc (.cells #[] 21)).drew) rfl (.tmp 45) (.tmp 48) 23 rfl wr.heap.size 21 i21 (.int .i32 0) 4 Try.underlying23 hi21 hz210 hz211 hz212 rfl (.slice (some ⟨wr.heap.size + 1, 0, none⟩) 0 0) 0 [] (by simp [Act.eval] <;> omega) (show World.ownsRow (((wr.alloc (.cells #[.int .i32 r] 21)).alloc (.cells #[] 21)).drew) wr.heap.size 21 1 _ 0 [] from HB.out) (some ⟨b, o, none⟩) k c' (ints (l.take k)) (by simp [Act.eval] <;> omega) (S1.out _ (HBB.out _ _).drew) (ints_one _) (by unfold maxLen; omega) (by omega) (HBB.out _ _).size ?_
                   intro v1 w1 ho1 hb1 hg1
                   have hbw1 := (HBB.out _ _).drew.trans hb1
                   have hR1 := src_far (W := ((wr.alloc (.cells #[.int .i32 r] 21)).alloc (.cells #[] 21)).drew) (B := wr.heap.size) HrB.out hg1 (by simp [Value.ownBlock]))
                | (refine step_append_src (w := (wr.alloc (.cells #[] 21)).drew) rfl (.tmp 45) (.tmp 48) 23 rfl wr.heap.size 21 i21 (.int .i32 0) 4 Try.underlying23 hi21 hz210 hz211 hz212 rfl (.slice (some ⟨wr.heap.size, 0, none⟩) 0 0) 0 [] (by simp [Act.eval] <;> omega) (show World.ownsRow ((wr.alloc (.cells #[] 21)).drew) wr.heap.size 21 1 _ 0 [] from HCc.out) (some ⟨b, o, none⟩) k c' (ints (l.take k)) (by simp [Act.eval] <;> omega) (S1.out _ (HBE.out _).drew) (ints_one _) (by unfold maxLen; omega) (by omega) (HBE.out _).size ?_
                   intro v1 w1 ho1 hb1 hg1
                   have hbw1 := (HBE.out _).drew.trans hb1)
                | (refine step_append_src (w := w1) rfl (.tmp 49) (.tmp 51) 23 rfl wr.heap.size 21 i21 (.int .i32 0) 4 Try.underlying23 hi21 hz210 hz211 hz212 rfl v1 (0 + k) ([] ++ ints (l.take k)) (by simp [Act.eval] <;> omega) ho1 _ 1 1 [.int .i32 r] (by simp [Act.eval] <;> omega) hR1 (ints_one [r]) (by unfold maxLen; omega) (by omega) hbw1.size ?_
                   intro v2 w2 ho2 hb2 _
                   have hbw2 := hbw1.trans hb2)
                | (refine step_append_src (w := w1.alloc (.cells #[.int .i32 r] 21)) rfl (.tmp 49) (.tmp 51) 23 rfl wr.heap.size 21 i21 (.int .i32 0) 4 Try.underlying23 hi21 hz210 hz211 hz212 rfl v1 (0 + k) ([] ++ ints (l.take k)) (by simp [Act.eval] <;> omega) (ho1.alloc _) (some ⟨w1.heap.size, 0, none⟩) 1 1 [.int .i32 r] (by simp [Act.eval] <;> omega) (cell_one w1.heap.size _ r (World.alloc_heap_new _ _)) (ints_one [r]) (by unfold maxLen; omega) (by omega) (hbw1.alloc hbw1.size _).size ?_
                   intro v2 w2 ho2 hb2 _
                   have hbw2 := (hbw1.alloc hbw1.size _).trans hb2)
                | (refine step_append_src (w := w2) rfl (.tmp 52) (.tmp 55) 23 rfl wr.heap.size 21 i21 (.int .i32 0) 4 Try.underlying23 hi21 hz210 hz211 hz212 rfl v2 (0 + k + 1) ([] ++ ints (l.take k) ++ [.int .i32 r]) (by simp [Act.eval] <;> omega) ho2 (if c' = k then some ⟨b, o, none⟩ else some ⟨b, o + k, none⟩) (n - k) (c' - k) (ints (l.drop k)) (by simp [Act.eval] <;> omega) (S2.out _ hbw2) (ints_one _) (by unfold maxLen; omega) (by omega) hbw2.size ?_
                   intro v3 w3 ho3 hb3 _
                   have hbw3 := hbw2.trans hb3))
              all_goals
                have HO := Lib.hid ho3
                have hl' : ints (l.take k ++ [r] ++ l.drop k) = [] ++ ints (l.take k) ++ [.int .i32 r] ++ ints (l.drop k) := by simp [ints]
                clear ho3
                have hd := ins_done (B := wr.heap.size) (m := 0 + k + 1 + (n - k)) HI.out (by have h := HO.out; rw [← hl'] at h; exact h) (by have := HN.out; simp; omega) (fun x hx => by
                  rcases (HI.out.m x).1 hx with e | e
                  · rw [e]; exact ⟨hr0, hr1⟩
                  · exact H.out.i x e) hbw3
                have HD := Lib.hid hd
                obtain ⟨l9, A9, c9, hv9, hI9, hL9, hb9⟩ := HD.out
                injection hv9 with hv9
                have hd2 : ∃ (t_1 : Nat) (l : List Int) (A' : Option Addr) (c' : Nat), Value.int .i64 ((t : Int) + 1) = .int .i64 (t_1 : Int) ∧ t_1 ≤ 2 * N ∧ v3 = .slice A' l.length c' ∧ PtsTo xs t_1 l ∧ l.length ≤ t_1 + 2 ∧ LS w3 w3.heap.size A' c' l ∧ Below w.heap.size w w3 :=
                  ⟨t + 1, l9, _, _, by simp, by omega, hv9, pts_put HPT.out (by rw [HR.out]; exact hI9), by have := hI9.n; have := HN.out; omega, hL9, HB0.out.trans (hb9.mono HB0.out.size)⟩
                have HD2 := Lib.hid hd2
                clear hd hl' hbw3 hd2 hv9 hI9 hL9 hb9 HD
                go_wp2_with fail
                go_roundw
                case rel => exact HD2.out
                case measure => simp [RowKit.intOf]; omega
    · have ht2 : t = 2 * N := by omega
      subst ht2
      have d1 : ¬ ((2 * N : Nat) : Int) < 2 * (N : Int) := by omega
      have H := Lib.hid (And.intro hP (And.intro hll (And.intro hLS hb)))
      clear hP hll hLS hb
      unfold PtsPost
      go_wp2_with fail
      go_ret
      exact ⟨l, _, _, rfl, pts_whole (by rw [HNN.out]; exact H.out.1), by rw [HNN.out]; exact H.out.2.1, H.out.2.2.1, H.out.2.2.2⟩
end Go.Proofs.Ytphhdkffnboboaa

