/-
  Contracts: ranges.join.
-/
import Derived.Test.YtphhdkffnboboaaGreatDoorRg7
import Derived.Test.YtphhdkffnboboaaGreatDoorRg5
import Derived.StillTailTactics
namespace Go.Proofs.YtphhdkffnboboaaGreatDoor
open Go.RowKit Go.Shelf
open Go.Lib

theorem join_merge (pre : List Rng) (z x : Rng) (h : right (pre ++ [z]) = true) (hx : may x = true) (h1 : z.1 ≤ x.1) (h2 : x.1 ≤ z.2 + 1) :
    right (pre ++ [(z.1, max z.2 x.2)]) = true ∧ ∀ r, hasR (pre ++ [(z.1, max z.2 x.2)]) r = (hasR (pre ++ [z]) r || (decide (x.1 ≤ r) && decide (r ≤ x.2))) := by
  have hz := (may_iff _).1 (right_may (b := -1) h z (by simp)).1
  rw [may_iff] at hx
  refine ⟨?_, fun r => ?_⟩
  · unfold right at h ⊢
    rw [rightFrom_snoc] at h ⊢
    simp only [Bool.and_eq_true, may_iff, decide_eq_true_eq] at h ⊢
    refine ⟨h.1, ?_, ?_, ?_⟩ <;> (try dsimp only) <;> omega
  · rw [hasR_append, hasR_append, Bool.eq_iff_iff]
    simp only [Bool.or_eq_true, hasR_iff, List.mem_singleton, exists_eq_left, Bool.and_eq_true, decide_eq_true_eq]
    constructor
    · rintro (h | h)
      · exact .inl (.inl h)
      · by_cases c : r ≤ z.2
        · exact .inl (.inr ⟨h.1, c⟩)
        · exact .inr ⟨by omega, by omega⟩
    · rintro ((h | h) | h)
      · exact .inl h
      · exact .inr ⟨h.1, by omega⟩
      · exact .inr ⟨by omega, by omega⟩
theorem join_push (out : List Rng) (x : Rng) (h : right out = true) (hx : may x = true) (h1 : hiOf (-1) out < x.1) :
    right (out ++ [x]) = true ∧ ∀ r, hasR (out ++ [x]) r = (hasR out r || (decide (x.1 ≤ r) && decide (r ≤ x.2))) := by
  refine ⟨?_, fun r => by rw [hasR_append]; simp [hasR]⟩
  unfold right at *
  rw [rightFrom_snoc, h, hx]
  simpa using h1
theorem sorted_drop {ys : List Rng} (h : ys.Pairwise fun x y => x.1 ≤ y.1) {k : Nat} {x : Rng} (hx : ys[k]? = some x) : ∀ y ∈ ys.drop (k + 1), x.1 ≤ y.1 := by
  intro y hy
  obtain ⟨j, hj⟩ := List.mem_iff_getElem?.1 hy
  rw [List.getElem?_drop] at hj
  obtain ⟨hk, rfl⟩ := List.getElem?_eq_some_iff.1 hx
  obtain ⟨hl, rfl⟩ := List.getElem?_eq_some_iff.1 hj
  exact List.pairwise_iff_getElem.1 h k (k + 1 + j) hk hl (by omega)
theorem cells2_set (pre : List Rng) (z : Rng) (u : Int) : (cells2 (pre ++ [z])).set (pre.length * 2 + 1) (.int .i32 u) = cells2 (pre ++ [(z.1, u)]) := by
  rw [cells2_snoc, cells2_snoc, List.set_append_right _ _ (by rw [cells2_length]; omega), cells2_length]
  rw [show pre.length * 2 + 1 - pre.length * 2 = 1 by omega]
  rfl
theorem mem_drop_succ {ys : List Rng} {k : Nat} {x y : Rng} (hx : ys[k]? = some x) (hy : y ∈ ys.drop (k + 1)) : y ∈ ys.drop k := by
  obtain ⟨hk, rfl⟩ := List.getElem?_eq_some_iff.1 hx
  rw [List.drop_eq_getElem_cons hk]
  exact List.mem_cons_of_mem _ hy
theorem mem_drop_at {ys : List Rng} {k : Nat} {x : Rng} (hx : ys[k]? = some x) : x ∈ ys.drop k := by
  obtain ⟨hk, rfl⟩ := List.getElem?_eq_some_iff.1 hx
  rw [List.drop_eq_getElem_cons hk]
  exact List.mem_cons_self

theorem own_mono {w : World} {base base' : Nat} {e : TypeId} {size : Nat} {v : Value} {n : Nat} {xs : List Value} (h : w.ownsRow base e size v n xs) (hb : base' ≤ base) : w.ownsRow base' e size v n xs := by
  refine ⟨h.1, ?_⟩
  rcases h.2 with h2 | ⟨g, cap, cur, h1, h2, h3⟩
  · exact .inl h2
  · exact .inr ⟨g, cap, cur, h1, Nat.le_trans hb h2, h3⟩

/-- What the loop of join holds behind k ranges. -/
def JoinRel (B : Nat) (w0 : World) (ys : List Rng) (_n k : Nat) (v : Value) (wr : World) : Prop :=
  ∃ out : List Rng, wr.ownsRow B 39 2 v out.length (cells2 out) ∧ right out = true ∧ (∀ r, hasR out r = hasR (ys.take k) r) ∧ (∀ z ∈ out, ∀ y ∈ ys.drop k, z.1 ≤ y.1) ∧ out.length ≤ k ∧ Below B w0 wr

set_option maxHeartbeats 8000000 in
set_option maxRecDepth 100000 in
theorem join_loop (B g cap : Nat) (xs _ys : List Rng) (_w0 w : World) (hown : w.ownsRow B 39 2 (.slice (some ⟨g, 0, none⟩) xs.length cap) xs.length (cells2 xs)) (hB : B ≤ w.heap.size) (hl : xs.length ≤ 1000000) (hmay : ∀ x ∈ xs, may x = true) :
    Calls Tryz.prog 23 #[.slice (some ⟨g, 0, none⟩) xs.length cap] w fun e w' => ∃ out : List Rng, right out = true ∧ (∀ r, hasR out r = hasR xs r) ∧ out.length ≤ xs.length ∧ HoldsR B 39 out w e w' := by
  obtain ⟨i0, hi, hz0, hz1, hz2⟩ := info_parts Tryz.info39
  have C := Lib.hid (sort_any B g cap xs w hB hown (by omega))
  have HM := Lib.hid hmay
  obtain ⟨n, hn⟩ : ∃ n, xs.length = n := ⟨_, rfl⟩
  have HN := Lib.hid hn
  rw [hn] at C hl ⊢
  clear hown hmay hn
  go_enter Tryz.func23, Tryz.ntmps23
  go_wp2_with fail
  refine C.out.mono ?_
  rintro e w1 ⟨rfl, ys, hp, hs, hRg, hg, hb⟩
  have HS := Lib.hid hs
  have HR := Lib.hid hRg
  have HY := Lib.hid (show ys.length = n by rw [hp.length_eq, HN.out])
  have HYM := Lib.hid (show ∀ x ∈ ys, may x = true from fun x hx => HM.out x (hp.mem_iff.1 hx))
  have HYR := Lib.hid (show ∀ r, hasR ys r = hasR xs r from fun r => by
    rw [Bool.eq_iff_iff, hasR_iff, hasR_iff]
    constructor
    · rintro ⟨x, hx, h⟩; exact ⟨x, hp.mem_iff.1 hx, h⟩
    · rintro ⟨x, hx, h⟩; exact ⟨x, hp.mem_iff.2 hx, h⟩)
  clear hs hRg hp
  go_wp2
  go_loopw [3, 11] (fun v i wr => ∃ k : Nat, i = .int .i64 k ∧ k ≤ n ∧ JoinRel w1.heap.size w1 ys n k v wr) (fun _ i _ => n - (RowKit.intOf i).toNat)
  case atStart => exact ⟨0, rfl, Nat.zero_le _, [], World.ownsRow_nil _ _ _ _, rfl, fun _ => rfl, (fun z hz => by simp at hz), Nat.le_refl _, Below.refl _ _⟩
  case round =>
    obtain ⟨k, rfl, hk, out, hown, hro, hho, hle, hol, hb2⟩ := hrel
    by_cases hlt : k < n
    · obtain ⟨x, hx⟩ : ∃ x, ys[k]? = some x := ⟨ys[k]'(by have := HY.out; omega), List.getElem?_eq_getElem _⟩
      obtain ⟨q1, q2⟩ := (HR.out.below hg hb2) k x hx
      rw [Nat.zero_add] at q1 q2
      have hmx := HYM.out x (List.mem_of_getElem? hx)
      have hm3 := (may_iff _).1 hmx
      have HST := Lib.hid (fun r => hasR_step ys k x r hx)
      have HX := Lib.hid hx
      have HO := Lib.hid (And.intro hro (And.intro hho (And.intro hle hmx)))
      clear hx hro hho hle hmx
      obtain ⟨lo, hi'⟩ := x
      obtain ⟨m1, m2, m3⟩ := hm3
      simp only at m1 m2 m3
      have i1 : (k : Int) < (n : Int) := by omega
      have hown1 := hown.alloc (.cells #[.int .i32 lo, .int .i32 hi'] 39)
      have hb3 : Below w1.heap.size w1 (wr.alloc (.cells #[.int .i32 lo, .int .i32 hi'] 39)) := hb2.alloc hb2.size _
      have f0 : (wr.alloc (.cells #[.int .i32 lo, .int .i32 hi'] 39)).cell? ⟨wr.heap.size, 0, none⟩ = some (.int .i32 lo) := by simp
      have f1 : (wr.alloc (.cells #[.int .i32 lo, .int .i32 hi'] 39)).cell? ⟨wr.heap.size, 1, none⟩ = some (.int .i32 hi') := by simp
      have hne := fun k e => (own_block_lt hown k e).2
      rcases List.eq_nil_or_concat out with rfl | ⟨pre, z, rfl⟩
      · have HJ := Lib.hid (join_push [] (lo, hi') rfl HO.out.2.2.2 (by simp [hiOf]; omega))
        rw [List.length_nil] at hown hown1
        obtain ⟨A0, c0, hv0⟩ : ∃ A0 c0, u3 = .slice A0 0 c0 := by
          rcases hown1.2 with ⟨h, _⟩ | ⟨g', c', _, h, _⟩
          · exact ⟨_, _, h⟩
          · exact ⟨_, _, h⟩
        subst hv0
        go_wp2_with fail
        go_quiet (fail)
        have HD := Lib.hid (below_drewN hb3 nq)
        have f0' : ((wr.alloc (.cells #[.int .i32 lo, .int .i32 hi'] 39)).drewN nq).cell? ⟨wr.heap.size, 0, none⟩ = some (.int .i32 lo) := f0
        have f1' : ((wr.alloc (.cells #[.int .i32 lo, .int .i32 hi'] 39)).drewN nq).cell? ⟨wr.heap.size, 1, none⟩ = some (.int .i32 hi') := f1
        have how : ((wr.alloc (.cells #[.int .i32 lo, .int .i32 hi'] 39)).drewN nq).ownsRow w1.heap.size 39 2 (.slice A0 0 c0) 0 (cells2 []) := hown1
        generalize (wr.alloc (.cells #[.int .i32 lo, .int .i32 hi'] 39)).drewN nq = W at *
        generalize wr.heap.size = bx at *
        have hlt0 := own_block_lt how
        have how2 := how.alloc (.cells #[.int .i32 lo, .int .i32 hi'] 39)
        have hnews := news2 W 39 (.int .i32 lo) (.int .i32 hi') rfl rfl
        have hWs : w1.heap.size ≤ W.heap.size := HD.out.size
        clear f0 f1 how hb3
        go_wp2_with (at_builtin; refine wpList_append_own _ rfl _ _ 27 rfl w1.heap.size 39 i0 (.agg #[.int .i32 0, .int .i32 0]) 2 8 Tryz.underlying27 hi hz0 hz1 hz2 rfl (by decide) (.slice A0 0 c0) 0 (cells2 []) rfl how2 ⟨W.heap.size, 0, none⟩ 1 1 [.int .i32 lo, .int .i32 hi'] rfl rfl hnews ?c2 ?c3 ?c4 ?c5 ?_)
        case c2 => intro u hu; simp at hu; rcases hu with rfl | rfl <;> rfl
        case c3 => unfold maxLen; omega
        case c4 => omega
        case c5 => simp; omega
        intro v' w2 own3 hgrow _
        have hbz : Below w1.heap.size w1 w2 := (HD.out.alloc hWs _).grown hgrow (by simp; omega) (fun k e => (hlt0 k e).1)
        have HO3 := Lib.hid own3
        clear hnews how2 hgrow own3
        go_wp2
        go_roundw
        case rel => exact ⟨k + 1, by go_num, by omega, [] ++ [(lo, hi')], by rw [cells2_snoc, List.length_append]; exact HO3.out, HJ.out.1, fun r => by rw [HJ.out.2 r, HST.out r, HO.out.2.1 r], fun z hz y hy => by
            rcases List.mem_append.1 hz with hz | hz
            · exact HO.out.2.2.1 z hz y (mem_drop_succ HX.out hy)
            · rw [List.mem_singleton.1 hz]
              exact sorted_drop HS.out HX.out y hy, by simp, hbz⟩
        case measure => simp [RowKit.intOf]; omega
      · rw [List.concat_eq_append] at *
        rw [List.length_append, List.length_singleton] at hown hown1 hol
        obtain ⟨g', cap', rfl⟩ := ownsRow_succ hown
        have hzm := (may_iff _).1 (right_may (b := -1) HO.out.1 z (by simp)).1
        have hz1' := HO.out.2.2.1 z (by simp) _ (mem_drop_at HX.out)
        obtain ⟨zl, zh⟩ := z
        simp only at hzm hz1'
        obtain ⟨z1, z2, z3⟩ := hzm
        obtain ⟨d1, d2⟩ := cells2_get (pre ++ [(zl, zh)]) pre.length (zl, zh) (by simp)
        have t1 := (hown1.cellAt (pre.length * 2) (by omega)).trans d1
        have t2 := (hown1.cellAt (pre.length * 2 + 1) (by omega)).trans d2
        have HOW := Lib.hid hown1
        have HOL := Lib.hid hol
        have hgl := (own_block_lt hown1 g' rfl)
        clear d1 d2 hown hown1
        obtain ⟨m, hm⟩ : ∃ m, pre.length = m := ⟨_, rfl⟩
        rw [hm] at t1 t2 HOW HOL ⊢
        have HMM := Lib.hid hm
        have j0 : (0 : Int) < (m : Int) + 1 := by omega
        have j1 : (0 : Int) ≤ (m : Int) := by omega
        have hml : m ≤ 1000000 := by have := HOL.out; omega
        clear hm hol
        by_cases c : lo ≤ zh + 1
        · go_wp2_with fail
          go_quiet (fail)
          go_wp2_with fail
          have hb4 := below_drewN hb3 nq
          have f0' : ((wr.alloc (.cells #[.int .i32 lo, .int .i32 hi'] 39)).drewN nq).cell? ⟨wr.heap.size, 0, none⟩ = some (.int .i32 lo) := f0
          have f1' : ((wr.alloc (.cells #[.int .i32 lo, .int .i32 hi'] 39)).drewN nq).cell? ⟨wr.heap.size, 1, none⟩ = some (.int .i32 hi') := f1
          have t1' : ((wr.alloc (.cells #[.int .i32 lo, .int .i32 hi'] 39)).drewN nq).cell? ⟨g', m * 2, none⟩ = some (.int .i32 zl) := t1
          have t2' : ((wr.alloc (.cells #[.int .i32 lo, .int .i32 hi'] 39)).drewN nq).cell? ⟨g', m * 2 + 1, none⟩ = some (.int .i32 zh) := t2
          have how : ((wr.alloc (.cells #[.int .i32 lo, .int .i32 hi'] 39)).drewN nq).ownsRow w1.heap.size 39 2 (.slice (some ⟨g', 0, none⟩) (m + 1) cap') (m + 1) (cells2 (pre ++ [(zl, zh)])) := HOW.out
          have fz := how.frozenAt (m * 2 + 1)
          have hst := Lib.hid (how.stored (m * 2 + 1) (.int .i32 (max zh hi')))
          generalize (wr.alloc (.cells #[.int .i32 lo, .int .i32 hi'] 39)).drewN nq = W at *
          generalize wr.heap.size = bx at *
          have HB4 := Lib.hid hb4
          clear f0 f1 t1 t2 how HOW hb3 hb4
          go_region
          have hb5 := (HB4.out.grown hst.out.2 HB4.out.size (fun k e => by injection e with e; omega)).drew
          have HO3 := Lib.hid (show ((W.setCell ⟨g', m * 2 + 1, none⟩ (.int .i32 (max zh hi'))).drew).ownsRow w1.heap.size 39 2 (.slice (some ⟨g', 0, none⟩) (m + 1) cap') (m + 1) (cells2 (pre ++ [(zl, max zh hi')])) from by
            have h := hst.out.1
            rw [← HMM.out, cells2_set, HMM.out] at h
            exact h)
          have HJ := Lib.hid (join_merge pre (zl, zh) (lo, hi') HO.out.1 HO.out.2.2.2 hz1' c)
          generalize (W.setCell ⟨g', m * 2 + 1, none⟩ (.int .i32 (max zh hi'))).drew = W2 at *
          go_wp2
          go_roundw
          case rel => exact ⟨k + 1, by go_num, by omega, pre ++ [(zl, max zh hi')], by rw [List.length_append, HMM.out]; exact HO3.out, HJ.out.1, fun r => by rw [HJ.out.2 r, HST.out r, HO.out.2.1 r], fun z hz y hy => by
              rcases List.mem_append.1 hz with hz | hz
              · exact HO.out.2.2.1 z (List.mem_append_left _ hz) y (mem_drop_succ HX.out hy)
              · rw [List.mem_singleton.1 hz]
                exact HO.out.2.2.1 (zl, zh) (by simp) y (mem_drop_succ HX.out hy), by simp [HMM.out]; have := HOL.out; omega, hb5⟩
          case measure => simp [RowKit.intOf]; omega
        · have HJ := Lib.hid (join_push (pre ++ [(zl, zh)]) (lo, hi') HO.out.1 HO.out.2.2.2 (by rw [hiOf_snoc]; simp only; omega))
          have d : decide (lo ≤ zh + 1) = false := by simpa using c
          go_wp2_with fail
          go_quiet (fail)
          have HD := Lib.hid (below_drewN hb3 nq)
          have f0' : ((wr.alloc (.cells #[.int .i32 lo, .int .i32 hi'] 39)).drewN nq).cell? ⟨wr.heap.size, 0, none⟩ = some (.int .i32 lo) := f0
          have f1' : ((wr.alloc (.cells #[.int .i32 lo, .int .i32 hi'] 39)).drewN nq).cell? ⟨wr.heap.size, 1, none⟩ = some (.int .i32 hi') := f1
          have how : ((wr.alloc (.cells #[.int .i32 lo, .int .i32 hi'] 39)).drewN nq).ownsRow w1.heap.size 39 2 (.slice (some ⟨g', 0, none⟩) (m + 1) cap') (m + 1) (cells2 (pre ++ [(zl, zh)])) := HOW.out
          generalize (wr.alloc (.cells #[.int .i32 lo, .int .i32 hi'] 39)).drewN nq = W at *
          generalize wr.heap.size = bx at *
          have hlt0 := own_block_lt how
          have how2 := how.alloc (.cells #[.int .i32 lo, .int .i32 hi'] 39)
          have hnews := news2 W 39 (.int .i32 lo) (.int .i32 hi') rfl rfl
          have hWs : w1.heap.size ≤ W.heap.size := HD.out.size
          clear f0 f1 t1 t2 how HOW hb3
          go_wp2_with (at_builtin; refine wpList_append_own _ rfl _ _ 27 rfl w1.heap.size 39 i0 (.agg #[.int .i32 0, .int .i32 0]) 2 8 Tryz.underlying27 hi hz0 hz1 hz2 rfl (by decide) (.slice (some ⟨g', 0, none⟩) (m + 1) cap') (m + 1) (cells2 (pre ++ [(zl, zh)])) rfl how2 ⟨W.heap.size, 0, none⟩ 1 1 [.int .i32 lo, .int .i32 hi'] rfl rfl hnews ?c2 ?c3 ?c4 ?c5 ?_)
          case c2 => intro u hu; simp at hu; rcases hu with rfl | rfl <;> rfl
          case c3 => unfold maxLen; omega
          case c4 => omega
          case c5 => simp; omega
          intro v' w2 own3 hgrow _
          have hbz : Below w1.heap.size w1 w2 := (HD.out.alloc hWs _).grown hgrow (by simp; omega) (fun k e => (hlt0 k e).1)
          have HO3 := Lib.hid own3
          clear hnews how2 hgrow own3
          go_wp2
          go_roundw
          case rel => exact ⟨k + 1, by go_num, by omega, (pre ++ [(zl, zh)]) ++ [(lo, hi')], by rw [cells2_snoc, List.length_append]; rw [List.length_append, HMM.out]; exact HO3.out, HJ.out.1, fun r => by rw [HJ.out.2 r, HST.out r, HO.out.2.1 r], fun z hz y hy => by
              rcases List.mem_append.1 hz with hz | hz
              · exact HO.out.2.2.1 z hz y (mem_drop_succ HX.out hy)
              · rw [List.mem_singleton.1 hz]
                exact sorted_drop HS.out HX.out y hy, by simp [HMM.out]; have := HOL.out; omega, hbz⟩
          case measure => simp [RowKit.intOf]; omega
    · have hkn : k = n := by omega
      have e : ys.take k = ys := by rw [hkn, ← HY.out, List.take_length]
      rw [e] at hho
      have HH := Lib.hid (fun r => (hho r).trans (HYR.out r))
      have HO := Lib.hid hown
      subst hkn
      clear e hho hown
      go_wp2
      go_ret
      exact ⟨out, hro, HH.out, hol, u3, rfl, own_mono HO.out (Nat.le_trans hB hb.size), hb.trans (hb2.mono (Nat.le_trans hB hb.size))⟩
end Go.Proofs.YtphhdkffnboboaaGreatDoor
