/-
  Contracts: ranges.join.
  Contracts: append of a row of ranges that may be nil; slices.Clone; ranges.join at whatever row; ranges.Make.
  DERIVED: THE SHELF's CONTRACTS AT THIS DUMP, IN PLAIN WORDS (tools/lay-plain.mjs out of 'TrydLayR2.lean', which tools/lay-shelf.mjs wrote): THE SAME DECLARATIONS UNDER THE SAME NAMES: 'import', 'namespace', 'open', 'def', 'theorem' AND NOTHING ELSE: no command of the shelf's: FOR A HAND-IN. Each laying: the table of numbers ('.._ren') and one theorem, a field a fact of the dump's own or the kernel's comparison; each contract: ONE APPLICATION.
  Contracts: ranges.Count, ranges.Has.
  Contracts: ranges.valid and virguleref02.Known, told by what they hand back; ranges.Not.
-/
import Derived.Test.YtphhdkffnboboaaPsa
import Derived.StillTailTactics
import Derived.Shelf.SlicesE.Clone
import Derived.Laws.AppendOwnNone
import Derived.Shelf.SlicesQ.IndexFunc
import Derived.Shelf.SlGeneric
import Derived.Ground.SlgfProg
import Derived.Ground.NamesProg
import Derived.Test.YtphhdkffnboboaaProg
namespace Go.Proofs.Ytphhdkffnboboaa
open Go.RowKit Go.Shelf
open Go.Lib

theorem join_merge (pre : List Rng) (z x : Rng) (h : right (pre ++ [z]) = true) (hx : may x = true) (h1 : z.1 ≤ x.1) (h2 : x.1 ≤ z.2 + 1) :
    right (pre ++ [(z.1, max z.2 x.2)]) = true ∧ ∀ r, hasR (pre ++ [(z.1, max z.2 x.2)]) r = (hasR (pre ++ [z]) r || (decide (x.1 ≤ r) && decide (r ≤ x.2))) := by
  have hz := (may_iff _).1 (right_may (b := -1) h z (by simp)).1
  rw [may_iff] at hx
  refine ⟨?_, fun r => ?_⟩
  · unfold right at h ⊢
    rw [rightFrom_snoc] at h ⊢
    simp only [Bool.and_eq_true, may_iff, decide_eq_true_eq] at h ⊢
    refine ⟨h.1, ?_, ?_, ?_⟩ <;> (try dsimp only) <;> omega
  · rw [hasR_append, hasR_append, Bool.eq_iff_iff]
    simp only [Bool.or_eq_true, hasR_iff, List.mem_singleton, exists_eq_left, Bool.and_eq_true, decide_eq_true_eq]
    constructor
    · rintro (h | h)
      · exact .inl (.inl h)
      · by_cases c : r ≤ z.2
        · exact .inl (.inr ⟨h.1, c⟩)
        · exact .inr ⟨by omega, by omega⟩
    · rintro ((h | h) | h)
      · exact .inl h
      · exact .inr ⟨h.1, by omega⟩
      · exact .inr ⟨by omega, by omega⟩
theorem join_push (out : List Rng) (x : Rng) (h : right out = true) (hx : may x = true) (h1 : hiOf (-1) out < x.1) :
    right (out ++ [x]) = true ∧ ∀ r, hasR (out ++ [x]) r = (hasR out r || (decide (x.1 ≤ r) && decide (r ≤ x.2))) := by
  refine ⟨?_, fun r => by rw [hasR_append]; simp [hasR]⟩
  unfold right at *
  rw [rightFrom_snoc, h, hx]
  simpa using h1
theorem sorted_drop {ys : List Rng} (h : ys.Pairwise fun x y => x.1 ≤ y.1) {k : Nat} {x : Rng} (hx : ys[k]? = some x) : ∀ y ∈ ys.drop (k + 1), x.1 ≤ y.1 := by
  intro y hy
  obtain ⟨j, hj⟩ := List.mem_iff_getElem?.1 hy
  rw [List.getElem?_drop] at hj
  obtain ⟨hk, rfl⟩ := List.getElem?_eq_some_iff.1 hx
  obtain ⟨hl, rfl⟩ := List.getElem?_eq_some_iff.1 hj
  exact List.pairwise_iff_getElem.1 h k (k + 1 + j) hk hl (by omega)
theorem cells2_set (pre : List Rng) (z : Rng) (u : Int) : (cells2 (pre ++ [z])).set (pre.length * 2 + 1) (.int .i32 u) = cells2 (pre ++ [(z.1, u)]) := by
  rw [cells2_snoc, cells2_snoc, List.set_append_right _ _ (by rw [cells2_length]; omega), cells2_length]
  rw [show pre.length * 2 + 1 - pre.length * 2 = 1 by omega]
  rfl
theorem mem_drop_succ {ys : List Rng} {k : Nat} {x y : Rng} (hx : ys[k]? = some x) (hy : y ∈ ys.drop (k + 1)) : y ∈ ys.drop k := by
  obtain ⟨hk, rfl⟩ := List.getElem?_eq_some_iff.1 hx
  rw [List.drop_eq_getElem_cons hk]
  exact List.mem_cons_of_mem _ hy
theorem mem_drop_at {ys : List Rng} {k : Nat} {x : Rng} (hx : ys[k]? = some x) : x ∈ ys.drop k := by
  obtain ⟨hk, rfl⟩ := List.getElem?_eq_some_iff.1 hx
  rw [List.drop_eq_getElem_cons hk]
  exact List.mem_cons_self

theorem own_mono {w : World} {base base' : Nat} {e : TypeId} {size : Nat} {v : Value} {n : Nat} {xs : List Value} (h : w.ownsRow base e size v n xs) (hb : base' ≤ base) : w.ownsRow base' e size v n xs := by
  refine ⟨h.1, ?_⟩
  rcases h.2 with h2 | ⟨g, cap, cur, h1, h2, h3⟩
  · exact .inl h2
  · exact .inr ⟨g, cap, cur, h1, Nat.le_trans hb h2, h3⟩

/-- What the loop of join holds behind k ranges. -/
def JoinRel (B : Nat) (w0 : World) (ys : List Rng) (_n k : Nat) (v : Value) (wr : World) : Prop :=
  ∃ out : List Rng, wr.ownsRow B 70 2 v out.length (cells2 out) ∧ right out = true ∧ (∀ r, hasR out r = hasR (ys.take k) r) ∧ (∀ z ∈ out, ∀ y ∈ ys.drop k, z.1 ≤ y.1) ∧ out.length ≤ k ∧ Below B w0 wr

set_option maxHeartbeats 8000000 in
set_option maxRecDepth 100000 in
theorem join_loop (B g cap : Nat) (xs _ys : List Rng) (_w0 w : World) (hown : w.ownsRow B 70 2 (.slice (some ⟨g, 0, none⟩) xs.length cap) xs.length (cells2 xs)) (hB : B ≤ w.heap.size) (hl : xs.length ≤ 1000000) (hmay : ∀ x ∈ xs, may x = true) :
    Calls Try.prog 80 #[.slice (some ⟨g, 0, none⟩) xs.length cap] w fun e w' => ∃ out : List Rng, right out = true ∧ (∀ r, hasR out r = hasR xs r) ∧ out.length ≤ xs.length ∧ HoldsR B 70 out w e w' := by
  obtain ⟨i0, hi, hz0, hz1, hz2⟩ := info_parts Try.info70
  have C := Lib.hid (sort_any B g cap xs w hB hown (by omega))
  have HM := Lib.hid hmay
  obtain ⟨n, hn⟩ : ∃ n, xs.length = n := ⟨_, rfl⟩
  have HN := Lib.hid hn
  rw [hn] at C hl ⊢
  clear hown hmay hn
  go_enter Try.func80, Try.ntmps80
  go_wp2_with fail
  refine C.out.mono ?_
  rintro e w1 ⟨rfl, ys, hp, hs, hRg, hg, hb⟩
  have HS := Lib.hid hs
  have HR := Lib.hid hRg
  have HY := Lib.hid (show ys.length = n by rw [hp.length_eq, HN.out])
  have HYM := Lib.hid (show ∀ x ∈ ys, may x = true from fun x hx => HM.out x (hp.mem_iff.1 hx))
  have HYR := Lib.hid (show ∀ r, hasR ys r = hasR xs r from fun r => by
    rw [Bool.eq_iff_iff, hasR_iff, hasR_iff]
    constructor
    · rintro ⟨x, hx, h⟩; exact ⟨x, hp.mem_iff.1 hx, h⟩
    · rintro ⟨x, hx, h⟩; exact ⟨x, hp.mem_iff.2 hx, h⟩)
  clear hs hRg hp
  go_wp2
  go_loopw [3, 11] (fun v i wr => ∃ k : Nat, i = .int .i64 k ∧ k ≤ n ∧ JoinRel w1.heap.size w1 ys n k v wr) (fun _ i _ => n - (RowKit.intOf i).toNat)
  case atStart => exact ⟨0, rfl, Nat.zero_le _, [], World.ownsRow_nil _ _ _ _, rfl, fun _ => rfl, (fun z hz => by simp at hz), Nat.le_refl _, Below.refl _ _⟩
  case round =>
    obtain ⟨k, rfl, hk, out, hown, hro, hho, hle, hol, hb2⟩ := hrel
    by_cases hlt : k < n
    · obtain ⟨x, hx⟩ : ∃ x, ys[k]? = some x := ⟨ys[k]'(by have := HY.out; omega), List.getElem?_eq_getElem _⟩
      obtain ⟨q1, q2⟩ := (HR.out.below hg hb2) k x hx
      rw [Nat.zero_add] at q1 q2
      have hmx := HYM.out x (List.mem_of_getElem? hx)
      have hm3 := (may_iff _).1 hmx
      have HST := Lib.hid (fun r => hasR_step ys k x r hx)
      have HX := Lib.hid hx
      have HO := Lib.hid (And.intro hro (And.intro hho (And.intro hle hmx)))
      clear hx hro hho hle hmx
      obtain ⟨lo, hi'⟩ := x
      obtain ⟨m1, m2, m3⟩ := hm3
      simp only at m1 m2 m3
      have i1 : (k : Int) < (n : Int) := by omega
      have hown1 := hown.alloc (.cells #[.int .i32 lo, .int .i32 hi'] 70)
      have hb3 : Below w1.heap.size w1 (wr.alloc (.cells #[.int .i32 lo, .int .i32 hi'] 70)) := hb2.alloc hb2.size _
      have f0 : (wr.alloc (.cells #[.int .i32 lo, .int .i32 hi'] 70)).cell? ⟨wr.heap.size, 0, none⟩ = some (.int .i32 lo) := by simp
      have f1 : (wr.alloc (.cells #[.int .i32 lo, .int .i32 hi'] 70)).cell? ⟨wr.heap.size, 1, none⟩ = some (.int .i32 hi') := by simp
      have hne := fun k e => (own_block_lt hown k e).2
      rcases List.eq_nil_or_concat out with rfl | ⟨pre, z, rfl⟩
      · have HJ := Lib.hid (join_push [] (lo, hi') rfl HO.out.2.2.2 (by simp [hiOf]; omega))
        rw [List.length_nil] at hown hown1
        obtain ⟨A0, c0, hv0⟩ : ∃ A0 c0, u3 = .slice A0 0 c0 := by
          rcases hown1.2 with ⟨h, _⟩ | ⟨g', c', _, h, _⟩
          · exact ⟨_, _, h⟩
          · exact ⟨_, _, h⟩
        subst hv0
        go_wp2_with fail
        go_quiet (fail)
        have HD := Lib.hid (below_drewN hb3 nq)
        have f0' : ((wr.alloc (.cells #[.int .i32 lo, .int .i32 hi'] 70)).drewN nq).cell? ⟨wr.heap.size, 0, none⟩ = some (.int .i32 lo) := f0
        have f1' : ((wr.alloc (.cells #[.int .i32 lo, .int .i32 hi'] 70)).drewN nq).cell? ⟨wr.heap.size, 1, none⟩ = some (.int .i32 hi') := f1
        have how : ((wr.alloc (.cells #[.int .i32 lo, .int .i32 hi'] 70)).drewN nq).ownsRow w1.heap.size 70 2 (.slice A0 0 c0) 0 (cells2 []) := hown1
        generalize (wr.alloc (.cells #[.int .i32 lo, .int .i32 hi'] 70)).drewN nq = W at *
        generalize wr.heap.size = bx at *
        have hlt0 := own_block_lt how
        have how2 := how.alloc (.cells #[.int .i32 lo, .int .i32 hi'] 70)
        have hnews := news2 W 70 (.int .i32 lo) (.int .i32 hi') rfl rfl
        have hWs : w1.heap.size ≤ W.heap.size := HD.out.size
        clear f0 f1 how hb3
        go_wp2_with (at_builtin; refine wpList_append_own _ rfl _ _ 43 rfl w1.heap.size 70 i0 (.agg #[.int .i32 0, .int .i32 0]) 2 8 Try.underlying43 hi hz0 hz1 hz2 rfl (by decide) (.slice A0 0 c0) 0 (cells2 []) rfl how2 ⟨W.heap.size, 0, none⟩ 1 1 [.int .i32 lo, .int .i32 hi'] rfl rfl hnews ?c2 ?c3 ?c4 ?c5 ?_)
        case c2 => intro u hu; simp at hu; rcases hu with rfl | rfl <;> rfl
        case c3 => unfold maxLen; omega
        case c4 => omega
        case c5 => simp; omega
        intro v' w2 own3 hgrow _
        have hbz : Below w1.heap.size w1 w2 := (HD.out.alloc hWs _).grown hgrow (by simp; omega) (fun k e => (hlt0 k e).1)
        have HO3 := Lib.hid own3
        clear hnews how2 hgrow own3
        go_wp2
        go_roundw
        case rel => exact ⟨k + 1, by go_num, by omega, [] ++ [(lo, hi')], by rw [cells2_snoc, List.length_append]; exact HO3.out, HJ.out.1, fun r => by rw [HJ.out.2 r, HST.out r, HO.out.2.1 r], fun z hz y hy => by
            rcases List.mem_append.1 hz with hz | hz
            · exact HO.out.2.2.1 z hz y (mem_drop_succ HX.out hy)
            · rw [List.mem_singleton.1 hz]
              exact sorted_drop HS.out HX.out y hy, by simp, hbz⟩
        case measure => simp [RowKit.intOf]; omega
      · rw [List.concat_eq_append] at *
        rw [List.length_append, List.length_singleton] at hown hown1 hol
        obtain ⟨g', cap', rfl⟩ := ownsRow_succ hown
        have hzm := (may_iff _).1 (right_may (b := -1) HO.out.1 z (by simp)).1
        have hz1' := HO.out.2.2.1 z (by simp) _ (mem_drop_at HX.out)
        obtain ⟨zl, zh⟩ := z
        simp only at hzm hz1'
        obtain ⟨z1, z2, z3⟩ := hzm
        obtain ⟨d1, d2⟩ := cells2_get (pre ++ [(zl, zh)]) pre.length (zl, zh) (by simp)
        have t1 := (hown1.cellAt (pre.length * 2) (by omega)).trans d1
        have t2 := (hown1.cellAt (pre.length * 2 + 1) (by omega)).trans d2
        have HOW := Lib.hid hown1
        have HOL := Lib.hid hol
        have hgl := (own_block_lt hown1 g' rfl)
        clear d1 d2 hown hown1
        obtain ⟨m, hm⟩ : ∃ m, pre.length = m := ⟨_, rfl⟩
        rw [hm] at t1 t2 HOW HOL ⊢
        have HMM := Lib.hid hm
        have j0 : (0 : Int) < (m : Int) + 1 := by omega
        have j1 : (0 : Int) ≤ (m : Int) := by omega
        have hml : m ≤ 1000000 := by have := HOL.out; omega
        clear hm hol
        by_cases c : lo ≤ zh + 1
        · go_wp2_with fail
          go_quiet (fail)
          go_wp2_with fail
          have hb4 := below_drewN hb3 nq
          have f0' : ((wr.alloc (.cells #[.int .i32 lo, .int .i32 hi'] 70)).drewN nq).cell? ⟨wr.heap.size, 0, none⟩ = some (.int .i32 lo) := f0
          have f1' : ((wr.alloc (.cells #[.int .i32 lo, .int .i32 hi'] 70)).drewN nq).cell? ⟨wr.heap.size, 1, none⟩ = some (.int .i32 hi') := f1
          have t1' : ((wr.alloc (.cells #[.int .i32 lo, .int .i32 hi'] 70)).drewN nq).cell? ⟨g', m * 2, none⟩ = some (.int .i32 zl) := t1
          have t2' : ((wr.alloc (.cells #[.int .i32 lo, .int .i32 hi'] 70)).drewN nq).cell? ⟨g', m * 2 + 1, none⟩ = some (.int .i32 zh) := t2
          have how : ((wr.alloc (.cells #[.int .i32 lo, .int .i32 hi'] 70)).drewN nq).ownsRow w1.heap.size 70 2 (.slice (some ⟨g', 0, none⟩) (m + 1) cap') (m + 1) (cells2 (pre ++ [(zl, zh)])) := HOW.out
          have fz := how.frozenAt (m * 2 + 1)
          have hst := Lib.hid (how.stored (m * 2 + 1) (.int .i32 (max zh hi')))
          generalize (wr.alloc (.cells #[.int .i32 lo, .int .i32 hi'] 70)).drewN nq = W at *
          generalize wr.heap.size = bx at *
          have HB4 := Lib.hid hb4
          clear f0 f1 t1 t2 how HOW hb3 hb4
          go_region
          have hb5 := (HB4.out.grown hst.out.2 HB4.out.size (fun k e => by injection e with e; omega)).drew
          have HO3 := Lib.hid (show ((W.setCell ⟨g', m * 2 + 1, none⟩ (.int .i32 (max zh hi'))).drew).ownsRow w1.heap.size 70 2 (.slice (some ⟨g', 0, none⟩) (m + 1) cap') (m + 1) (cells2 (pre ++ [(zl, max zh hi')])) from by
            have h := hst.out.1
            rw [← HMM.out, cells2_set, HMM.out] at h
            exact h)
          have HJ := Lib.hid (join_merge pre (zl, zh) (lo, hi') HO.out.1 HO.out.2.2.2 hz1' c)
          generalize (W.setCell ⟨g', m * 2 + 1, none⟩ (.int .i32 (max zh hi'))).drew = W2 at *
          go_wp2
          go_roundw
          case rel => exact ⟨k + 1, by go_num, by omega, pre ++ [(zl, max zh hi')], by rw [List.length_append, HMM.out]; exact HO3.out, HJ.out.1, fun r => by rw [HJ.out.2 r, HST.out r, HO.out.2.1 r], fun z hz y hy => by
              rcases List.mem_append.1 hz with hz | hz
              · exact HO.out.2.2.1 z (List.mem_append_left _ hz) y (mem_drop_succ HX.out hy)
              · rw [List.mem_singleton.1 hz]
                exact HO.out.2.2.1 (zl, zh) (by simp) y (mem_drop_succ HX.out hy), by simp [HMM.out]; have := HOL.out; omega, hb5⟩
          case measure => simp [RowKit.intOf]; omega
        · have HJ := Lib.hid (join_push (pre ++ [(zl, zh)]) (lo, hi') HO.out.1 HO.out.2.2.2 (by rw [hiOf_snoc]; simp only; omega))
          have d : decide (lo ≤ zh + 1) = false := by simpa using c
          go_wp2_with fail
          go_quiet (fail)
          have HD := Lib.hid (below_drewN hb3 nq)
          have f0' : ((wr.alloc (.cells #[.int .i32 lo, .int .i32 hi'] 70)).drewN nq).cell? ⟨wr.heap.size, 0, none⟩ = some (.int .i32 lo) := f0
          have f1' : ((wr.alloc (.cells #[.int .i32 lo, .int .i32 hi'] 70)).drewN nq).cell? ⟨wr.heap.size, 1, none⟩ = some (.int .i32 hi') := f1
          have how : ((wr.alloc (.cells #[.int .i32 lo, .int .i32 hi'] 70)).drewN nq).ownsRow w1.heap.size 70 2 (.slice (some ⟨g', 0, none⟩) (m + 1) cap') (m + 1) (cells2 (pre ++ [(zl, zh)])) := HOW.out
          generalize (wr.alloc (.cells #[.int .i32 lo, .int .i32 hi'] 70)).drewN nq = W at *
          generalize wr.heap.size = bx at *
          have hlt0 := own_block_lt how
          have how2 := how.alloc (.cells #[.int .i32 lo, .int .i32 hi'] 70)
          have hnews := news2 W 70 (.int .i32 lo) (.int .i32 hi') rfl rfl
          have hWs : w1.heap.size ≤ W.heap.size := HD.out.size
          clear f0 f1 t1 t2 how HOW hb3
          go_wp2_with (at_builtin; refine wpList_append_own _ rfl _ _ 43 rfl w1.heap.size 70 i0 (.agg #[.int .i32 0, .int .i32 0]) 2 8 Try.underlying43 hi hz0 hz1 hz2 rfl (by decide) (.slice (some ⟨g', 0, none⟩) (m + 1) cap') (m + 1) (cells2 (pre ++ [(zl, zh)])) rfl how2 ⟨W.heap.size, 0, none⟩ 1 1 [.int .i32 lo, .int .i32 hi'] rfl rfl hnews ?c2 ?c3 ?c4 ?c5 ?_)
          case c2 => intro u hu; simp at hu; rcases hu with rfl | rfl <;> rfl
          case c3 => unfold maxLen; omega
          case c4 => omega
          case c5 => simp; omega
          intro v' w2 own3 hgrow _
          have hbz : Below w1.heap.size w1 w2 := (HD.out.alloc hWs _).grown hgrow (by simp; omega) (fun k e => (hlt0 k e).1)
          have HO3 := Lib.hid own3
          clear hnews how2 hgrow own3
          go_wp2
          go_roundw
          case rel => exact ⟨k + 1, by go_num, by omega, (pre ++ [(zl, zh)]) ++ [(lo, hi')], by rw [cells2_snoc, List.length_append]; rw [List.length_append, HMM.out]; exact HO3.out, HJ.out.1, fun r => by rw [HJ.out.2 r, HST.out r, HO.out.2.1 r], fun z hz y hy => by
              rcases List.mem_append.1 hz with hz | hz
              · exact HO.out.2.2.1 z hz y (mem_drop_succ HX.out hy)
              · rw [List.mem_singleton.1 hz]
                exact sorted_drop HS.out HX.out y hy, by simp [HMM.out]; have := HOL.out; omega, hbz⟩
          case measure => simp [RowKit.intOf]; omega
    · have hkn : k = n := by omega
      have e : ys.take k = ys := by rw [hkn, ← HY.out, List.take_length]
      rw [e] at hho
      have HH := Lib.hid (fun r => (hho r).trans (HYR.out r))
      have HO := Lib.hid hown
      subst hkn
      clear e hho hown
      go_wp2
      go_ret
      exact ⟨out, hro, HH.out, hol, u3, rfl, own_mono HO.out (Nat.le_trans hB hb.size), hb.trans (hb2.mono (Nat.le_trans hB hb.size))⟩
end Go.Proofs.Ytphhdkffnboboaa

namespace Go.Proofs.Ytphhdkffnboboaa
open Go.RowKit Go.Shelf
open Go.Lib

/-- What a slice's address looks like. -/
def Fm (A : Option Addr) (cap : Nat) : Prop := (A = none ∧ cap = 0) ∨ ∃ b o, A = some ⟨b, o, none⟩
/-- A slice without an array has no room. -/
def Fw (A : Option Addr) (cap : Nat) : Prop := A = none → cap = 0
theorem Fm.w {A : Option Addr} {cap : Nat} (h : Fm A cap) : Fw A cap := fun e => by
  rcases h with ⟨_, h⟩ | ⟨b, o, h⟩
  · exact h
  · rw [h] at e; cases e
theorem ownsRow_Fm {w : World} {B T : Nat} {A : Option Addr} {n cap : Nat} {xs : List Value} {n' : Nat} {sz : Nat} (h : w.ownsRow B T sz (.slice A n cap) n' xs) : Fm A cap := by
  rcases h.2 with ⟨h1, _⟩ | ⟨g, c, _, h1, _⟩
  · injection h1 with h1 h2 h3
    exact .inl ⟨h1, h3⟩
  · injection h1 with h1 h2 h3
    exact .inr ⟨g, 0, h1⟩

theorem append_types {P : Program} (t u ty : TypeId) {e e' : TypeId} (s x : Value) (ht : P.underlying t = some (.slice e)) (hu : P.underlying u = some (.slice e')) (w : World) :
    (Builtin.append_ #[t, u] ty #[s, x]).run P w = (Builtin.append_ #[t, t] ty #[s, x]).run P w := by
  have r1 := fun w => run_underlying (P := P) (w := w) ht
  have r2 := fun w => run_underlying (P := P) (w := w) hu
  cases s <;> simp [Builtin.append_, Sem.run_bind, r1, r2, Result.andThen]

theorem RgAt.cells {w : World} {b o : Nat} {xs : List Rng} (h : RgAt w b o xs) : ∀ j u, (cells2 xs)[j]? = some u → w.cell? ⟨b, o + j, none⟩ = some u := by
  intro j u hu
  have hj : j < xs.length * 2 := by rw [← cells2_length]; exact (List.getElem?_eq_some_iff.1 hu).1
  obtain ⟨x, hx⟩ : ∃ x, xs[j / 2]? = some x := ⟨xs[j / 2]'(by omega), List.getElem?_eq_getElem _⟩
  obtain ⟨h1, h2⟩ := h _ x hx
  obtain ⟨c1, c2⟩ := cells2_get xs _ x hx
  rcases Nat.mod_two_eq_zero_or_one j with c | c
  · have e : j / 2 * 2 = j := by omega
    rw [e] at h1 c1
    rw [c1] at hu
    rw [h1, ← hu]
  · have e : j / 2 * 2 + 1 = j := by omega
    rw [Nat.add_assoc, e] at h2
    rw [e] at c2
    rw [c2] at hu
    rw [h2, ← hu]

theorem wpList_append_rg {P : Program} {w : World} {ops : Array Oper} {rest : List Oper} {o : Oper} {a : Act} {Q : Exit → Act → World → Prop} (hgd : o.guard = none) (s x : Operand) (t u : TypeId)
    (ho : o.op = .call { callee := .builtin .append, args := #[s, x], argTypes := #[t, u] })
    (base : Nat) (e : TypeId) (i : TypeInfo) (z : Value) (ht : P.underlying t = some (.slice e)) (hu : P.underlying u = some (.slice e)) (hi : P.info? e = some i) (hz : i.zero = some z)
    (hsize : i.size = 2) (hby : i.bytes = 8) (hzs : z.cells.size = 2)
    (v : Value) (xs : List Rng) (hs : a.eval s = v) (hown : w.ownsRow base e 2 v xs.length (cells2 xs))
    (A : Option Addr) (c : Nat) (ys : List Rng) (hx : a.eval x = .slice A ys.length c) (hR : RS w w.heap.size A c ys) (hF : Fw A c)
    (h63 : xs.length + ys.length ≤ 10000000) (hbase : base ≤ w.heap.size)
    (h : ∀ v' w', w'.ownsRow base e 2 v' (xs ++ ys).length (cells2 (xs ++ ys)) → Below base w w' → wpList P ops Q rest (a.put o.dst v') w') : wpList P ops Q (o :: rest) a w := by
  refine wpList_plain hgd fun K hK => ?_
  have key : ∃ v' w', (Builtin.append_ #[t, t] o.type #[v, .slice A ys.length c]).run P w = .ok v' w' ∧ w'.ownsRow base e 2 v' (xs ++ ys).length (cells2 (xs ++ ys)) ∧ Below base w w' := by
    rcases A with _ | ad
    · obtain rfl := hF rfl
      have h0 : ys = [] := List.length_eq_zero_iff.1 (by have := hR.1; omega)
      subst h0
      refine ⟨v, w, run_append_owned_none (P := P) (w := w) base t o.type e i 2 ht hi v _ _ hown, by simpa using hown, Below.refl _ _⟩
    · have hc : ∀ j u, (cells2 ys)[j]? = some u → w.cell? (ad.add j) = some u := fun j u hj => by
        have hn : ys ≠ [] := by rintro rfl; simp [cells2] at hj
        obtain ⟨b', o', e', _, hg⟩ := hR.2.2.2 hn
        injection e' with e'
        rw [e', Addr.add_lit]
        exact hg.cells j u hj
      obtain ⟨v', w', h1, h2, h3, h4, _⟩ := run_append_own_at (P := P) w base t o.type e i z 2 8 ht hi hz hsize hby hzs (by omega) v xs.length (cells2 xs) hown ad ys.length c (cells2 ys) (cells2_length ys) hc (cells2_one ys) (by unfold maxLen; omega) (by omega) hbase
      refine ⟨v', w', h1, ?_, (Below.refl _ w).grown h3 hbase (fun k e' => (own_block_lt hown k e').1)⟩
      rw [List.length_append, cells2_append]
      exact h2
  obtain ⟨v', w', hrun, h2, h3⟩ := key
  rw [← append_types t u o.type v _ ht hu w] at hrun
  unfold Oper.wp
  simp [execOp, ho, resolve, invoke, builtin, hs, hx, hrun, Result.andThen]
  exact hK _ _ (h v' w' h2 h3)

set_option maxRecDepth 100000 in
theorem clone_any (A : Option Addr) (cap : Nat) (xs : List Rng) (w : World) (h : RS w w.heap.size A cap xs) (hF : Fm A cap) (hl : xs.length ≤ 1000000) :
    Calls Try.prog 81 #[.slice A xs.length cap] w (HoldsR w.heap.size 70 xs w) := by
  obtain ⟨i0, hi, hz0, hz1, hz2⟩ := info_parts Try.info70
  rcases hF with ⟨rfl, rfl⟩ | ⟨b, o, rfl⟩
  · have h0 : xs = [] := List.length_eq_zero_iff.1 (by have := h.1; omega)
    subst h0
    have c : Calls Try.prog 81 #[.slice none 0 0] w _ := AnyE.slices_Clone_nil Try.cloneL 0 0 w
    refine Calls.mono c ?_
    rintro e w' ⟨he, hw⟩
    rw [he, hw]
    exact ⟨_, rfl, World.ownsRow_nil _ _ _ _, Below.refl _ _⟩
  · have hc : ∀ j u, (cells2 xs)[j]? = some u → w.cell? ⟨b, o + j, none⟩ = some u := fun j u hj => by
      have hn : xs ≠ [] := by rintro rfl; simp [cells2] at hj
      obtain ⟨b', o', e', _, hg⟩ := h.2.2.2 hn
      injection e' with e'
      injection e' with e1 e2 e3
      rw [e1, e2]
      exact hg.cells j u hj
    have c : Calls Try.prog 81 #[.slice (some ⟨b, o, none⟩) xs.length cap] w _ := AnyE.slices_Clone Try.cloneL i0 (.agg #[.int .i32 0, .int .i32 0]) 2 8 hi hz0 hz1 hz2 rfl (by omega) Try.sizeOf70 b o xs.length cap (cells2 xs) w (cells2_length xs) (by unfold maxLen; omega) (by omega) hc (cells2_one xs)
    refine Calls.mono c ?_
    rintro e w' ⟨v, rfl, hown, _, hb⟩
    exact ⟨v, rfl, hown, hb⟩

/-- What join hands back: the right list of the numbers. -/
def SetOf (B : Nat) (f : Int → Bool) (w : World) (e : Ending) (w' : World) : Prop := ∃ out : List Rng, right out = true ∧ (∀ r, hasR out r = f r) ∧ HoldsR B 70 out w e w'

theorem join_any (B : Nat) (v : Value) (xs : List Rng) (w : World) (hown : w.ownsRow B 70 2 v xs.length (cells2 xs)) (hB : B ≤ w.heap.size) (hl : xs.length ≤ 1000000) (hmay : ∀ x ∈ xs, may x = true) :
    Calls Try.prog 80 #[v] w fun e w' => ∃ out : List Rng, right out = true ∧ (∀ r, hasR out r = hasR xs r) ∧ out.length ≤ xs.length ∧ HoldsR B 70 out w e w' := by
  rcases hown.2 with ⟨rfl, h0⟩ | ⟨g, cap, _, rfl, _⟩
  · have hx : xs = [] := List.length_eq_zero_iff.1 h0
    subst hx
    have C : ∀ fv W, Calls Try.prog 83 #[.slice none 0 0, fv] W fun e w' => e = .returned (.tuple #[]) ∧ w' = W := fun fv W => AnyF.slices_SortFunc_none Try.sortL none 0 fv W
    have C := Lib.hid C
    clear hown hmay h0
    go_enter Try.func80, Try.ntmps80
    go_wp2_with fail
    refine (C.out _ _).mono ?_
    rintro e w1 ⟨rfl, rfl⟩
    go_wp2
    go_loopw [3, 11] (fun v i wr => v = .slice none 0 0 ∧ i = .int .i64 0 ∧ wr = w1) (fun _ _ _ => 0)
    case atStart => exact ⟨rfl, rfl, rfl⟩
    case round =>
      obtain ⟨rfl, rfl, rfl⟩ := hrel
      go_wp2
      go_ret
      exact ⟨[], rfl, fun _ => rfl, Nat.le_refl _, _, rfl, World.ownsRow_nil _ _ _ _, Below.refl _ _⟩
  · exact join_loop B g cap xs [] w w hown hB hl hmay

/-- What Make hands back. -/
def MakePost (xs : List Rng) (w : World) (e : Ending) (w' : World) : Prop :=
  Below w.heap.size w w' ∧ (if 1000 < xs.length then e = .returned (.tuple #[.slice none 0 0, .int .i64 3])
    else if xs.all may then ∃ v out, e = .returned (.tuple #[v, .int .i64 0]) ∧ right out = true ∧ (∀ r, hasR out r = hasR xs r) ∧ out.length ≤ xs.length ∧ w'.ownsRow w.heap.size 70 2 v out.length (cells2 out)
    else e = .returned (.tuple #[.slice none 0 0, .int .i64 1]))

theorem all_step (xs : List Rng) (k : Nat) (x : Rng) (h : xs[k]? = some x) : (xs.take (k + 1)).all may = ((xs.take k).all may && may x) := by
  rw [List.take_add_one, h]
  simp
theorem all_false (xs : List Rng) (k : Nat) (x : Rng) (h : xs[k]? = some x) (hx : may x = false) : xs.all may = false := by
  rw [List.all_eq_false]
  exact ⟨x, List.mem_of_getElem? h, by simp [hx]⟩

set_option maxHeartbeats 4000000 in
set_option maxRecDepth 100000 in
theorem make_any (A : Option Addr) (cap : Nat) (xs : List Rng) (w : World) (h : RS w w.heap.size A cap xs) (hF : Fm A cap) (hl : xs.length ≤ 1000000) :
    Calls Try.prog 75 #[.slice A xs.length cap] w (MakePost xs w) := by
  have H := Lib.hid h
  have HF := Lib.hid hF
  have C1 := Lib.hid inB_any
  have HC := Lib.hid (fun W (hb : Below w.heap.size w W) => clone_any A cap xs W ((h.below hb).mono hb.size) hF hl)
  obtain ⟨n, hn⟩ : ∃ n, xs.length = n := ⟨_, rfl⟩
  have HN := Lib.hid hn
  rw [hn] at hl HC ⊢
  clear h hn hF
  by_cases c : 1000 < n
  · have d : (1000 : Int) < (n : Int) := by omega
    go_enter Try.func75, Try.ntmps75
    go_wp2
    go_ret2
    exact ⟨Below.refl _ _, by rw [HN.out, if_pos c]; rfl⟩
  · have d : decide ((1000 : Int) < (n : Int)) = false := by simp; omega
    go_enter Try.func75, Try.ntmps75
    go_wp2
    go_loopw [11] (fun i wr => ∃ k : Nat, i = .int .i64 k ∧ k ≤ n ∧ (xs.take k).all may = true ∧ Below w.heap.size w wr) (fun i _ => n - (RowKit.intOf i).toNat)
    case atStart => exact ⟨0, rfl, Nat.zero_le _, rfl, Below.refl _ _⟩
    case round =>
      obtain ⟨k, rfl, hk, hr, hb⟩ := hrel
      have HR := Lib.hid hr
      clear hr
      by_cases hlt : k < n
      · obtain ⟨x, hx⟩ : ∃ x, xs[k]? = some x := ⟨xs[k]'(by have := HN.out; omega), List.getElem?_eq_getElem _⟩
        obtain ⟨b, o, rfl, hbl, hRg⟩ := H.out.2.2.2 (by intro e; rw [e] at hx; simp at hx)
        obtain ⟨q1, q2⟩ := (hRg.below hbl hb) k x hx
        have hix := H.out.i32 hx
        have HS := Lib.hid (all_step xs k x hx)
        have HA := Lib.hid (all_false xs k x hx)
        clear hRg hx
        obtain ⟨lo, hi'⟩ := x
        have i1 : (k : Int) < (n : Int) := by omega
        obtain ⟨M, hM⟩ : ∃ M, may (lo, hi') = M := ⟨_, rfl⟩
        have C2 := Lib.hid (C1.out lo hi' hix)
        rw [hM] at C2
        have hb1 : Below w.heap.size w (wr.alloc (.cells #[.int .i32 lo, .int .i32 hi'] 70)) := hb.alloc hb.size _
        go_wp2_with fail
        refine (C2.out _).mono ?_
        rintro e w1 ⟨rfl, hb2⟩
        have hbz := hb1.trans (hb2.mono hb1.size)
        clear hb1 hb2
        cases M
        · have HA2 := Lib.hid (HA.out hM)
          go_wp2
          go_ret2
          exact ⟨hbz, by rw [HN.out, if_neg c, HA2.out]; rfl⟩
        · go_wp2
          go_roundw
          case rel => exact ⟨k + 1, by go_num, by omega, by rw [HS.out, HR.out, hM]; rfl, hbz⟩
          case measure => simp [RowKit.intOf]; omega
      · have hkn : k = n := by omega
        have HA := Lib.hid (show xs.all may = true by have h := HR.out; rwa [hkn, ← HN.out, List.take_length] at h)
        subst hkn
        go_wp2_with fail
        refine (HC.out _ hb).mono ?_
        rintro e w2 ⟨v, rfl, hown, hb2⟩
        have hJ := join_any wr.heap.size v xs w2 hown hb2.size (by have := HN.out; omega) (fun x hx => List.all_eq_true.1 HA.out x hx)
        have HJ := Lib.hid hJ
        have hbz := hb.trans (hb2.mono hb.size)
        clear hown hJ hb2
        go_wp2_with fail
        refine HJ.out.mono ?_
        rintro e w3 ⟨out, hro, hho, hlo, v', rfl, hown', hb3⟩
        have HO := Lib.hid (And.intro hro (And.intro hho (And.intro hlo (own_mono hown' hb.size))))
        have hbq := hbz.trans (hb3.mono hb.size)
        clear hro hho hlo hown' hb3 hbz
        go_wp2
        go_ret2
        exact ⟨hbq, by rw [HN.out, if_neg c, if_pos HA.out]; exact ⟨v', out, rfl, HO.out.1, HO.out.2.1, by rw [← HN.out]; exact HO.out.2.2.1, HO.out.2.2.2⟩⟩
end Go.Proofs.Ytphhdkffnboboaa

namespace Go.Proofs
open Go.Shelf
def Try.containsL_ren : Go.Shelf.Ren := ⟨fun | 8 => 69 | 6 => 77 | n => n, fun | 22 => 43 | 23 => 70 | 25 => 110 | 4 => 4 | 3 => 3 | 0 => 0 | n => n, fun | n => n⟩
theorem Try.containsL : Go.Proofs.SlLaysH0.n8 Try.prog Try.containsL_ren := {
  mixed := by kernel_rfl
  f6 := ⟨Try.f77.name, by decide, Try.func77.trans (congrArg some (by kernel_rfl))⟩
  f8 := ⟨Try.f69.name, by decide, Try.func69.trans (congrArg some (by kernel_rfl))⟩
  t0 := Try.underlying0
  a0 := Try.isAgg0
  z0 := Try.sizeOf0
  v0 := Try.zeroValue0
  t3 := Try.underlying3
  a3 := Try.isAgg3
  z3 := Try.sizeOf3
  v3 := Try.zeroValue3
  t4 := Try.underlying4
  a4 := Try.isAgg4
  z4 := Try.sizeOf4
  v4 := Try.zeroValue4
  t22 := Try.underlying43
  a22 := Try.isAgg43
  z22 := Try.sizeOf43
  v22 := Try.zeroValue43
  t25 := Try.underlying110
  a25 := Try.isAgg110
  z25 := Try.sizeOf110
  v25 := Try.zeroValue110 }
end Go.Proofs

namespace Go.Proofs.Ytphhdkffnboboaa
open Go.RowKit Go.Shelf
open Go.Lib

theorem countR_step (xs : List Rng) (k : Nat) (x : Rng) (h : xs[k]? = some x) : countR (xs.take (k + 1)) = countR (xs.take k) + (x.2 - x.1 + 1) := by
  rw [List.take_add_one, h]
  exact countR_snoc _ _

set_option maxHeartbeats 2000000 in
theorem count_any' (A : Option Addr) (cap : Nat) (xs : List Rng) (w : World) (h : RS w w.heap.size A cap xs) :
    Calls Try.prog 37 #[.slice A xs.length cap] w fun e w' => e = .returned (.int .i64 (countR (known xs))) ∧ Below w.heap.size w w' := by
  have H := Lib.hid h
  have C := valid_any A cap xs w h
  have hm : xs.length ≤ maxLen := by have := h.1; have := h.2.1; omega
  unfold maxLen at hm
  obtain ⟨n, hn⟩ : ∃ n, xs.length = n := ⟨_, rfl⟩
  have HN := Lib.hid hn
  rw [hn] at hm C ⊢
  clear h hn
  by_cases hV : right xs = true
  · rw [if_pos hV] at C
    rw [known_of hV]
    have HV := Lib.hid hV
    have C := Lib.hid C
    clear hV
    have hcb := countR_bound HV.out
    have HCT := Lib.hid fun k => countR_bound (rightFrom_take HV.out k)
    clear hcb
    go_enter Try.func37, Try.ntmps37
    go_wp2_with fail
    refine C.out.mono ?_
    rintro e w1 ⟨rfl, hb⟩
    go_wp2
    go_loopw [3, 9] (fun c i wr => ∃ k : Nat, i = .int .i64 k ∧ c = .int .i64 (countR (xs.take k)) ∧ k ≤ n ∧ Below w.heap.size w wr) (fun _ i _ => n - (RowKit.intOf i).toNat)
    case atStart => exact ⟨0, rfl, rfl, Nat.zero_le _, hb⟩
    case round =>
      obtain ⟨k, rfl, rfl, hk, hb2⟩ := hrel
      by_cases hlt : k < n
      · obtain ⟨x, hx⟩ : ∃ x, xs[k]? = some x := ⟨xs[k]'(by have := HN.out; omega), List.getElem?_eq_getElem _⟩
        obtain ⟨b, o, rfl, hbl, hRg⟩ := H.out.2.2.2 (by intro e; rw [e] at hx; simp at hx)
        obtain ⟨q1, q2⟩ := (hRg.below hbl hb2) k x hx
        have hmy := (may_iff _).1 (right_may (b := -1) HV.out x (List.mem_of_getElem? hx)).1
        have HS := Lib.hid (countR_step xs k x hx)
        have hc := HCT.out k
        have hlk : ((xs.take k).length : Int) = k := by rw [List.length_take, HN.out]; omega
        rw [hlk] at hc
        clear hRg hx hlk
        obtain ⟨lo, hi⟩ := x
        obtain ⟨m1, m2, m3⟩ := hmy
        simp only at m1 m2 m3
        have i1 : (k : Int) < (n : Int) := by omega
        have i0 : (0 : Int) ≤ (k : Int) := by omega
        generalize countR (xs.take k) = c at *
        obtain ⟨c1, c2⟩ := hc
        go_wp2_with fail
        have hb3 : Below w.heap.size w (wr.alloc (.cells #[.int .i32 lo, .int .i32 hi] 70)) := hb2.alloc hb2.size _
        go_wp2
        go_roundw
        case rel => exact ⟨k + 1, by go_num, by rw [HS.out], by omega, hb3⟩
        case measure => simp [RowKit.intOf]; omega
      · have hkn : k = n := by omega
        have e : xs.take k = xs := by rw [hkn, ← HN.out, List.take_length]
        rw [e]
        subst hkn
        clear e
        go_wp2
        go_ret
        exact ⟨rfl, hb2⟩
  · rw [if_neg hV] at C
    have e : known xs = [] := by unfold known; rw [if_neg hV]
    rw [e]
    have C := Lib.hid C
    clear hV e
    go_enter Try.func37, Try.ntmps37
    go_wp2_with fail
    refine C.out.mono ?_
    rintro e w1 ⟨rfl, hb⟩
    go_wp2
    go_loopw [3, 9] (fun c i wr => i = .int .i64 0 ∧ c = .int .i64 0 ∧ wr = w1) (fun _ _ _ => 0)
    case atStart => exact ⟨rfl, rfl, rfl⟩
    case round =>
      obtain ⟨rfl, rfl, rfl⟩ := hrel
      go_wp2
      go_ret
      exact ⟨rfl, hb⟩

/-- ranges.Has's own test of one range. -/
theorem pred70 (r : Int) (B : Nat) (w : World) (hB : B < w.heap.size) (hcell : w.cell? ⟨B, 0, none⟩ = some (.int .i32 r)) :
    PredBelow Try.prog 70 #[.pointer (some ⟨B, 0, none⟩)] (fun x : Rng => .agg (cell2 x).toArray) (fun x => decide (x.1 ≤ r) && decide (r ≤ x.2)) w := fun W x hb => by
  have hc : W.cell? ⟨B, 0, none⟩ = some (.int .i32 r) := (hb.cell (p := ⟨B, 0, none⟩) hB).trans hcell
  have hBW : B < W.heap.size := Nat.lt_of_lt_of_le hB hb.size
  have hne : B ≠ W.heap.size := by omega
  obtain ⟨lo, hi⟩ := x
  show Calls Try.prog 70 #[.agg #[.int .i32 lo, .int .i32 hi], .pointer (some ⟨B, 0, none⟩)] W _
  have hbz := hb.alloc hb.size (.cells #[.int .i32 lo, .int .i32 hi] 70)
  have HB := Lib.hid hbz
  clear hbz hb
  by_cases c1 : lo ≤ r
  · by_cases c2 : r ≤ hi
    · go_enter Try.func70, Try.ntmps70
      go_wp2
      go_ret
      exact ⟨by simp [c1, c2], HB.out⟩
    · have d : decide (r ≤ hi) = false := by simpa using c2
      go_enter Try.func70, Try.ntmps70
      go_wp2
      go_ret
      exact ⟨by simp, HB.out⟩
  · have d : decide (lo ≤ r) = false := by simpa using c1
    go_enter Try.func70, Try.ntmps70
    go_wp2
    go_ret
    exact ⟨by simp, HB.out⟩

theorem index_empty (A : Option Addr) (cap : Nat) (fv : Value) (w : World) : Calls Try.prog 77 #[.slice A 0 cap, fv] w fun e w' => e = .returned (.int .i64 (-1)) ∧ w' = w := by
  go_enter Try.func77, Try.ntmps77
  go_wp2
  go_loopw [8] (fun i wr => i = .int .i64 0 ∧ wr = w) (fun _ _ => 0)
  case atStart => exact ⟨rfl, rfl⟩
  case round =>
    obtain ⟨rfl, rfl⟩ := hrel
    go_wp2
    go_ret
    exact ⟨rfl, rfl⟩
theorem contains_empty (A : Option Addr) (cap : Nat) (fv : Value) (w : World) : Calls Try.prog 69 #[.slice A 0 cap, fv] w fun e w' => e = .returned (.bool false) ∧ w' = w := by
  have C := Lib.hid (index_empty A cap fv w)
  go_enter Try.func69, Try.ntmps69
  go_wp2_with fail
  refine C.out.mono ?_
  rintro e w1 ⟨rfl, rfl⟩
  go_wp2
  go_ret
  exact ⟨rfl, rfl⟩

theorem zs_get (xs : List Rng) (j : Nat) (hj : j < xs.length) : xs[j]? = some xs[j]! := by
  rw [List.getElem?_eq_getElem hj, List.getElem!_eq_getElem?_getD, List.getElem?_eq_getElem hj]
  rfl

set_option maxHeartbeats 2000000 in
theorem has_any (A : Option Addr) (cap : Nat) (xs : List Rng) (r : Int) (_hr0 : -2147483648 ≤ r) (_hr1 : r ≤ 2147483647) (w : World) (h : RS w w.heap.size A cap xs) :
    Calls Try.prog 39 #[.slice A xs.length cap, .int .i32 r] w fun e w' => e = .returned (.bool (hasR (known xs) r)) ∧ Below w.heap.size w w' := by
  have eg : ∀ args w, (callFunc 70 args).run Try.prog w = .ok (.enter 70 args) w := enters_of Try.func70 (by kernel_rfl) rfl
  have hb0 : Below w.heap.size w (w.alloc (.cells #[.int .i32 r] 21)) := below_new _ _
  have C := valid_any A cap xs (w.alloc (.cells #[.int .i32 r] 21)) ((h.below hb0).mono (by simp))
  have hm : xs.length ≤ maxLen := by have := h.1; have := h.2.1; omega
  unfold maxLen at hm
  by_cases hV : right xs = true ∧ xs ≠ []
  · obtain ⟨b, o, rfl, hbl, hRg⟩ := h.2.2.2 hV.2
    rw [if_pos hV.1] at C
    have D : ∀ W, Below w.heap.size w W → w.heap.size < W.heap.size → W.cell? ⟨w.heap.size, 0, none⟩ = some (.int .i32 r) → Calls Try.prog 69 #[.slice (some ⟨b, o, none⟩) xs.length cap, .func (.func 70) #[] #[.pointer (some ⟨w.heap.size, 0, none⟩)]] W fun e w' => e = .returned (.bool (hasR (known xs) r)) ∧ Below W.heap.size W w' := fun W hB hS hc => by
      have hcon := AnyQ.slices_ContainsFunc Try.containsL 2 Try.isAgg70 Try.sizeOf70 cell2 (fun _ => rfl) (fun x : Rng => decide (x.1 ≤ r) && decide (r ≤ x.2)) 70 #[.pointer (some ⟨w.heap.size, 0, none⟩)] eg b o xs.length cap xs W
        (pred70 r w.heap.size W hS hc) (Nat.le_refl _) (by omega) (by have := hB.size; omega) (fun j hj i v hi => by
          obtain ⟨h1, h2⟩ := (hRg.below hbl hB) j _ (zs_get xs j hj)
          generalize xs[j]! = y at hi h1 h2
          match i, hi with
          | 0, hi => simp [cell2] at hi; rw [← hi]; exact h1
          | 1, hi => simp [cell2] at hi; rw [← hi]; exact h2
          | i + 2, hi => simp [cell2] at hi)
      rw [List.take_length] at hcon
      rw [known_of hV.1]
      exact hcon
    have C := Lib.hid C
    have D := Lib.hid D
    have H0 := Lib.hid hb0
    generalize hasR (known xs) r = V at D ⊢
    generalize xs.length = n at *
    clear h hRg hV hb0
    go_enter Try.func39, Try.ntmps39
    go_wp2_with fail
    refine C.out.mono ?_
    rintro e w1 ⟨rfl, hb⟩
    have hs := hb.size
    rw [World.size_alloc] at hs
    have hbz := H0.out.trans (hb.mono (by simp))
    have hc : w1.cell? ⟨w.heap.size, 0, none⟩ = some (.int .i32 r) := (hb.cell (p := ⟨w.heap.size, 0, none⟩) (by simp)).trans (by simp)
    have D2 := Lib.hid (D.out w1 hbz (by omega) hc)
    clear hc hb
    go_wp2_with fail
    refine D2.out.mono ?_
    rintro e w2 ⟨rfl, hb2⟩
    have hbq := hbz.trans (hb2.mono hbz.size)
    go_wp2
    go_ret
    exact ⟨rfl, hbq⟩
  · have e : known xs = [] := by
      by_cases c : right xs = true
      · have : xs = [] := by
          by_cases c2 : xs = []
          · exact c2
          · exact absurd ⟨c, c2⟩ hV
        rw [this]; rfl
      · unfold known; rw [if_neg c]
    have C' : ∃ A' c', Calls Try.prog 53 #[.slice A xs.length cap] (w.alloc (.cells #[.int .i32 r] 21)) fun e w' => e = .returned (.slice A' 0 c') ∧ Below (w.alloc (.cells #[.int .i32 r] 21)).heap.size (w.alloc (.cells #[.int .i32 r] 21)) w' := by
      by_cases c : right xs = true
      · have hx : xs = [] := by
          by_cases c2 : xs = []
          · exact c2
          · exact absurd ⟨c, c2⟩ hV
        subst hx
        rw [if_pos c] at C
        exact ⟨A, cap, C⟩
      · rw [if_neg c] at C
        exact ⟨none, 0, C⟩
    obtain ⟨A', c', C'⟩ := C'
    rw [e, hasR_nil]
    have C' := Lib.hid C'
    have H0 := Lib.hid hb0
    generalize xs.length = n at *
    clear h e hV C hb0
    go_enter Try.func39, Try.ntmps39
    go_wp2_with fail
    refine C'.out.mono ?_
    rintro e w1 ⟨rfl, hb⟩
    have hbz := H0.out.trans (hb.mono (by simp))
    go_wp2_with fail
    refine (contains_empty A' c' _ w1).mono ?_
    rintro e w2 ⟨rfl, rfl⟩
    go_wp2
    go_ret
    exact ⟨rfl, hbz⟩
end Go.Proofs.Ytphhdkffnboboaa

namespace Go.Proofs.Ytphhdkffnboboaa
open Go.RowKit Go.Shelf
open Go.Lib

/-- A list as it is, or none, if it is not right. -/
def KnownPost (xs : List Rng) (w : World) (e : Ending) (w' : World) : Prop :=
  ∃ A c, e = .returned (.slice A (known xs).length c) ∧ RS w' w.heap.size A c (known xs) ∧ Fm A c ∧ Below w.heap.size w w'
theorem RS_nil (w : World) (B : Nat) : RS w B none 0 [] := ⟨Nat.le_refl _, by unfold maxLen; omega, fun x hx => by simp at hx, fun h => absurd rfl h⟩
theorem valid_known (A : Option Addr) (cap : Nat) (xs : List Rng) (w : World) (h : RS w w.heap.size A cap xs) (hF : Fm A cap) : Calls Try.prog 53 #[.slice A xs.length cap] w (KnownPost xs w) := by
  refine (valid_any A cap xs w h).mono ?_
  rintro e w' ⟨rfl, hb⟩
  by_cases c : right xs = true
  · rw [if_pos c]
    refine ⟨A, cap, by rw [known_of c], by rw [known_of c]; exact h.below hb, hF, hb⟩
  · rw [if_neg c]
    have e : known xs = [] := by unfold known; rw [if_neg c]
    exact ⟨none, 0, by rw [e]; rfl, by rw [e]; exact RS_nil _ _, .inl ⟨rfl, rfl⟩, hb⟩
theorem has_lt {b : Int} {xs : List Rng} (h : rightFrom b xs = true) {r : Int} (hr : hasR xs r = true) : r < hiOf b xs := by
  induction xs generalizing b with
  | nil => simp [hasR] at hr
  | cons x xs ih =>
    simp only [rightFrom, Bool.and_eq_true, decide_eq_true_eq] at h
    rcases (hasR_cons_iff x xs r).1 hr with h1 | h1
    · show r < hiOf (x.2 + 1) xs
      have : ∀ (ys : List Rng) (c : Int), rightFrom c ys = true → c ≤ hiOf c ys := by
        intro ys
        induction ys with
        | nil => intro c _; exact Int.le_refl c
        | cons y ys ih2 =>
          intro c hc
          simp only [rightFrom, Bool.and_eq_true, decide_eq_true_eq, may_iff] at hc
          have := ih2 _ hc.2
          show c ≤ hiOf (y.2 + 1) ys
          omega
      have := this xs (x.2 + 1) h.2
      omega
    · exact ih h.2 h1
theorem hiOf_irrel (b c : Int) (xs : List Rng) (h : xs ≠ []) : hiOf b xs = hiOf c xs := by
  cases xs with
  | nil => exact absurd rfl h
  | cons x xs => rfl

structure NotInv (zs : List Rng) (k : Nat) (out : List Rng) (N : Int) : Prop where
  r : right out = true
  h : hiOf (-1) out < N
  n0 : 0 ≤ N
  n1 : N ≤ 1114112
  e : N = hiOf 0 (zs.take k)
  m : ∀ r, hasR out r = true ↔ 0 ≤ r ∧ r < N ∧ ¬ hasR (zs.take k) r = true

theorem not_start (zs : List Rng) : NotInv zs 0 [] 0 := ⟨rfl, by simp [hiOf], by omega, by omega, rfl, fun r => by simp [hasR]⟩
theorem not_next {zs : List Rng} {k : Nat} {out : List Rng} {N : Int} (I : NotInv zs k out N) (hz : right zs = true) {x : Rng} (hx : zs[k]? = some x) : N ≤ x.1 ∧ may x = true ∧ hiOf 0 (zs.take (k + 1)) = x.2 + 1 ∧ ∀ r, hasR (zs.take k) r = true → r < N := by
  have h1 : right (zs.take (k + 1)) = true := rightFrom_take hz (k + 1)
  rw [right_step zs k x hx] at h1
  simp only [Bool.and_eq_true, decide_eq_true_eq] at h1
  have hm := (may_iff _).1 h1.2
  refine ⟨?_, h1.2, ?_, fun r hr => ?_⟩
  · by_cases c : zs.take k = []
    · rw [I.e, c]; exact hm.1
    · rw [I.e, hiOf_irrel 0 (-1) _ c]; omega
  · rw [List.take_add_one, hx]
    exact hiOf_snoc _ _ _
  · have := has_lt (rightFrom_take hz k) hr
    rw [I.e]
    by_cases c : zs.take k = []
    · rw [c] at hr; simp [hasR] at hr
    · rw [hiOf_irrel 0 (-1) _ c]; exact this
theorem not_step1 {zs : List Rng} {k : Nat} {out : List Rng} {N : Int} (I : NotInv zs k out N) (hz : right zs = true) {x : Rng} (hx : zs[k]? = some x) (c : N < x.1) : NotInv zs (k + 1) (out ++ [(N, x.1 - 1)]) (x.2 + 1) := by
  obtain ⟨h1, h2, h3, h4⟩ := not_next I hz hx
  have hm := (may_iff _).1 h2
  have i0 := I.n0
  have i1 := I.h
  refine ⟨(join_push out (N, x.1 - 1) I.r ((may_iff _).2 ⟨i0, by dsimp only; omega, by dsimp only; omega⟩) i1).1, by rw [hiOf_snoc]; dsimp only; omega, by omega, by omega, h3.symm, fun r => ?_⟩
  rw [hasR_append, Bool.or_eq_true, I.m r, hasR_step zs k x r hx, Bool.or_eq_true]
  simp only [hasR_cons_iff, hasR_nil, Bool.false_eq_true, or_false, Bool.and_eq_true, decide_eq_true_eq]
  have := h4 r
  constructor
  · rintro (⟨a, b, d⟩ | ⟨a, b⟩)
    · exact ⟨a, by omega, fun h => h.elim d (fun h => by omega)⟩
    · exact ⟨by omega, by omega, fun h => h.elim (fun h => by have := this h; omega) (fun h => by omega)⟩
  · rintro ⟨a, b, d⟩
    by_cases e : r < N
    · exact .inl ⟨a, e, fun h => d (.inl h)⟩
    · refine .inr ⟨by omega, ?_⟩
      by_cases e2 : x.1 ≤ r
      · exact absurd (.inr ⟨e2, by omega⟩) d
      · omega
theorem not_step2 {zs : List Rng} {k : Nat} {out : List Rng} {N : Int} (I : NotInv zs k out N) (hz : right zs = true) {x : Rng} (hx : zs[k]? = some x) (c : ¬ N < x.1) : NotInv zs (k + 1) out (x.2 + 1) := by
  obtain ⟨h1, h2, h3, h4⟩ := not_next I hz hx
  have hm := (may_iff _).1 h2
  have i0 := I.n0
  have i1 := I.h
  refine ⟨I.r, by omega, by omega, by omega, h3.symm, fun r => ?_⟩
  rw [I.m r, hasR_step zs k x r hx, Bool.or_eq_true]
  simp only [Bool.and_eq_true, decide_eq_true_eq]
  have := h4 r
  constructor
  · rintro ⟨a, b, d⟩
    exact ⟨a, by omega, fun h => h.elim d (fun h => by omega)⟩
  · rintro ⟨a, b, d⟩
    refine ⟨a, ?_, fun h => d (.inl h)⟩
    by_cases e2 : x.1 ≤ r
    · exact absurd (.inr ⟨e2, by omega⟩) d
    · omega
/-- What Not holds: the numbers that are not in the set. -/
def notR (zs : List Rng) (r : Int) : Bool := decide (0 ≤ r) && decide (r ≤ 1114111) && !hasR zs r
theorem notR_iff (zs : List Rng) (r : Int) : notR zs r = true ↔ 0 ≤ r ∧ r ≤ 1114111 ∧ ¬ hasR zs r = true := by simp [notR, and_assoc]
theorem not_end1 {zs : List Rng} {k : Nat} {out : List Rng} {N : Int} (I : NotInv zs k out N) (hz : right zs = true) (hk : zs.length ≤ k) (c : N ≤ 1114111) : right (out ++ [(N, 1114111)]) = true ∧ ∀ r, hasR (out ++ [(N, 1114111)]) r = notR zs r := by
  have i0 := I.n0
  refine ⟨(join_push out (N, 1114111) I.r ((may_iff _).2 ⟨i0, c, by dsimp only; omega⟩) I.h).1, fun r => ?_⟩
  have hm := I.m r
  have he := I.e
  rw [List.take_of_length_le hk] at hm he
  rw [Bool.eq_iff_iff, hasR_append, Bool.or_eq_true, hm, notR_iff]
  simp only [hasR_cons_iff, hasR_nil, Bool.false_eq_true, or_false]
  constructor
  · rintro (⟨a, b, d⟩ | ⟨a, b⟩)
    · exact ⟨a, by omega, d⟩
    · refine ⟨by omega, b, fun h => ?_⟩
      have h5 := has_lt hz h
      have hn : zs ≠ [] := by rintro rfl; simp [hasR] at h
      rw [hiOf_irrel (-1) 0 zs hn] at h5
      omega
  · rintro ⟨a, b, d⟩
    by_cases e : r < N
    · exact .inl ⟨a, e, d⟩
    · exact .inr ⟨by omega, b⟩
theorem not_end2 {zs : List Rng} {k : Nat} {out : List Rng} {N : Int} (I : NotInv zs k out N) (hk : zs.length ≤ k) (c : ¬ N ≤ 1114111) : ∀ r, hasR out r = notR zs r := by
  intro r
  have hm := I.m r
  have := I.n1
  rw [List.take_of_length_le hk] at hm
  rw [Bool.eq_iff_iff, hm, notR_iff]
  constructor
  · rintro ⟨a, b, d⟩; exact ⟨a, by omega, d⟩
  · rintro ⟨a, b, d⟩; exact ⟨a, by omega, d⟩

set_option maxHeartbeats 8000000 in
set_option maxRecDepth 100000 in
theorem not_any (A : Option Addr) (cap : Nat) (xs : List Rng) (w : World) (h : RS w w.heap.size A cap xs) (hF : Fm A cap) (hl : xs.length ≤ 1000000) :
    Calls Try.prog 63 #[.slice A xs.length cap] w fun e w' => ∃ out : List Rng, right out = true ∧ (∀ r, hasR out r = notR (known xs) r) ∧ out.length ≤ xs.length + 1 ∧ HoldsR w.heap.size 70 out w e w' := by
  obtain ⟨i0, hi, hz0, hz1, hz2⟩ := info_parts Try.info70
  have C := Lib.hid (valid_known A cap xs w h hF)
  have hkl : (known xs).length ≤ xs.length := by unfold known; split <;> simp
  have hkr := known_right xs
  unfold KnownPost at C
  obtain ⟨L, hL⟩ : ∃ L, xs.length = L := ⟨_, rfl⟩
  rw [hL] at hkl hl C ⊢
  generalize known xs = zs at *
  obtain ⟨n, hn⟩ : ∃ n, zs.length = n := ⟨_, rfl⟩
  rw [hn] at hkl C
  have HN := Lib.hid hn
  have HR := Lib.hid hkr
  clear h hF hL hn hkr
  go_enter Try.func63, Try.ntmps63
  go_wp2_with fail
  refine C.out.mono ?_
  rintro e w1 ⟨A', c', rfl, hRS, _, hb⟩
  have H := Lib.hid hRS
  clear hRS
  go_wp2
  go_loopw [3, 4, 10] (fun v N i wr => ∃ (k : Nat) (out : List Rng) (M : Int), i = .int .i64 k ∧ N = .int .i32 M ∧ k ≤ n ∧ out.length ≤ k ∧ NotInv zs k out M ∧ wr.ownsRow w1.heap.size 70 2 v out.length (cells2 out) ∧ Below w1.heap.size w1 wr) (fun _ _ i _ => n - (RowKit.intOf i).toNat)
  case atStart => exact ⟨0, [], 0, rfl, rfl, Nat.zero_le _, Nat.le_refl _, not_start zs, World.ownsRow_nil _ _ _ _, Below.refl _ _⟩
  case round =>
    obtain ⟨k, out, M, rfl, rfl, hk, hol, I, hown, hb2⟩ := hrel
    have HI := Lib.hid I
    have M0 := I.n0
    have M1 := I.n1
    have HOL := Lib.hid hol
    clear I
    by_cases hlt : k < n
    · obtain ⟨x, hx⟩ : ∃ x, zs[k]? = some x := ⟨zs[k]'(by have := HN.out; omega), List.getElem?_eq_getElem _⟩
      obtain ⟨b, o, rfl, hbl, hRg⟩ := H.out.2.2.2 (by intro e; rw [e] at hx; simp at hx)
      have hbl' : b < w1.heap.size := Nat.lt_of_lt_of_le hbl hb.size
      obtain ⟨q1, q2⟩ := (hRg.below hbl' hb2) k x hx
      have hN := not_next HI.out HR.out hx
      have hm := (may_iff _).1 hN.2.1
      have HS1 := Lib.hid (not_step1 HI.out HR.out hx)
      have HS2 := Lib.hid (not_step2 HI.out HR.out hx)
      clear hRg hx hN
      obtain ⟨lo, hi'⟩ := x
      obtain ⟨m1, m2, m3⟩ := hm
      simp only at m1 m2 m3
      have i1 : (k : Int) < (n : Int) := by omega
      have hb3 : Below w1.heap.size w1 (wr.alloc (.cells #[.int .i32 lo, .int .i32 hi'] 70)) := hb2.alloc hb2.size _
      have hown1 := hown.alloc (.cells #[.int .i32 lo, .int .i32 hi'] 70)
      have f0 : (wr.alloc (.cells #[.int .i32 lo, .int .i32 hi'] 70)).cell? ⟨wr.heap.size, 0, none⟩ = some (.int .i32 lo) := by simp
      have f1 : (wr.alloc (.cells #[.int .i32 lo, .int .i32 hi'] 70)).cell? ⟨wr.heap.size, 1, none⟩ = some (.int .i32 hi') := by simp
      by_cases c : M < lo
      · have hlt0 := own_block_lt hown1
        have hlt1 := own_block_lt hown
        have hs3 := hb3.size
        have how2 := hown1.alloc (.cells #[.int .i32 M, .int .i32 (lo - 1)] 70)
        have hnews := news2 (wr.alloc (.cells #[.int .i32 lo, .int .i32 hi'] 70)) 70 (.int .i32 M) (.int .i32 (lo - 1)) rfl rfl
        rw [World.size_alloc] at hnews
        have p1 := World.cell?_alloc_lt (wr.alloc (.cells #[.int .i32 lo, .int .i32 hi'] 70)) (.cells #[.int .i32 M, .int .i32 (lo - 1)] 70) ⟨wr.heap.size, 1, none⟩ (by simp)
        rw [f1] at p1
        have HU := Lib.hid hown1
        have HB3 := Lib.hid hb3
        clear hown hown1 hb2 hb3 f0 f1
        go_wp2_with (at_builtin; refine wpList_append_own _ rfl _ _ 43 rfl w1.heap.size 70 i0 (.agg #[.int .i32 0, .int .i32 0]) 2 8 Try.underlying43 hi hz0 hz1 hz2 rfl (by decide) u3 out.length (cells2 out) rfl how2 ⟨wr.heap.size + 1, 0, none⟩ 1 1 [.int .i32 M, .int .i32 (lo - 1)] rfl rfl hnews ?c2 ?c3 ?c4 ?c5 ?_)
        case c2 => first | exact ⟨rfl, rfl⟩ | (intro u hu; simp at hu; rcases hu with rfl | rfl <;> rfl)
        case c3 => unfold maxLen; have := HOL.out; omega
        case c4 => have := HOL.out; omega
        case c5 => simp at hs3 ⊢; omega
        intro v' w2 own3 hgrow _
        have p2 : w2.cell? ⟨wr.heap.size, 1, none⟩ = some (.int .i32 hi') := by
          rw [hgrow.cell_far ⟨wr.heap.size, 1, none⟩ (by simp; omega) (fun e => by have := (hlt1 _ e.symm).2; simp at this), p1]
        have hbz : Below w1.heap.size w1 w2 := (HB3.out.alloc hs3 _).grown hgrow (by simp at hs3 ⊢; omega) (fun k e => (hlt0 k e).1)
        have HO3 := Lib.hid own3
        have HJ := Lib.hid (HS1.out c)
        clear hnews how2 hgrow own3 p1
        go_wp2
        go_roundw
        case rel => exact ⟨k + 1, out ++ [(M, lo - 1)], hi' + 1, by go_num, by go_num, by omega, by simp; exact HOL.out, HJ.out, by rw [cells2_snoc, List.length_append]; exact HO3.out, hbz⟩
        case measure => simp [RowKit.intOf]; omega
      · have d : decide (M < lo) = false := by simpa using c
        have HJ := Lib.hid (HS2.out c)
        clear hown hb2
        go_wp2
        go_roundw
        case rel => exact ⟨k + 1, out, hi' + 1, by go_num, by go_num, by omega, by have := HOL.out; omega, HJ.out, hown1, hb3⟩
        case measure => simp [RowKit.intOf]; omega
    · have hkn : k = n := by omega
      subst hkn
      by_cases c : M ≤ 1114111
      · have hlt0 := own_block_lt hown
        have hs2 := hb2.size
        have how2 := hown.alloc (.cells #[.int .i32 M, .int .i32 1114111] 70)
        have hnews := news2 wr 70 (.int .i32 M) (.int .i32 1114111) rfl rfl
        have HJ := Lib.hid (not_end1 HI.out HR.out (by rw [HN.out]; exact Nat.le_refl _) c)
        clear hown
        go_wp2_with (at_builtin; refine wpList_append_own _ rfl _ _ 43 rfl w1.heap.size 70 i0 (.agg #[.int .i32 0, .int .i32 0]) 2 8 Try.underlying43 hi hz0 hz1 hz2 rfl (by decide) u3 out.length (cells2 out) rfl how2 ⟨wr.heap.size, 0, none⟩ 1 1 [.int .i32 M, .int .i32 1114111] rfl rfl hnews ?c2 ?c3 ?c4 ?c5 ?_)
        case c2 => first | exact ⟨rfl, rfl⟩ | (intro u hu; simp at hu; rcases hu with rfl | rfl <;> rfl)
        case c3 => unfold maxLen; have := HOL.out; omega
        case c4 => have := HOL.out; omega
        case c5 => simp; omega
        intro v' w2 own3 hgrow _
        have hbz : Below w1.heap.size w1 w2 := (hb2.alloc hs2 _).grown hgrow (by simp; omega) (fun k e => (hlt0 k e).1)
        have HO3 := Lib.hid own3
        clear hnews how2 hgrow own3
        go_wp2
        go_ret
        refine ⟨out ++ [(M, 1114111)], HJ.out.1, HJ.out.2, by simp; have := HOL.out; omega, v', rfl, own_mono (by rw [cells2_snoc, List.length_append]; exact HO3.out) hb.size, hb.trans (hbz.mono hb.size)⟩
      · have d : decide (M ≤ 1114111) = false := by simpa using c
        have HJ := Lib.hid (not_end2 HI.out (by rw [HN.out]; exact Nat.le_refl _) c)
        go_wp2
        go_ret
        exact ⟨out, HI.out.r, HJ.out, by have := HOL.out; omega, u3, rfl, own_mono hown hb.size, hb.trans (hb2.mono hb.size)⟩
end Go.Proofs.Ytphhdkffnboboaa

