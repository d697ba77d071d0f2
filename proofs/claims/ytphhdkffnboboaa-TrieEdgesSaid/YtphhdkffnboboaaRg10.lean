/-
  Contracts: ranges.valid and virguleref02.Known, told by what they hand back; ranges.Not.
-/
import Derived.Test.YtphhdkffnboboaaRg9
import Derived.Test.YtphhdkffnboboaaRg6
namespace Go.Proofs.Ytphhdkffnboboaa
open Go.RowKit Go.Shelf
open Go.Lib

/-- A list as it is, or none, if it is not right. -/
def KnownPost (xs : List Rng) (w : World) (e : Ending) (w' : World) : Prop :=
  ∃ A c, e = .returned (.slice A (known xs).length c) ∧ RS w' w.heap.size A c (known xs) ∧ Fm A c ∧ Below w.heap.size w w'
theorem RS_nil (w : World) (B : Nat) : RS w B none 0 [] := ⟨Nat.le_refl _, by unfold maxLen; omega, fun x hx => by simp at hx, fun h => absurd rfl h⟩
theorem valid_known (A : Option Addr) (cap : Nat) (xs : List Rng) (w : World) (h : RS w w.heap.size A cap xs) (hF : Fm A cap) : Calls Try.prog 53 #[.slice A xs.length cap] w (KnownPost xs w) := by
  refine (valid_any A cap xs w h).mono ?_
  rintro e w' ⟨rfl, hb⟩
  by_cases c : right xs = true
  · rw [if_pos c]
    refine ⟨A, cap, by rw [known_of c], by rw [known_of c]; exact h.below hb, hF, hb⟩
  · rw [if_neg c]
    have e : known xs = [] := by unfold known; rw [if_neg c]
    exact ⟨none, 0, by rw [e]; rfl, by rw [e]; exact RS_nil _ _, .inl ⟨rfl, rfl⟩, hb⟩
theorem has_lt {b : Int} {xs : List Rng} (h : rightFrom b xs = true) {r : Int} (hr : hasR xs r = true) : r < hiOf b xs := by
  induction xs generalizing b with
  | nil => simp [hasR] at hr
  | cons x xs ih =>
    simp only [rightFrom, Bool.and_eq_true, decide_eq_true_eq] at h
    rcases (hasR_cons_iff x xs r).1 hr with h1 | h1
    · show r < hiOf (x.2 + 1) xs
      have : ∀ (ys : List Rng) (c : Int), rightFrom c ys = true → c ≤ hiOf c ys := by
        intro ys
        induction ys with
        | nil => intro c _; exact Int.le_refl c
        | cons y ys ih2 =>
          intro c hc
          simp only [rightFrom, Bool.and_eq_true, decide_eq_true_eq, may_iff] at hc
          have := ih2 _ hc.2
          show c ≤ hiOf (y.2 + 1) ys
          omega
      have := this xs (x.2 + 1) h.2
      omega
    · exact ih h.2 h1
theorem hiOf_irrel (b c : Int) (xs : List Rng) (h : xs ≠ []) : hiOf b xs = hiOf c xs := by
  cases xs with
  | nil => exact absurd rfl h
  | cons x xs => rfl

structure NotInv (zs : List Rng) (k : Nat) (out : List Rng) (N : Int) : Prop where
  r : right out = true
  h : hiOf (-1) out < N
  n0 : 0 ≤ N
  n1 : N ≤ 1114112
  e : N = hiOf 0 (zs.take k)
  m : ∀ r, hasR out r = true ↔ 0 ≤ r ∧ r < N ∧ ¬ hasR (zs.take k) r = true

theorem not_start (zs : List Rng) : NotInv zs 0 [] 0 := ⟨rfl, by simp [hiOf], by omega, by omega, rfl, fun r => by simp [hasR]⟩
theorem not_next {zs : List Rng} {k : Nat} {out : List Rng} {N : Int} (I : NotInv zs k out N) (hz : right zs = true) {x : Rng} (hx : zs[k]? = some x) : N ≤ x.1 ∧ may x = true ∧ hiOf 0 (zs.take (k + 1)) = x.2 + 1 ∧ ∀ r, hasR (zs.take k) r = true → r < N := by
  have h1 : right (zs.take (k + 1)) = true := rightFrom_take hz (k + 1)
  rw [right_step zs k x hx] at h1
  simp only [Bool.and_eq_true, decide_eq_true_eq] at h1
  have hm := (may_iff _).1 h1.2
  refine ⟨?_, h1.2, ?_, fun r hr => ?_⟩
  · by_cases c : zs.take k = []
    · rw [I.e, c]; exact hm.1
    · rw [I.e, hiOf_irrel 0 (-1) _ c]; omega
  · rw [List.take_add_one, hx]
    exact hiOf_snoc _ _ _
  · have := has_lt (rightFrom_take hz k) hr
    rw [I.e]
    by_cases c : zs.take k = []
    · rw [c] at hr; simp [hasR] at hr
    · rw [hiOf_irrel 0 (-1) _ c]; exact this
theorem not_step1 {zs : List Rng} {k : Nat} {out : List Rng} {N : Int} (I : NotInv zs k out N) (hz : right zs = true) {x : Rng} (hx : zs[k]? = some x) (c : N < x.1) : NotInv zs (k + 1) (out ++ [(N, x.1 - 1)]) (x.2 + 1) := by
  obtain ⟨h1, h2, h3, h4⟩ := not_next I hz hx
  have hm := (may_iff _).1 h2
  have i0 := I.n0
  have i1 := I.h
  refine ⟨(join_push out (N, x.1 - 1) I.r ((may_iff _).2 ⟨i0, by dsimp only; omega, by dsimp only; omega⟩) i1).1, by rw [hiOf_snoc]; dsimp only; omega, by omega, by omega, h3.symm, fun r => ?_⟩
  rw [hasR_append, Bool.or_eq_true, I.m r, hasR_step zs k x r hx, Bool.or_eq_true]
  simp only [hasR_cons_iff, hasR_nil, Bool.false_eq_true, or_false, Bool.and_eq_true, decide_eq_true_eq]
  have := h4 r
  constructor
  · rintro (⟨a, b, d⟩ | ⟨a, b⟩)
    · exact ⟨a, by omega, fun h => h.elim d (fun h => by omega)⟩
    · exact ⟨by omega, by omega, fun h => h.elim (fun h => by have := this h; omega) (fun h => by omega)⟩
  · rintro ⟨a, b, d⟩
    by_cases e : r < N
    · exact .inl ⟨a, e, fun h => d (.inl h)⟩
    · refine .inr ⟨by omega, ?_⟩
      by_cases e2 : x.1 ≤ r
      · exact absurd (.inr ⟨e2, by omega⟩) d
      · omega
theorem not_step2 {zs : List Rng} {k : Nat} {out : List Rng} {N : Int} (I : NotInv zs k out N) (hz : right zs = true) {x : Rng} (hx : zs[k]? = some x) (c : ¬ N < x.1) : NotInv zs (k + 1) out (x.2 + 1) := by
  obtain ⟨h1, h2, h3, h4⟩ := not_next I hz hx
  have hm := (may_iff _).1 h2
  have i0 := I.n0
  have i1 := I.h
  refine ⟨I.r, by omega, by omega, by omega, h3.symm, fun r => ?_⟩
  rw [I.m r, hasR_step zs k x r hx, Bool.or_eq_true]
  simp only [Bool.and_eq_true, decide_eq_true_eq]
  have := h4 r
  constructor
  · rintro ⟨a, b, d⟩
    exact ⟨a, by omega, fun h => h.elim d (fun h => by omega)⟩
  · rintro ⟨a, b, d⟩
    refine ⟨a, ?_, fun h => d (.inl h)⟩
    by_cases e2 : x.1 ≤ r
    · exact absurd (.inr ⟨e2, by omega⟩) d
    · omega
/-- What Not holds: the numbers that are not in the set. -/
def notR (zs : List Rng) (r : Int) : Bool := decide (0 ≤ r) && decide (r ≤ 1114111) && !hasR zs r
theorem notR_iff (zs : List Rng) (r : Int) : notR zs r = true ↔ 0 ≤ r ∧ r ≤ 1114111 ∧ ¬ hasR zs r = true := by simp [notR, and_assoc]
theorem not_end1 {zs : List Rng} {k : Nat} {out : List Rng} {N : Int} (I : NotInv zs k out N) (hz : right zs = true) (hk : zs.length ≤ k) (c : N ≤ 1114111) : right (out ++ [(N, 1114111)]) = true ∧ ∀ r, hasR (out ++ [(N, 1114111)]) r = notR zs r := by
  have i0 := I.n0
  refine ⟨(join_push out (N, 1114111) I.r ((may_iff _).2 ⟨i0, c, by dsimp only; omega⟩) I.h).1, fun r => ?_⟩
  have hm := I.m r
  have he := I.e
  rw [List.take_of_length_le hk] at hm he
  rw [Bool.eq_iff_iff, hasR_append, Bool.or_eq_true, hm, notR_iff]
  simp only [hasR_cons_iff, hasR_nil, Bool.false_eq_true, or_false]
  constructor
  · rintro (⟨a, b, d⟩ | ⟨a, b⟩)
    · exact ⟨a, by omega, d⟩
    · refine ⟨by omega, b, fun h => ?_⟩
      have h5 := has_lt hz h
      have hn : zs ≠ [] := by rintro rfl; simp [hasR] at h
      rw [hiOf_irrel (-1) 0 zs hn] at h5
      omega
  · rintro ⟨a, b, d⟩
    by_cases e : r < N
    · exact .inl ⟨a, e, d⟩
    · exact .inr ⟨by omega, b⟩
theorem not_end2 {zs : List Rng} {k : Nat} {out : List Rng} {N : Int} (I : NotInv zs k out N) (hk : zs.length ≤ k) (c : ¬ N ≤ 1114111) : ∀ r, hasR out r = notR zs r := by
  intro r
  have hm := I.m r
  have := I.n1
  rw [List.take_of_length_le hk] at hm
  rw [Bool.eq_iff_iff, hm, notR_iff]
  constructor
  · rintro ⟨a, b, d⟩; exact ⟨a, by omega, d⟩
  · rintro ⟨a, b, d⟩; exact ⟨a, by omega, d⟩

set_option maxHeartbeats 8000000 in
set_option maxRecDepth 100000 in
theorem not_any (A : Option Addr) (cap : Nat) (xs : List Rng) (w : World) (h : RS w w.heap.size A cap xs) (hF : Fm A cap) (hl : xs.length ≤ 1000000) :
    Calls Try.prog 63 #[.slice A xs.length cap] w fun e w' => ∃ out : List Rng, right out = true ∧ (∀ r, hasR out r = notR (known xs) r) ∧ out.length ≤ xs.length + 1 ∧ HoldsR w.heap.size 70 out w e w' := by
  obtain ⟨i0, hi, hz0, hz1, hz2⟩ := info_parts Try.info70
  have C := Lib.hid (valid_known A cap xs w h hF)
  have hkl : (known xs).length ≤ xs.length := by unfold known; split <;> simp
  have hkr := known_right xs
  unfold KnownPost at C
  obtain ⟨L, hL⟩ : ∃ L, xs.length = L := ⟨_, rfl⟩
  rw [hL] at hkl hl C ⊢
  generalize known xs = zs at *
  obtain ⟨n, hn⟩ : ∃ n, zs.length = n := ⟨_, rfl⟩
  rw [hn] at hkl C
  have HN := Lib.hid hn
  have HR := Lib.hid hkr
  clear h hF hL hn hkr
  go_enter Try.func63, Try.ntmps63
  go_wp2_with fail
  refine C.out.mono ?_
  rintro e w1 ⟨A', c', rfl, hRS, _, hb⟩
  have H := Lib.hid hRS
  clear hRS
  go_wp2
  go_loopw [3, 4, 10] (fun v N i wr => ∃ (k : Nat) (out : List Rng) (M : Int), i = .int .i64 k ∧ N = .int .i32 M ∧ k ≤ n ∧ out.length ≤ k ∧ NotInv zs k out M ∧ wr.ownsRow w1.heap.size 70 2 v out.length (cells2 out) ∧ Below w1.heap.size w1 wr) (fun _ _ i _ => n - (RowKit.intOf i).toNat)
  case atStart => exact ⟨0, [], 0, rfl, rfl, Nat.zero_le _, Nat.le_refl _, not_start zs, World.ownsRow_nil _ _ _ _, Below.refl _ _⟩
  case round =>
    obtain ⟨k, out, M, rfl, rfl, hk, hol, I, hown, hb2⟩ := hrel
    have HI := Lib.hid I
    have M0 := I.n0
    have M1 := I.n1
    have HOL := Lib.hid hol
    clear I
    by_cases hlt : k < n
    · obtain ⟨x, hx⟩ : ∃ x, zs[k]? = some x := ⟨zs[k]'(by have := HN.out; omega), List.getElem?_eq_getElem _⟩
      obtain ⟨b, o, rfl, hbl, hRg⟩ := H.out.2.2.2 (by intro e; rw [e] at hx; simp at hx)
      have hbl' : b < w1.heap.size := Nat.lt_of_lt_of_le hbl hb.size
      obtain ⟨q1, q2⟩ := (hRg.below hbl' hb2) k x hx
      have hN := not_next HI.out HR.out hx
      have hm := (may_iff _).1 hN.2.1
      have HS1 := Lib.hid (not_step1 HI.out HR.out hx)
      have HS2 := Lib.hid (not_step2 HI.out HR.out hx)
      clear hRg hx hN
      obtain ⟨lo, hi'⟩ := x
      obtain ⟨m1, m2, m3⟩ := hm
      simp only at m1 m2 m3
      have i1 : (k : Int) < (n : Int) := by omega
      have hb3 : Below w1.heap.size w1 (wr.alloc (.cells #[.int .i32 lo, .int .i32 hi'] 70)) := hb2.alloc hb2.size _
      have hown1 := hown.alloc (.cells #[.int .i32 lo, .int .i32 hi'] 70)
      have f0 : (wr.alloc (.cells #[.int .i32 lo, .int .i32 hi'] 70)).cell? ⟨wr.heap.size, 0, none⟩ = some (.int .i32 lo) := by simp
      have f1 : (wr.alloc (.cells #[.int .i32 lo, .int .i32 hi'] 70)).cell? ⟨wr.heap.size, 1, none⟩ = some (.int .i32 hi') := by simp
      by_cases c : M < lo
      · have hlt0 := own_block_lt hown1
        have hlt1 := own_block_lt hown
        have hs3 := hb3.size
        have how2 := hown1.alloc (.cells #[.int .i32 M, .int .i32 (lo - 1)] 70)
        have hnews := news2 (wr.alloc (.cells #[.int .i32 lo, .int .i32 hi'] 70)) 70 (.int .i32 M) (.int .i32 (lo - 1)) rfl rfl
        rw [World.size_alloc] at hnews
        have p1 := World.cell?_alloc_lt (wr.alloc (.cells #[.int .i32 lo, .int .i32 hi'] 70)) (.cells #[.int .i32 M, .int .i32 (lo - 1)] 70) ⟨wr.heap.size, 1, none⟩ (by simp)
        rw [f1] at p1
        have HU := Lib.hid hown1
        have HB3 := Lib.hid hb3
        clear hown hown1 hb2 hb3 f0 f1
        go_wp2_with (at_builtin; refine wpList_append_own _ rfl _ _ 43 rfl w1.heap.size 70 i0 (.agg #[.int .i32 0, .int .i32 0]) 2 8 Try.underlying43 hi hz0 hz1 hz2 rfl (by decide) u3 out.length (cells2 out) rfl how2 ⟨wr.heap.size + 1, 0, none⟩ 1 1 [.int .i32 M, .int .i32 (lo - 1)] rfl rfl hnews ?c2 ?c3 ?c4 ?c5 ?_)
        case c2 => first | exact ⟨rfl, rfl⟩ | (intro u hu; simp at hu; rcases hu with rfl | rfl <;> rfl)
        case c3 => unfold maxLen; have := HOL.out; omega
        case c4 => have := HOL.out; omega
        case c5 => simp at hs3 ⊢; omega
        intro v' w2 own3 hgrow _
        have p2 : w2.cell? ⟨wr.heap.size, 1, none⟩ = some (.int .i32 hi') := by
          rw [hgrow.cell_far ⟨wr.heap.size, 1, none⟩ (by simp; omega) (fun e => by have := (hlt1 _ e.symm).2; simp at this), p1]
        have hbz : Below w1.heap.size w1 w2 := (HB3.out.alloc hs3 _).grown hgrow (by simp at hs3 ⊢; omega) (fun k e => (hlt0 k e).1)
        have HO3 := Lib.hid own3
        have HJ := Lib.hid (HS1.out c)
        clear hnews how2 hgrow own3 p1
        go_wp2
        go_roundw
        case rel => exact ⟨k + 1, out ++ [(M, lo - 1)], hi' + 1, by go_num, by go_num, by omega, by simp; exact HOL.out, HJ.out, by rw [cells2_snoc, List.length_append]; exact HO3.out, hbz⟩
        case measure => simp [RowKit.intOf]; omega
      · have d : decide (M < lo) = false := by simpa using c
        have HJ := Lib.hid (HS2.out c)
        clear hown hb2
        go_wp2
        go_roundw
        case rel => exact ⟨k + 1, out, hi' + 1, by go_num, by go_num, by omega, by have := HOL.out; omega, HJ.out, hown1, hb3⟩
        case measure => simp [RowKit.intOf]; omega
    · have hkn : k = n := by omega
      subst hkn
      by_cases c : M ≤ 1114111
      · have hlt0 := own_block_lt hown
        have hs2 := hb2.size
        have how2 := hown.alloc (.cells #[.int .i32 M, .int .i32 1114111] 70)
        have hnews := news2 wr 70 (.int .i32 M) (.int .i32 1114111) rfl rfl
        have HJ := Lib.hid (not_end1 HI.out HR.out (by rw [HN.out]; exact Nat.le_refl _) c)
        clear hown
        go_wp2_with (at_builtin; refine wpList_append_own _ rfl _ _ 43 rfl w1.heap.size 70 i0 (.agg #[.int .i32 0, .int .i32 0]) 2 8 Try.underlying43 hi hz0 hz1 hz2 rfl (by decide) u3 out.length (cells2 out) rfl how2 ⟨wr.heap.size, 0, none⟩ 1 1 [.int .i32 M, .int .i32 1114111] rfl rfl hnews ?c2 ?c3 ?c4 ?c5 ?_)
        case c2 => first | exact ⟨rfl, rfl⟩ | (intro u hu; simp at hu; rcases hu with rfl | rfl <;> rfl)
        case c3 => unfold maxLen; have := HOL.out; omega
        case c4 => have := HOL.out; omega
        case c5 => simp; omega
        intro v' w2 own3 hgrow _
        have hbz : Below w1.heap.size w1 w2 := (hb2.alloc hs2 _).grown hgrow (by simp; omega) (fun k e => (hlt0 k e).1)
        have HO3 := Lib.hid own3
        clear hnews how2 hgrow own3
        go_wp2
        go_ret
        refine ⟨out ++ [(M, 1114111)], HJ.out.1, HJ.out.2, by simp; have := HOL.out; omega, v', rfl, own_mono (by rw [cells2_snoc, List.length_append]; exact HO3.out) hb.size, hb.trans (hbz.mono hb.size)⟩
      · have d : decide (M ≤ 1114111) = false := by simpa using c
        have HJ := Lib.hid (not_end2 HI.out (by rw [HN.out]; exact Nat.le_refl _) c)
        go_wp2
        go_ret
        exact ⟨out, HI.out.r, HJ.out, by have := HOL.out; omega, u3, rfl, own_mono hown hb.size, hb.trans (hb2.mono hb.size)⟩
end Go.Proofs.Ytphhdkffnboboaa
