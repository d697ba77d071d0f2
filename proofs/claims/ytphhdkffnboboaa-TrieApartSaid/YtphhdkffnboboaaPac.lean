/-
  Contracts: ranges.valid and virguleref02.Known, told by what they hand back; ranges.Not.
  Contracts: ranges.Cut, ranges.Minus.
  Contracts: ranges.Union.
  Contracts: ranges.Same.
-/
import Derived.Test.YtphhdkffnboboaaPab
import Derived.Laws.StructEq
namespace Go.Proofs.Ytphhdkffnboboaa
open Go.RowKit Go.Shelf
open Go.Lib

/-- A list as it is, or none, if it is not right. -/
def KnownPost (xs : List Rng) (w : World) (e : Ending) (w' : World) : Prop :=
  ∃ A c, e = .returned (.slice A (known xs).length c) ∧ RS w' w.heap.size A c (known xs) ∧ Fm A c ∧ Below w.heap.size w w'
theorem RS_nil (w : World) (B : Nat) : RS w B none 0 [] := ⟨Nat.le_refl _, by unfold maxLen; omega, fun x hx => by simp at hx, fun h => absurd rfl h⟩
theorem valid_known (A : Option Addr) (cap : Nat) (xs : List Rng) (w : World) (h : RS w w.heap.size A cap xs) (hF : Fm A cap) : Calls Try.prog 53 #[.slice A xs.length cap] w (KnownPost xs w) := by
  refine (valid_any A cap xs w h).mono ?_
  rintro e w' ⟨rfl, hb⟩
  by_cases c : right xs = true
  · rw [if_pos c]
    refine ⟨A, cap, by rw [known_of c], by rw [known_of c]; exact h.below hb, hF, hb⟩
  · rw [if_neg c]
    have e : known xs = [] := by unfold known; rw [if_neg c]
    exact ⟨none, 0, by rw [e]; rfl, by rw [e]; exact RS_nil _ _, .inl ⟨rfl, rfl⟩, hb⟩
theorem has_lt {b : Int} {xs : List Rng} (h : rightFrom b xs = true) {r : Int} (hr : hasR xs r = true) : r < hiOf b xs := by
  induction xs generalizing b with
  | nil => simp [hasR] at hr
  | cons x xs ih =>
    simp only [rightFrom, Bool.and_eq_true, decide_eq_true_eq] at h
    rcases (hasR_cons_iff x xs r).1 hr with h1 | h1
    · show r < hiOf (x.2 + 1) xs
      have : ∀ (ys : List Rng) (c : Int), rightFrom c ys = true → c ≤ hiOf c ys := by
        intro ys
        induction ys with
        | nil => intro c _; exact Int.le_refl c
        | cons y ys ih2 =>
          intro c hc
          simp only [rightFrom, Bool.and_eq_true, decide_eq_true_eq, may_iff] at hc
          have := ih2 _ hc.2
          show c ≤ hiOf (y.2 + 1) ys
          omega
      have := this xs (x.2 + 1) h.2
      omega
    · exact ih h.2 h1
theorem hiOf_irrel (b c : Int) (xs : List Rng) (h : xs ≠ []) : hiOf b xs = hiOf c xs := by
  cases xs with
  | nil => exact absurd rfl h
  | cons x xs => rfl

structure NotInv (zs : List Rng) (k : Nat) (out : List Rng) (N : Int) : Prop where
  r : right out = true
  h : hiOf (-1) out < N
  n0 : 0 ≤ N
  n1 : N ≤ 1114112
  e : N = hiOf 0 (zs.take k)
  m : ∀ r, hasR out r = true ↔ 0 ≤ r ∧ r < N ∧ ¬ hasR (zs.take k) r = true

theorem not_start (zs : List Rng) : NotInv zs 0 [] 0 := ⟨rfl, by simp [hiOf], by omega, by omega, rfl, fun r => by simp [hasR]⟩
theorem not_next {zs : List Rng} {k : Nat} {out : List Rng} {N : Int} (I : NotInv zs k out N) (hz : right zs = true) {x : Rng} (hx : zs[k]? = some x) : N ≤ x.1 ∧ may x = true ∧ hiOf 0 (zs.take (k + 1)) = x.2 + 1 ∧ ∀ r, hasR (zs.take k) r = true → r < N := by
  have h1 : right (zs.take (k + 1)) = true := rightFrom_take hz (k + 1)
  rw [right_step zs k x hx] at h1
  simp only [Bool.and_eq_true, decide_eq_true_eq] at h1
  have hm := (may_iff _).1 h1.2
  refine ⟨?_, h1.2, ?_, fun r hr => ?_⟩
  · by_cases c : zs.take k = []
    · rw [I.e, c]; exact hm.1
    · rw [I.e, hiOf_irrel 0 (-1) _ c]; omega
  · rw [List.take_add_one, hx]
    exact hiOf_snoc _ _ _
  · have := has_lt (rightFrom_take hz k) hr
    rw [I.e]
    by_cases c : zs.take k = []
    · rw [c] at hr; simp [hasR] at hr
    · rw [hiOf_irrel 0 (-1) _ c]; exact this
theorem not_step1 {zs : List Rng} {k : Nat} {out : List Rng} {N : Int} (I : NotInv zs k out N) (hz : right zs = true) {x : Rng} (hx : zs[k]? = some x) (c : N < x.1) : NotInv zs (k + 1) (out ++ [(N, x.1 - 1)]) (x.2 + 1) := by
  obtain ⟨h1, h2, h3, h4⟩ := not_next I hz hx
  have hm := (may_iff _).1 h2
  have i0 := I.n0
  have i1 := I.h
  refine ⟨(join_push out (N, x.1 - 1) I.r ((may_iff _).2 ⟨i0, by dsimp only; omega, by dsimp only; omega⟩) i1).1, by rw [hiOf_snoc]; dsimp only; omega, by omega, by omega, h3.symm, fun r => ?_⟩
  rw [hasR_append, Bool.or_eq_true, I.m r, hasR_step zs k x r hx, Bool.or_eq_true]
  simp only [hasR_cons_iff, hasR_nil, Bool.false_eq_true, or_false, Bool.and_eq_true, decide_eq_true_eq]
  have := h4 r
  constructor
  · rintro (⟨a, b, d⟩ | ⟨a, b⟩)
    · exact ⟨a, by omega, fun h => h.elim d (fun h => by omega)⟩
    · exact ⟨by omega, by omega, fun h => h.elim (fun h => by have := this h; omega) (fun h => by omega)⟩
  · rintro ⟨a, b, d⟩
    by_cases e : r < N
    · exact .inl ⟨a, e, fun h => d (.inl h)⟩
    · refine .inr ⟨by omega, ?_⟩
      by_cases e2 : x.1 ≤ r
      · exact absurd (.inr ⟨e2, by omega⟩) d
      · omega
theorem not_step2 {zs : List Rng} {k : Nat} {out : List Rng} {N : Int} (I : NotInv zs k out N) (hz : right zs = true) {x : Rng} (hx : zs[k]? = some x) (c : ¬ N < x.1) : NotInv zs (k + 1) out (x.2 + 1) := by
  obtain ⟨h1, h2, h3, h4⟩ := not_next I hz hx
  have hm := (may_iff _).1 h2
  have i0 := I.n0
  have i1 := I.h
  refine ⟨I.r, by omega, by omega, by omega, h3.symm, fun r => ?_⟩
  rw [I.m r, hasR_step zs k x r hx, Bool.or_eq_true]
  simp only [Bool.and_eq_true, decide_eq_true_eq]
  have := h4 r
  constructor
  · rintro ⟨a, b, d⟩
    exact ⟨a, by omega, fun h => h.elim d (fun h => by omega)⟩
  · rintro ⟨a, b, d⟩
    refine ⟨a, ?_, fun h => d (.inl h)⟩
    by_cases e2 : x.1 ≤ r
    · exact absurd (.inr ⟨e2, by omega⟩) d
    · omega
/-- What Not holds: the numbers that are not in the set. -/
def notR (zs : List Rng) (r : Int) : Bool := decide (0 ≤ r) && decide (r ≤ 1114111) && !hasR zs r
theorem notR_iff (zs : List Rng) (r : Int) : notR zs r = true ↔ 0 ≤ r ∧ r ≤ 1114111 ∧ ¬ hasR zs r = true := by simp [notR, and_assoc]
theorem not_end1 {zs : List Rng} {k : Nat} {out : List Rng} {N : Int} (I : NotInv zs k out N) (hz : right zs = true) (hk : zs.length ≤ k) (c : N ≤ 1114111) : right (out ++ [(N, 1114111)]) = true ∧ ∀ r, hasR (out ++ [(N, 1114111)]) r = notR zs r := by
  have i0 := I.n0
  refine ⟨(join_push out (N, 1114111) I.r ((may_iff _).2 ⟨i0, c, by dsimp only; omega⟩) I.h).1, fun r => ?_⟩
  have hm := I.m r
  have he := I.e
  rw [List.take_of_length_le hk] at hm he
  rw [Bool.eq_iff_iff, hasR_append, Bool.or_eq_true, hm, notR_iff]
  simp only [hasR_cons_iff, hasR_nil, Bool.false_eq_true, or_false]
  constructor
  · rintro (⟨a, b, d⟩ | ⟨a, b⟩)
    · exact ⟨a, by omega, d⟩
    · refine ⟨by omega, b, fun h => ?_⟩
      have h5 := has_lt hz h
      have hn : zs ≠ [] := by rintro rfl; simp [hasR] at h
      rw [hiOf_irrel (-1) 0 zs hn] at h5
      omega
  · rintro ⟨a, b, d⟩
    by_cases e : r < N
    · exact .inl ⟨a, e, d⟩
    · exact .inr ⟨by omega, b⟩
theorem not_end2 {zs : List Rng} {k : Nat} {out : List Rng} {N : Int} (I : NotInv zs k out N) (hk : zs.length ≤ k) (c : ¬ N ≤ 1114111) : ∀ r, hasR out r = notR zs r := by
  intro r
  have hm := I.m r
  have := I.n1
  rw [List.take_of_length_le hk] at hm
  rw [Bool.eq_iff_iff, hm, notR_iff]
  constructor
  · rintro ⟨a, b, d⟩; exact ⟨a, by omega, d⟩
  · rintro ⟨a, b, d⟩; exact ⟨a, by omega, d⟩

set_option maxHeartbeats 8000000 in
set_option maxRecDepth 100000 in
theorem not_any (A : Option Addr) (cap : Nat) (xs : List Rng) (w : World) (h : RS w w.heap.size A cap xs) (hF : Fm A cap) (hl : xs.length ≤ 1000000) :
    Calls Try.prog 63 #[.slice A xs.length cap] w fun e w' => ∃ out : List Rng, right out = true ∧ (∀ r, hasR out r = notR (known xs) r) ∧ out.length ≤ xs.length + 1 ∧ HoldsR w.heap.size 70 out w e w' := by
  obtain ⟨i0, hi, hz0, hz1, hz2⟩ := info_parts Try.info70
  have C := Lib.hid (valid_known A cap xs w h hF)
  have hkl : (known xs).length ≤ xs.length := by unfold known; split <;> simp
  have hkr := known_right xs
  unfold KnownPost at C
  obtain ⟨L, hL⟩ : ∃ L, xs.length = L := ⟨_, rfl⟩
  rw [hL] at hkl hl C ⊢
  generalize known xs = zs at *
  obtain ⟨n, hn⟩ : ∃ n, zs.length = n := ⟨_, rfl⟩
  rw [hn] at hkl C
  have HN := Lib.hid hn
  have HR := Lib.hid hkr
  clear h hF hL hn hkr
  go_enter Try.func63, Try.ntmps63
  go_wp2_with fail
  refine C.out.mono ?_
  rintro e w1 ⟨A', c', rfl, hRS, _, hb⟩
  have H := Lib.hid hRS
  clear hRS
  go_wp2
  go_loopw [3, 4, 10] (fun v N i wr => ∃ (k : Nat) (out : List Rng) (M : Int), i = .int .i64 k ∧ N = .int .i32 M ∧ k ≤ n ∧ out.length ≤ k ∧ NotInv zs k out M ∧ wr.ownsRow w1.heap.size 70 2 v out.length (cells2 out) ∧ Below w1.heap.size w1 wr) (fun _ _ i _ => n - (RowKit.intOf i).toNat)
  case atStart => exact ⟨0, [], 0, rfl, rfl, Nat.zero_le _, Nat.le_refl _, not_start zs, World.ownsRow_nil _ _ _ _, Below.refl _ _⟩
  case round =>
    obtain ⟨k, out, M, rfl, rfl, hk, hol, I, hown, hb2⟩ := hrel
    have HI := Lib.hid I
    have M0 := I.n0
    have M1 := I.n1
    have HOL := Lib.hid hol
    clear I
    by_cases hlt : k < n
    · obtain ⟨x, hx⟩ : ∃ x, zs[k]? = some x := ⟨zs[k]'(by have := HN.out; omega), List.getElem?_eq_getElem _⟩
      obtain ⟨b, o, rfl, hbl, hRg⟩ := H.out.2.2.2 (by intro e; rw [e] at hx; simp at hx)
      have hbl' : b < w1.heap.size := Nat.lt_of_lt_of_le hbl hb.size
      obtain ⟨q1, q2⟩ := (hRg.below hbl' hb2) k x hx
      have hN := not_next HI.out HR.out hx
      have hm := (may_iff _).1 hN.2.1
      have HS1 := Lib.hid (not_step1 HI.out HR.out hx)
      have HS2 := Lib.hid (not_step2 HI.out HR.out hx)
      clear hRg hx hN
      obtain ⟨lo, hi'⟩ := x
      obtain ⟨m1, m2, m3⟩ := hm
      simp only at m1 m2 m3
      have i1 : (k : Int) < (n : Int) := by omega
      have hb3 : Below w1.heap.size w1 (wr.alloc (.cells #[.int .i32 lo, .int .i32 hi'] 70)) := hb2.alloc hb2.size _
      have hown1 := hown.alloc (.cells #[.int .i32 lo, .int .i32 hi'] 70)
      have f0 : (wr.alloc (.cells #[.int .i32 lo, .int .i32 hi'] 70)).cell? ⟨wr.heap.size, 0, none⟩ = some (.int .i32 lo) := by simp
      have f1 : (wr.alloc (.cells #[.int .i32 lo, .int .i32 hi'] 70)).cell? ⟨wr.heap.size, 1, none⟩ = some (.int .i32 hi') := by simp
      by_cases c : M < lo
      · have hlt0 := own_block_lt hown1
        have hlt1 := own_block_lt hown
        have hs3 := hb3.size
        have how2 := hown1.alloc (.cells #[.int .i32 M, .int .i32 (lo - 1)] 70)
        have hnews := news2 (wr.alloc (.cells #[.int .i32 lo, .int .i32 hi'] 70)) 70 (.int .i32 M) (.int .i32 (lo - 1)) rfl rfl
        rw [World.size_alloc] at hnews
        have p1 := World.cell?_alloc_lt (wr.alloc (.cells #[.int .i32 lo, .int .i32 hi'] 70)) (.cells #[.int .i32 M, .int .i32 (lo - 1)] 70) ⟨wr.heap.size, 1, none⟩ (by simp)
        rw [f1] at p1
        have HU := Lib.hid hown1
        have HB3 := Lib.hid hb3
        clear hown hown1 hb2 hb3 f0 f1
        go_wp2_with (at_builtin; refine wpList_append_own _ rfl _ _ 43 rfl w1.heap.size 70 i0 (.agg #[.int .i32 0, .int .i32 0]) 2 8 Try.underlying43 hi hz0 hz1 hz2 rfl (by decide) u3 out.length (cells2 out) rfl how2 ⟨wr.heap.size + 1, 0, none⟩ 1 1 [.int .i32 M, .int .i32 (lo - 1)] rfl rfl hnews ?c2 ?c3 ?c4 ?c5 ?_)
        case c2 => first | exact ⟨rfl, rfl⟩ | (intro u hu; simp at hu; rcases hu with rfl | rfl <;> rfl)
        case c3 => unfold maxLen; have := HOL.out; omega
        case c4 => have := HOL.out; omega
        case c5 => simp at hs3 ⊢; omega
        intro v' w2 own3 hgrow _
        have p2 : w2.cell? ⟨wr.heap.size, 1, none⟩ = some (.int .i32 hi') := by
          rw [hgrow.cell_far ⟨wr.heap.size, 1, none⟩ (by simp; omega) (fun e => by have := (hlt1 _ e.symm).2; simp at this), p1]
        have hbz : Below w1.heap.size w1 w2 := (HB3.out.alloc hs3 _).grown hgrow (by simp at hs3 ⊢; omega) (fun k e => (hlt0 k e).1)
        have HO3 := Lib.hid own3
        have HJ := Lib.hid (HS1.out c)
        clear hnews how2 hgrow own3 p1
        go_wp2
        go_roundw
        case rel => exact ⟨k + 1, out ++ [(M, lo - 1)], hi' + 1, by go_num, by go_num, by omega, by simp; exact HOL.out, HJ.out, by rw [cells2_snoc, List.length_append]; exact HO3.out, hbz⟩
        case measure => simp [RowKit.intOf]; omega
      · have d : decide (M < lo) = false := by simpa using c
        have HJ := Lib.hid (HS2.out c)
        clear hown hb2
        go_wp2
        go_roundw
        case rel => exact ⟨k + 1, out, hi' + 1, by go_num, by go_num, by omega, by have := HOL.out; omega, HJ.out, hown1, hb3⟩
        case measure => simp [RowKit.intOf]; omega
    · have hkn : k = n := by omega
      subst hkn
      by_cases c : M ≤ 1114111
      · have hlt0 := own_block_lt hown
        have hs2 := hb2.size
        have how2 := hown.alloc (.cells #[.int .i32 M, .int .i32 1114111] 70)
        have hnews := news2 wr 70 (.int .i32 M) (.int .i32 1114111) rfl rfl
        have HJ := Lib.hid (not_end1 HI.out HR.out (by rw [HN.out]; exact Nat.le_refl _) c)
        clear hown
        go_wp2_with (at_builtin; refine wpList_append_own _ rfl _ _ 43 rfl w1.heap.size 70 i0 (.agg #[.int .i32 0, .int .i32 0]) 2 8 Try.underlying43 hi hz0 hz1 hz2 rfl (by decide) u3 out.length (cells2 out) rfl how2 ⟨wr.heap.size, 0, none⟩ 1 1 [.int .i32 M, .int .i32 1114111] rfl rfl hnews ?c2 ?c3 ?c4 ?c5 ?_)
        case c2 => first | exact ⟨rfl, rfl⟩ | (intro u hu; simp at hu; rcases hu with rfl | rfl <;> rfl)
        case c3 => unfold maxLen; have := HOL.out; omega
        case c4 => have := HOL.out; omega
        case c5 => simp; omega
        intro v' w2 own3 hgrow _
        have hbz : Below w1.heap.size w1 w2 := (hb2.alloc hs2 _).grown hgrow (by simp; omega) (fun k e => (hlt0 k e).1)
        have HO3 := Lib.hid own3
        clear hnews how2 hgrow own3
        go_wp2
        go_ret
        refine ⟨out ++ [(M, 1114111)], HJ.out.1, HJ.out.2, by simp; have := HOL.out; omega, v', rfl, own_mono (by rw [cells2_snoc, List.length_append]; exact HO3.out) hb.size, hb.trans (hbz.mono hb.size)⟩
      · have d : decide (M ≤ 1114111) = false := by simpa using c
        have HJ := Lib.hid (not_end2 HI.out (by rw [HN.out]; exact Nat.le_refl _) c)
        go_wp2
        go_ret
        exact ⟨out, HI.out.r, HJ.out, by have := HOL.out; omega, u3, rfl, own_mono hown hb.size, hb.trans (hb2.mono hb.size)⟩
end Go.Proofs.Ytphhdkffnboboaa

namespace Go.Proofs.Ytphhdkffnboboaa
open Go.RowKit Go.Shelf
open Go.Lib

def slen : Value → Nat
  | .slice _ n _ => n
  | _ => 0

structure CutInv (xs ys xs' ys' out : List Rng) (p q : Int) : Prop where
  r : right out = true
  rx : rightFrom p xs' = true
  ry : rightFrom q ys' = true
  h : hiOf (-1) out ≤ max p q
  l : out.length + xs'.length + ys'.length ≤ xs.length + ys.length
  m : ∀ r, (hasR out r = true ∨ (hasR xs' r = true ∧ hasR ys' r = true)) ↔ (hasR xs r = true ∧ hasR ys r = true)

theorem cut_start (xs ys : List Rng) (hx : right xs = true) (hy : right ys = true) : CutInv xs ys xs ys [] (-1) (-1) :=
  ⟨rfl, hx, hy, by simp [hiOf], by simp, fun r => by simp [hasR_nil]⟩
def cutOut (out : List Rng) (x y : Rng) : List Rng := if max x.1 y.1 ≤ min x.2 y.2 then out ++ [(max x.1 y.1, min x.2 y.2)] else out
theorem hasR_cutOut (out : List Rng) (x y : Rng) (r : Int) : hasR (cutOut out x y) r = true ↔ hasR out r = true ∨ (max x.1 y.1 ≤ r ∧ r ≤ min x.2 y.2) := by
  unfold cutOut
  split
  · rw [hasR_append, Bool.or_eq_true]
    simp only [hasR_cons_iff, hasR_nil, Bool.false_eq_true, or_false]
  · constructor
    · exact .inl
    · rintro (h | h)
      · exact h
      · omega
theorem cut_common {xs ys xs' ys' out : List Rng} {p q : Int} {x y : Rng} (I : CutInv xs ys (x :: xs') (y :: ys') out p q) :
    right (cutOut out x y) = true ∧ (hiOf (-1) (cutOut out x y) ≤ max p q ∨ hiOf (-1) (cutOut out x y) = min x.2 y.2 + 1) ∧ (cutOut out x y).length ≤ out.length + 1 ∧ (p < x.1 ∧ may x = true ∧ rightFrom (x.2 + 1) xs' = true) ∧ (q < y.1 ∧ may y = true ∧ rightFrom (y.2 + 1) ys' = true) := by
  have hx := I.rx
  have hy := I.ry
  simp only [rightFrom, Bool.and_eq_true, decide_eq_true_eq] at hx hy
  have mx := (may_iff _).1 hx.1.2
  have my := (may_iff _).1 hy.1.2
  have hh := I.h
  refine ⟨?_, ?_, ?_, ⟨hx.1.1, hx.1.2, hx.2⟩, ⟨hy.1.1, hy.1.2, hy.2⟩⟩
  · unfold cutOut
    split
    · exact (join_push out _ I.r ((may_iff _).2 ⟨by dsimp only; omega, by assumption, by dsimp only; omega⟩) (by dsimp only; omega)).1
    · exact I.r
  · unfold cutOut
    split
    · rw [hiOf_snoc]; exact .inr rfl
    · exact .inl hh
  · unfold cutOut
    split <;> simp
theorem cut_x {xs ys xs' ys' out : List Rng} {p q : Int} {x y : Rng} (I : CutInv xs ys (x :: xs') (y :: ys') out p q) (c : x.2 < y.2) : CutInv xs ys xs' (y :: ys') (cutOut out x y) (x.2 + 1) q := by
  obtain ⟨h1, h2, h3, ⟨x1, x2, x3⟩, ⟨y1, y2, y3⟩⟩ := cut_common I
  have mx := (may_iff _).1 x2
  have my := (may_iff _).1 y2
  have hl := I.l
  refine ⟨h1, x3, I.ry, by omega, by simp at hl ⊢; omega, fun r => ?_⟩
  rw [← I.m r, hasR_cutOut, hasR_cons_iff x, hasR_cons_iff y]
  have e1 := fun h : hasR ys' r = true => (hasR_gt y3 h).1
  constructor
  · rintro ((h | h) | h)
    · exact .inl h
    · exact .inr ⟨.inl ⟨by omega, by omega⟩, .inl ⟨by omega, by omega⟩⟩
    · exact .inr ⟨.inr h.1, h.2⟩
  · rintro (h | ⟨h | h, h'⟩)
    · exact .inl (.inl h)
    · rcases h' with h' | h'
      · exact .inl (.inr ⟨by omega, by omega⟩)
      · have := e1 h'; omega
    · exact .inr ⟨h, h'⟩
theorem cut_y {xs ys xs' ys' out : List Rng} {p q : Int} {x y : Rng} (I : CutInv xs ys (x :: xs') (y :: ys') out p q) (c : ¬ x.2 < y.2) : CutInv xs ys (x :: xs') ys' (cutOut out x y) p (y.2 + 1) := by
  obtain ⟨h1, h2, h3, ⟨x1, x2, x3⟩, ⟨y1, y2, y3⟩⟩ := cut_common I
  have mx := (may_iff _).1 x2
  have my := (may_iff _).1 y2
  have hl := I.l
  refine ⟨h1, I.rx, y3, by omega, by simp at hl ⊢; omega, fun r => ?_⟩
  rw [← I.m r, hasR_cutOut, hasR_cons_iff x, hasR_cons_iff y]
  have e1 := fun h : hasR xs' r = true => (hasR_gt x3 h).1
  constructor
  · rintro ((h | h) | h)
    · exact .inl h
    · exact .inr ⟨.inl ⟨by omega, by omega⟩, .inl ⟨by omega, by omega⟩⟩
    · exact .inr ⟨h.1, .inr h.2⟩
  · rintro (h | ⟨h', h | h⟩)
    · exact .inl (.inl h)
    · rcases h' with h' | h'
      · exact .inl (.inr ⟨by omega, by omega⟩)
      · have := e1 h'; omega
    · exact .inr ⟨h', h⟩
def cutR (xs ys : List Rng) (r : Int) : Bool := hasR xs r && hasR ys r
theorem cut_end {xs ys xs' ys' out : List Rng} {p q : Int} (I : CutInv xs ys xs' ys' out p q) (h : xs' = [] ∨ ys' = []) : ∀ r, hasR out r = cutR xs ys r := by
  intro r
  rw [Bool.eq_iff_iff, cutR, Bool.and_eq_true, ← I.m r]
  rcases h with rfl | rfl <;> simp [hasR_nil]

theorem RS.tail {w : World} {B : Nat} {b o cap : Nat} {x : Rng} {xs : List Rng} (h : RS w B (some ⟨b, o, none⟩) cap (x :: xs)) : RS w B (if cap = 1 then some ⟨b, o, none⟩ else some ⟨b, o + 2, none⟩) (cap - 1) xs := by
  obtain ⟨h1, h2, h3, h4⟩ := h
  simp at h1
  refine ⟨by omega, by omega, fun y hy => h3 y (List.mem_cons_of_mem _ hy), fun hn => ?_⟩
  obtain ⟨b', o', e, hb, hg⟩ := h4 (by simp)
  injection e with e
  injection e with e1 e2 e3
  have hc : cap ≠ 1 := by rintro rfl; exact hn (List.length_eq_zero_iff.1 (by omega))
  rw [if_neg hc]
  refine ⟨b, o + 2, rfl, by omega, fun i y hy => ?_⟩
  have := hg (i + 1) y (by simpa using hy)
  rw [← e1, ← e2] at this
  rw [show o + 2 + i * 2 = o + (i + 1) * 2 by omega]
  exact this

set_option maxHeartbeats 8000000 in
set_option maxRecDepth 100000 in
theorem cut_any (A : Option Addr) (cap : Nat) (xs : List Rng) (A' : Option Addr) (cap' : Nat) (ys : List Rng) (w : World) (h : RS w w.heap.size A cap xs) (hF : Fm A cap) (h' : RS w w.heap.size A' cap' ys) (hF' : Fm A' cap')
    (hl : xs.length ≤ 1000000) (hl' : ys.length ≤ 1000000) :
    Calls Try.prog 38 #[.slice A xs.length cap, .slice A' ys.length cap'] w fun e w' => ∃ out : List Rng, right out = true ∧ (∀ r, hasR out r = cutR (known xs) (known ys) r) ∧ out.length ≤ xs.length + ys.length ∧ HoldsR w.heap.size 70 out w e w' := by
  obtain ⟨i0, hi, hz0, hz1, hz2⟩ := info_parts Try.info70
  have C1 := Lib.hid (valid_known A cap xs w h hF)
  have C2 := Lib.hid (fun W (hb : Below w.heap.size w W) => valid_known A' cap' ys W ((h'.below hb).mono hb.size) hF')
  unfold KnownPost at C1 C2
  have hkx : (known xs).length ≤ xs.length := by unfold known; split <;> simp
  have hky : (known ys).length ≤ ys.length := by unfold known; split <;> simp
  have HI0 := Lib.hid (cut_start _ _ (known_right xs) (known_right ys))
  generalize xs.length = L at *
  generalize ys.length = L' at *
  generalize known xs = zs at *
  generalize known ys = us at *
  have HK := Lib.hid (And.intro hkx hky)
  clear h h' hF hF' hkx hky
  go_enter Try.func38, Try.ntmps38
  go_wp2_with fail
  refine C1.out.mono ?_
  rintro e w1 ⟨A1, c1, rfl, hR1, _, hb1⟩
  have H := Lib.hid hR1
  clear hR1
  go_wp2_with fail
  refine (C2.out _ hb1).mono ?_
  rintro e w2 ⟨A2, c2, rfl, hR2, _, hb2⟩
  have hb2' := hb1.trans (hb2.mono hb1.size)
  have H1 := Lib.hid ((H.out.below (hb2.mono hb1.size)).mono hb2'.size)
  have H2 := Lib.hid (hR2.mono hb2.size)
  have HB := Lib.hid hb2'
  clear hR2 H hb1 hb2 hb2'
  go_wp2
  go_loopw [0, 1, 5] (fun a b v wr => ∃ (xs' ys' out : List Rng) (p q : Int) (A1 : Option Addr) (c1 : Nat) (A2 : Option Addr) (c2 : Nat), a = .slice A1 xs'.length c1 ∧ b = .slice A2 ys'.length c2 ∧ RS w2 w2.heap.size A1 c1 xs' ∧ RS w2 w2.heap.size A2 c2 ys' ∧ CutInv zs us xs' ys' out p q ∧ wr.ownsRow w2.heap.size 70 2 v out.length (cells2 out) ∧ Below w2.heap.size w2 wr) (fun a b _ _ => slen a + slen b)
  case atStart => exact ⟨zs, us, [], -1, -1, A1, c1, A2, c2, rfl, rfl, H1.out, H2.out, HI0.out, World.ownsRow_nil _ _ _ _, Below.refl _ _⟩
  case round =>
    clear H1 H2 HI0
    obtain ⟨xs', ys', out, p, q, A1, c1, A2, c2, rfl, rfl, hr1, hr2, I, hown, hb⟩ := hrel
    have HI := Lib.hid I
    clear I
    rcases xs' with _ | ⟨x, xs'⟩
    · have HE := Lib.hid (cut_end HI.out (.inl rfl))
      have HL := Lib.hid HI.out.l
      go_wp2
      go_ret
      exact ⟨out, HI.out.r, HE.out, by have := HL.out; have := HK.out; simp at *; omega, u5, rfl, own_mono hown HB.out.size, HB.out.trans (hb.mono HB.out.size)⟩
    · rcases ys' with _ | ⟨y, ys'⟩
      · have HE := Lib.hid (cut_end HI.out (.inr rfl))
        have HL := Lib.hid HI.out.l
        go_wp2
        go_ret
        exact ⟨out, HI.out.r, HE.out, by have := HL.out; have := HK.out; simp at *; omega, u5, rfl, own_mono hown HB.out.size, HB.out.trans (hb.mono HB.out.size)⟩
      · obtain ⟨b1, o1, rfl, hbl1, hg1⟩ := hr1.2.2.2 (by simp)
        obtain ⟨b2, o2, rfl, hbl2, hg2⟩ := hr2.2.2.2 (by simp)
        obtain ⟨q1, q2⟩ := (hg1.below hbl1 hb) 0 x rfl
        obtain ⟨q3, q4⟩ := (hg2.below hbl2 hb) 0 y rfl
        simp only [Nat.zero_mul, Nat.add_zero] at q1 q2 q3 q4
        have l1 := hr1.1
        have l2 := hr2.1
        have l3 := hr1.2.1
        have l4 := hr2.2.1
        have HT1 := Lib.hid hr1.tail
        have HT2 := Lib.hid hr2.tail
        have HR1 := Lib.hid hr1
        have HR2 := Lib.hid hr2
        have HX := Lib.hid (fun c : x.2 < y.2 => cut_x HI.out c)
        have HY := Lib.hid (fun c : ¬ x.2 < y.2 => cut_y HI.out c)
        clear hr1 hr2 hg1 hg2
        obtain ⟨xl, xh⟩ := x
        obtain ⟨yl, yh⟩ := y
        obtain ⟨n1, hn1⟩ : ∃ n, xs'.length = n := ⟨_, rfl⟩
        obtain ⟨n2, hn2⟩ : ∃ n, ys'.length = n := ⟨_, rfl⟩
        have HN1 := Lib.hid hn1
        have HN2 := Lib.hid hn2
        rw [List.length_cons] at l1 l2
        rw [hn1] at l1
        rw [hn2] at l2
        unfold maxLen at l3 l4
        rw [List.length_cons, List.length_cons, hn1, hn2]
        clear hn1 hn2
        have j1 : (0 : Int) < (n1 : Int) + 1 := by omega
        have j2 : (0 : Int) < (n2 : Int) + 1 := by omega
        go_wp2_with fail
        go_region
        have HW := Lib.hid hb.drew
        have how : wr.drew.ownsRow w2.heap.size 70 2 u5 out.length (cells2 out) := hown
        have QQ := Lib.hid (And.intro ((hb.cell (p := ⟨b1, o1 + 1, none⟩) hbl1).symm.trans q2) ((hb.cell (p := ⟨b2, o2 + 1, none⟩) hbl2).symm.trans q4))
        have hcd := fun (c : max xl yl ≤ min xh yh) => (show cutOut out (xl, xh) (yl, yh) = out ++ [(max xl yl, min xh yh)] from if_pos c)
        have hcn := fun (c : ¬ max xl yl ≤ min xh yh) => (show cutOut out (xl, xh) (yl, yh) = out from if_neg c)
        have HOL := Lib.hid HI.out.l
        generalize wr.drew = W at *
        generalize max xl yl = mlo at *
        generalize min xh yh = mhi at *
        have hWs := HW.out.size
        clear q1 q2 q3 q4 hown hb
        by_cases c : mlo ≤ mhi
        · have HCO := Lib.hid (hcd c)
          clear hcd hcn
          have hlt0 := own_block_lt how
          have how2 := how.alloc (.cells #[.int .i32 mlo, .int .i32 mhi] 70)
          have hnews := news2 W 70 (.int .i32 mlo) (.int .i32 mhi) rfl rfl
          have hol : out.length ≤ 2000000 := by have := HOL.out; have := HK.out; simp at *; omega
          clear how
          go_wp2_with (at_builtin; refine wpList_append_own _ rfl _ _ 43 rfl w2.heap.size 70 i0 (.agg #[.int .i32 0, .int .i32 0]) 2 8 Try.underlying43 hi hz0 hz1 hz2 rfl (by decide) u5 out.length (cells2 out) rfl how2 ⟨W.heap.size, 0, none⟩ 1 1 [.int .i32 mlo, .int .i32 mhi] rfl rfl hnews ?c2 ?c3 ?c4 ?c5 ?_)
          case c2 => first | exact ⟨rfl, rfl⟩ | (intro u hu; simp at hu; rcases hu with rfl | rfl <;> rfl)
          case c3 => unfold maxLen; omega
          case c4 => omega
          case c5 => simp; omega
          intro v' W3 own3 hgrow _
          have HBZ := Lib.hid (show Below w2.heap.size w2 W3 from (HW.out.alloc hWs _).grown hgrow (by simp; omega) (fun k e => (hlt0 k e).1))
          have HO3 := Lib.hid own3
          clear hnews how2 hgrow own3
          have q2' : W3.cell? ⟨b1, o1 + 1, none⟩ = some (.int .i32 xh) := (HBZ.out.cell (p := ⟨b1, o1 + 1, none⟩) hbl1).trans QQ.out.1
          have q4' : W3.cell? ⟨b2, o2 + 1, none⟩ = some (.int .i32 yh) := (HBZ.out.cell (p := ⟨b2, o2 + 1, none⟩) hbl2).trans QQ.out.2
          by_cases cc : xh < yh
          · have HJ := Lib.hid (HX.out cc)
            rw [HCO.out] at HJ
            go_wp2_with fail
            go_quiet (fail)
            go_wp2
            go_roundw
            case rel => exact ⟨xs', (yl, yh) :: ys', out ++ [(mlo, mhi)], _, _, (if c1 = 1 then some ⟨b1, o1, none⟩ else some ⟨b1, o1 + 2, none⟩), c1 - 1, some ⟨b2, o2, none⟩, c2, by rw [HN1.out], by rw [List.length_cons, HN2.out], HT1.out, HR2.out, HJ.out, by rw [cells2_snoc, List.length_append]; exact HO3.out, below_drewN HBZ.out _⟩
            case measure => simp [slen]
          · have HJ := Lib.hid (HY.out (by omega))
            rw [HCO.out] at HJ
            have d2 : decide (xh < yh) = false := by simpa using cc
            go_wp2_with fail
            go_quiet (fail)
            go_wp2
            go_roundw
            case rel => exact ⟨(xl, xh) :: xs', ys', out ++ [(mlo, mhi)], _, _, some ⟨b1, o1, none⟩, c1, (if c2 = 1 then some ⟨b2, o2, none⟩ else some ⟨b2, o2 + 2, none⟩), c2 - 1, by rw [List.length_cons, HN1.out], by rw [HN2.out], HR1.out, HT2.out, HJ.out, by rw [cells2_snoc, List.length_append]; exact HO3.out, below_drewN HBZ.out _⟩
            case measure => simp [slen]
        · have HCO := Lib.hid (hcn c)
          have HBZ := HW
          have d1 : decide (mlo ≤ mhi) = false := by simpa using c
          clear hcd hcn
          have q2' : W.cell? ⟨b1, o1 + 1, none⟩ = some (.int .i32 xh) := (HBZ.out.cell (p := ⟨b1, o1 + 1, none⟩) hbl1).trans QQ.out.1
          have q4' : W.cell? ⟨b2, o2 + 1, none⟩ = some (.int .i32 yh) := (HBZ.out.cell (p := ⟨b2, o2 + 1, none⟩) hbl2).trans QQ.out.2
          by_cases cc : xh < yh
          · have HJ := Lib.hid (HX.out cc)
            rw [HCO.out] at HJ
            go_wp2_with fail
            go_quiet (fail)
            go_wp2
            go_roundw
            case rel => exact ⟨xs', (yl, yh) :: ys', out, _, _, (if c1 = 1 then some ⟨b1, o1, none⟩ else some ⟨b1, o1 + 2, none⟩), c1 - 1, some ⟨b2, o2, none⟩, c2, by rw [HN1.out], by rw [List.length_cons, HN2.out], HT1.out, HR2.out, HJ.out, how, below_drewN HBZ.out _⟩
            case measure => simp [slen]
          · have HJ := Lib.hid (HY.out (by omega))
            rw [HCO.out] at HJ
            have d2 : decide (xh < yh) = false := by simpa using cc
            go_wp2_with fail
            go_quiet (fail)
            go_wp2
            go_roundw
            case rel => exact ⟨(xl, xh) :: xs', ys', out, _, _, some ⟨b1, o1, none⟩, c1, (if c2 = 1 then some ⟨b2, o2, none⟩ else some ⟨b2, o2 + 2, none⟩), c2 - 1, by rw [List.length_cons, HN1.out], by rw [HN2.out], HR1.out, HT2.out, HJ.out, how, below_drewN HBZ.out _⟩
            case measure => simp [slen]

theorem i32_of_right {xs : List Rng} (h : right xs = true) : ∀ x ∈ xs, I32 x := fun x hx => by
  have := (may_iff _).1 (right_may (b := -1) h x hx).1
  exact ⟨by omega, by omega, by omega, by omega⟩
/-- What a call hands back that makes a set: a slice that can be read on. -/
theorem HoldsR.rs {B : Nat} {out : List Rng} {w w' : World} {e : Ending} (h : HoldsR B 70 out w e w') (hr : right out = true) : ∃ A c, e = .returned (.slice A out.length c) ∧ RS w' w'.heap.size A c out ∧ Fm A c ∧ Below B w w' := by
  obtain ⟨v, rfl, hown, hb⟩ := h
  obtain ⟨A, c, rfl, hR⟩ := ownsRow_RS hown (i32_of_right hr)
  exact ⟨A, c, rfl, hR, ownsRow_Fm hown, hb⟩

def minusR (xs ys : List Rng) (r : Int) : Bool := hasR xs r && !hasR ys r
end Go.Proofs.Ytphhdkffnboboaa

namespace Go.Proofs.Ytphhdkffnboboaa
open Go.RowKit Go.Shelf
open Go.Lib

abbrev Sl3 := Option Addr × Nat × List Rng
def accOf (ls : List Sl3) : List Rng := ls.flatMap fun s => known s.2.2
theorem known_len (xs : List Rng) : (known xs).length ≤ xs.length := by unfold known; split <;> simp
theorem acc_step (ls : List Sl3) (k : Nat) (s : Sl3) (h : ls[k]? = some s) : accOf (ls.take (k + 1)) = accOf (ls.take k) ++ known s.2.2 := by
  rw [List.take_add_one, h]
  simp [accOf]
theorem acc_len (ls : List Sl3) (M : Nat) (h : ∀ s ∈ ls, s.2.2.length ≤ M) : (accOf ls).length ≤ ls.length * M := by
  induction ls with
  | nil => simp [accOf]
  | cons s ls ih =>
    have h1 := ih fun t ht => h t (List.mem_cons_of_mem _ ht)
    have h2 := h s List.mem_cons_self
    have h3 := known_len s.2.2
    simp only [accOf, List.flatMap_cons, List.length_append, List.length_cons] at *
    rw [Nat.add_mul]
    omega
theorem acc_may (ls : List Sl3) : ∀ x ∈ accOf ls, may x = true := fun x hx => by
  obtain ⟨s, _, hs⟩ := List.mem_flatMap.1 hx
  exact (right_may (b := -1) (known_right s.2.2) x hs).1
theorem acc_has (ls : List Sl3) (r : Int) : hasR (accOf ls) r = ls.any fun s => hasR (known s.2.2) r := by
  induction ls with
  | nil => rfl
  | cons s ls ih =>
    show hasR (known s.2.2 ++ accOf ls) r = _
    rw [hasR_append, ih]
    rfl
/-- A list of sets. -/
def SetsAt (w : World) (A : Option Addr) (ls : List Sl3) : Prop :=
  (ls ≠ [] → ∃ b o, A = some ⟨b, o, none⟩ ∧ b < w.heap.size ∧ ∀ i s, ls[i]? = some s → w.cell? ⟨b, o + i, none⟩ = some (.slice s.1 s.2.2.length s.2.1)) ∧
  ∀ s ∈ ls, RS w w.heap.size s.1 s.2.1 s.2.2 ∧ Fm s.1 s.2.1 ∧ s.2.2.length ≤ 100000

end Go.Proofs.Ytphhdkffnboboaa

namespace Go.Proofs.Ytphhdkffnboboaa
open Go.RowKit Go.Shelf
open Go.Lib

theorem neq74 (a b c d : Int) (w : World) : (binOp .neq 70 (.agg #[.int .i32 a, .int .i32 b]) (.agg #[.int .i32 c, .int .i32 d])).run Try.prog w = .ok (.bool (!(a == c && b == d))) w := by
  have u21 := Try.underlying21
  have a21 := Try.isAgg21
  have z21 := Try.sizeOf21
  have hS : Try.prog.underlying 70 = some (.struct (Try.prog.fieldsOf 70)) := by kernel_rfl
  have hp : Try.prog.stoodInHeld 70 = false := by kernel_rfl
  rw [run_neq_struct, show (10000 : Nat) = 9999 + 1 from rfl, run_equalIn_agg w 9999 70 _ _ hS hp]
  simp only [Program.fieldsOf, Try.underlying70]
  go_simp
  by_cases h1 : a = c <;> by_cases h2 : b = d <;> simp [h1, h2]
theorem guard74 (op : BinOp) (x y : Operand) (xs ys : Array Value) (w : World) : (eqGuard op 70 x y (.agg xs) (.agg ys)).run Try.prog w = .ok () w := run_eqGuard_agg w op 70 x y xs ys (by kernel_rfl)

set_option maxHeartbeats 4000000 in
set_option maxRecDepth 100000 in
theorem same_any2 (A : Option Addr) (cap : Nat) (xs : List Rng) (A' : Option Addr) (cap' : Nat) (ys : List Rng) (w : World) (h : RS w w.heap.size A cap xs) (hF : Fm A cap) (h' : RS w w.heap.size A' cap' ys) (hF' : Fm A' cap') :
    Calls Try.prog 26 #[.slice A xs.length cap, .slice A' ys.length cap'] w fun e w' => e = .returned (.bool (decide (known xs = known ys))) ∧ Below w.heap.size w w' := by
  have C1 := Lib.hid (valid_known A cap xs w h hF)
  have C2 := Lib.hid (fun W (hb : Below w.heap.size w W) => valid_known A' cap' ys W ((h'.below hb).mono hb.size) hF')
  unfold KnownPost at C1 C2
  have hkx : (known xs).length ≤ 9223372036854775807 := by
    have h1 : (known xs).length ≤ xs.length := by unfold known; split <;> simp
    have := h.1; have := h.2.1; unfold maxLen at this; omega
  have hky : (known ys).length ≤ 9223372036854775807 := by
    have h1 : (known ys).length ≤ ys.length := by unfold known; split <;> simp
    have := h'.1; have := h'.2.1; unfold maxLen at this; omega
  generalize xs.length = L at *
  generalize ys.length = L' at *
  generalize known xs = xs at *
  generalize known ys = ys at *
  obtain ⟨n, hn⟩ : ∃ n, xs.length = n := ⟨_, rfl⟩
  obtain ⟨m, hn'⟩ : ∃ m, ys.length = m := ⟨_, rfl⟩
  have HN := Lib.hid hn
  have HN' := Lib.hid hn'
  rw [hn] at hkx C1
  rw [hn'] at hky C2
  clear h hn h' hn' hF hF'
  go_enter Try.func26, Try.ntmps26
  go_wp2_with fail
  refine C1.out.mono ?_
  rintro e w1 ⟨A1, c1, rfl, hR1, _, hb1⟩
  have H := Lib.hid hR1
  clear hR1
  go_wp2_with fail
  refine (C2.out _ hb1).mono ?_
  rintro e w2 ⟨A2, c2, rfl, hR2, _, hb2⟩
  have H' := Lib.hid hR2
  have hb2' := hb1.trans (hb2.mono hb1.size)
  have HR := Lib.hid (H.out.below (hb2.mono hb1.size))
  have HB := Lib.hid hb2'
  clear hR2 H hb1 hb2 hb2'
  by_cases hnm : n = m
  · subst hnm
    go_wp2
    go_loopw [17] (fun i wr => ∃ k q : Nat, i = .int .i64 k ∧ k ≤ n ∧ xs.take k = ys.take k ∧ wr = w2.drewN q) (fun i _ => n - (RowKit.intOf i).toNat)
    case atStart => exact ⟨0, 0, rfl, Nat.zero_le _, rfl, rfl⟩
    case round =>
      obtain ⟨k, q, rfl, hk, hF, rfl⟩ := hrel
      have HF := Lib.hid hF
      clear hF
      by_cases hlt : k < n
      · obtain ⟨x, hx⟩ : ∃ x, xs[k]? = some x := ⟨xs[k]'(by have := HN.out; omega), List.getElem?_eq_getElem _⟩
        obtain ⟨y, hy⟩ : ∃ y, ys[k]? = some y := ⟨ys[k]'(by have := HN'.out; omega), List.getElem?_eq_getElem _⟩
        obtain ⟨b, o, rfl, hbl, hRg⟩ := HR.out.2.2.2 (by intro e; rw [e] at hx; simp at hx)
        obtain ⟨b', o', rfl, hbl', hRg'⟩ := H'.out.2.2.2 (by intro e; rw [e] at hy; simp at hy)
        obtain ⟨q1, q2⟩ := hRg k x hx
        obtain ⟨q3, q4⟩ := hRg' k y hy
        have HS := Lib.hid (take_eq_step xs ys k x y hx hy HF.out)
        have HE := Lib.hid (show xs = ys → x = y from fun e => by rw [e, hy] at hx; injection hx with hx; exact hx.symm)
        clear hRg hx hRg' hy
        obtain ⟨lo, hi⟩ := x
        obtain ⟨lo', hi'⟩ := y
        have i1 : (k : Int) < (n : Int) := by omega
        have i0 : (0 : Int) ≤ (k : Int) := by omega
        have e1 := neq74 lo hi lo' hi'
        have e2 := guard74
        have u21 := Try.underlying21
        by_cases c : lo = lo' ∧ hi = hi'
        · obtain ⟨rfl, rfl⟩ := c
          have HT := Lib.hid (HS.out.2 rfl)
          have hB : (!(lo == lo && hi == hi)) = false := by simp
          rw [hB] at e1
          go_wp2_with fail
          go_quiet (fail)
          go_wp2
          go_roundw
          case rel => exact ⟨k + 1, _, by go_num, by omega, HT.out, rfl⟩
          case measure => simp [RowKit.intOf]; omega
        · have HT := Lib.hid (show decide (xs = ys) = false by simp; intro e; have := HE.out e; simp at this; exact c this)
          have hB : (!(lo == lo' && hi == hi')) = true := by simp; omega
          rw [hB] at e1
          go_wp2_with fail
          go_quiet (fail)
          go_wp2
          go_ret
          exact ⟨by rw [HT.out]; rfl, HB.out.trans ((below_drewN (below_drewN (Below.refl _ _) _) _))⟩
      · have hkn : k = n := by omega
        have HT := Lib.hid (show decide (xs = ys) = true by
          have h := HF.out
          rw [List.take_of_length_le (by have := HN.out; omega), List.take_of_length_le (by have := HN'.out; omega)] at h
          simpa using h)
        subst hkn
        go_wp2
        go_ret
        exact ⟨by rw [HT.out]; rfl, below_drewN HB.out _⟩
  · have HT := Lib.hid (show decide (xs = ys) = false by simp; intro e; rw [e, HN'.out] at HN; exact hnm HN.out.symm)
    have i1 : ¬ (n : Int) = (m : Int) := by omega
    go_wp2
    go_ret
    exact ⟨by rw [HT.out]; rfl, HB.out⟩
end Go.Proofs.Ytphhdkffnboboaa

