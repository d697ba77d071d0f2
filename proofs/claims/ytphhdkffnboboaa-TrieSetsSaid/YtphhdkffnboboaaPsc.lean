/-
  Contracts: ranges.Cut, ranges.Minus.
  Contracts: ranges.Union.
  Contracts: ranges.Same.
  The right list of a set of numbers; how many numbers it has.
  Contracts: the calls that make sets, told by the one right list of the numbers that are wanted.
  Plain: a list of ranges that grows by ranges behind it; the ranges of a class.
  Contracts: trie.extend; the ranges of a block.
-/
import Derived.Test.YtphhdkffnboboaaPsb
import Derived.Laws.StructEq
import Derived.Test.YtphhdkffnboboaaPsa
import Derived.BigQuiet
import Derived.Deep.QuietTactic
import Derived.Deep.AppendLies
import Derived.Laws.OwnMore
import Derived.IntWalk
namespace Go.Proofs.Ytphhdkffnboboaa
open Go.RowKit Go.Shelf
open Go.Lib

def slen : Value → Nat
  | .slice _ n _ => n
  | _ => 0

structure CutInv (xs ys xs' ys' out : List Rng) (p q : Int) : Prop where
  r : right out = true
  rx : rightFrom p xs' = true
  ry : rightFrom q ys' = true
  h : hiOf (-1) out ≤ max p q
  l : out.length + xs'.length + ys'.length ≤ xs.length + ys.length
  m : ∀ r, (hasR out r = true ∨ (hasR xs' r = true ∧ hasR ys' r = true)) ↔ (hasR xs r = true ∧ hasR ys r = true)

theorem cut_start (xs ys : List Rng) (hx : right xs = true) (hy : right ys = true) : CutInv xs ys xs ys [] (-1) (-1) :=
  ⟨rfl, hx, hy, by simp [hiOf], by simp, fun r => by simp [hasR_nil]⟩
def cutOut (out : List Rng) (x y : Rng) : List Rng := if max x.1 y.1 ≤ min x.2 y.2 then out ++ [(max x.1 y.1, min x.2 y.2)] else out
theorem hasR_cutOut (out : List Rng) (x y : Rng) (r : Int) : hasR (cutOut out x y) r = true ↔ hasR out r = true ∨ (max x.1 y.1 ≤ r ∧ r ≤ min x.2 y.2) := by
  unfold cutOut
  split
  · rw [hasR_append, Bool.or_eq_true]
    simp only [hasR_cons_iff, hasR_nil, Bool.false_eq_true, or_false]
  · constructor
    · exact .inl
    · rintro (h | h)
      · exact h
      · omega
theorem cut_common {xs ys xs' ys' out : List Rng} {p q : Int} {x y : Rng} (I : CutInv xs ys (x :: xs') (y :: ys') out p q) :
    right (cutOut out x y) = true ∧ (hiOf (-1) (cutOut out x y) ≤ max p q ∨ hiOf (-1) (cutOut out x y) = min x.2 y.2 + 1) ∧ (cutOut out x y).length ≤ out.length + 1 ∧ (p < x.1 ∧ may x = true ∧ rightFrom (x.2 + 1) xs' = true) ∧ (q < y.1 ∧ may y = true ∧ rightFrom (y.2 + 1) ys' = true) := by
  have hx := I.rx
  have hy := I.ry
  simp only [rightFrom, Bool.and_eq_true, decide_eq_true_eq] at hx hy
  have mx := (may_iff _).1 hx.1.2
  have my := (may_iff _).1 hy.1.2
  have hh := I.h
  refine ⟨?_, ?_, ?_, ⟨hx.1.1, hx.1.2, hx.2⟩, ⟨hy.1.1, hy.1.2, hy.2⟩⟩
  · unfold cutOut
    split
    · exact (join_push out _ I.r ((may_iff _).2 ⟨by dsimp only; omega, by assumption, by dsimp only; omega⟩) (by dsimp only; omega)).1
    · exact I.r
  · unfold cutOut
    split
    · rw [hiOf_snoc]; exact .inr rfl
    · exact .inl hh
  · unfold cutOut
    split <;> simp
theorem cut_x {xs ys xs' ys' out : List Rng} {p q : Int} {x y : Rng} (I : CutInv xs ys (x :: xs') (y :: ys') out p q) (c : x.2 < y.2) : CutInv xs ys xs' (y :: ys') (cutOut out x y) (x.2 + 1) q := by
  obtain ⟨h1, h2, h3, ⟨x1, x2, x3⟩, ⟨y1, y2, y3⟩⟩ := cut_common I
  have mx := (may_iff _).1 x2
  have my := (may_iff _).1 y2
  have hl := I.l
  refine ⟨h1, x3, I.ry, by omega, by simp at hl ⊢; omega, fun r => ?_⟩
  rw [← I.m r, hasR_cutOut, hasR_cons_iff x, hasR_cons_iff y]
  have e1 := fun h : hasR ys' r = true => (hasR_gt y3 h).1
  constructor
  · rintro ((h | h) | h)
    · exact .inl h
    · exact .inr ⟨.inl ⟨by omega, by omega⟩, .inl ⟨by omega, by omega⟩⟩
    · exact .inr ⟨.inr h.1, h.2⟩
  · rintro (h | ⟨h | h, h'⟩)
    · exact .inl (.inl h)
    · rcases h' with h' | h'
      · exact .inl (.inr ⟨by omega, by omega⟩)
      · have := e1 h'; omega
    · exact .inr ⟨h, h'⟩
theorem cut_y {xs ys xs' ys' out : List Rng} {p q : Int} {x y : Rng} (I : CutInv xs ys (x :: xs') (y :: ys') out p q) (c : ¬ x.2 < y.2) : CutInv xs ys (x :: xs') ys' (cutOut out x y) p (y.2 + 1) := by
  obtain ⟨h1, h2, h3, ⟨x1, x2, x3⟩, ⟨y1, y2, y3⟩⟩ := cut_common I
  have mx := (may_iff _).1 x2
  have my := (may_iff _).1 y2
  have hl := I.l
  refine ⟨h1, I.rx, y3, by omega, by simp at hl ⊢; omega, fun r => ?_⟩
  rw [← I.m r, hasR_cutOut, hasR_cons_iff x, hasR_cons_iff y]
  have e1 := fun h : hasR xs' r = true => (hasR_gt x3 h).1
  constructor
  · rintro ((h | h) | h)
    · exact .inl h
    · exact .inr ⟨.inl ⟨by omega, by omega⟩, .inl ⟨by omega, by omega⟩⟩
    · exact .inr ⟨h.1, .inr h.2⟩
  · rintro (h | ⟨h', h | h⟩)
    · exact .inl (.inl h)
    · rcases h' with h' | h'
      · exact .inl (.inr ⟨by omega, by omega⟩)
      · have := e1 h'; omega
    · exact .inr ⟨h', h⟩
def cutR (xs ys : List Rng) (r : Int) : Bool := hasR xs r && hasR ys r
theorem cut_end {xs ys xs' ys' out : List Rng} {p q : Int} (I : CutInv xs ys xs' ys' out p q) (h : xs' = [] ∨ ys' = []) : ∀ r, hasR out r = cutR xs ys r := by
  intro r
  rw [Bool.eq_iff_iff, cutR, Bool.and_eq_true, ← I.m r]
  rcases h with rfl | rfl <;> simp [hasR_nil]

theorem RS.tail {w : World} {B : Nat} {b o cap : Nat} {x : Rng} {xs : List Rng} (h : RS w B (some ⟨b, o, none⟩) cap (x :: xs)) : RS w B (if cap = 1 then some ⟨b, o, none⟩ else some ⟨b, o + 2, none⟩) (cap - 1) xs := by
  obtain ⟨h1, h2, h3, h4⟩ := h
  simp at h1
  refine ⟨by omega, by omega, fun y hy => h3 y (List.mem_cons_of_mem _ hy), fun hn => ?_⟩
  obtain ⟨b', o', e, hb, hg⟩ := h4 (by simp)
  injection e with e
  injection e with e1 e2 e3
  have hc : cap ≠ 1 := by rintro rfl; exact hn (List.length_eq_zero_iff.1 (by omega))
  rw [if_neg hc]
  refine ⟨b, o + 2, rfl, by omega, fun i y hy => ?_⟩
  have := hg (i + 1) y (by simpa using hy)
  rw [← e1, ← e2] at this
  rw [show o + 2 + i * 2 = o + (i + 1) * 2 by omega]
  exact this

set_option maxHeartbeats 8000000 in
set_option maxRecDepth 100000 in
theorem cut_any (A : Option Addr) (cap : Nat) (xs : List Rng) (A' : Option Addr) (cap' : Nat) (ys : List Rng) (w : World) (h : RS w w.heap.size A cap xs) (hF : Fm A cap) (h' : RS w w.heap.size A' cap' ys) (hF' : Fm A' cap')
    (hl : xs.length ≤ 1000000) (hl' : ys.length ≤ 1000000) :
    Calls Try.prog 38 #[.slice A xs.length cap, .slice A' ys.length cap'] w fun e w' => ∃ out : List Rng, right out = true ∧ (∀ r, hasR out r = cutR (known xs) (known ys) r) ∧ out.length ≤ xs.length + ys.length ∧ HoldsR w.heap.size 70 out w e w' := by
  obtain ⟨i0, hi, hz0, hz1, hz2⟩ := info_parts Try.info70
  have C1 := Lib.hid (valid_known A cap xs w h hF)
  have C2 := Lib.hid (fun W (hb : Below w.heap.size w W) => valid_known A' cap' ys W ((h'.below hb).mono hb.size) hF')
  unfold KnownPost at C1 C2
  have hkx : (known xs).length ≤ xs.length := by unfold known; split <;> simp
  have hky : (known ys).length ≤ ys.length := by unfold known; split <;> simp
  have HI0 := Lib.hid (cut_start _ _ (known_right xs) (known_right ys))
  generalize xs.length = L at *
  generalize ys.length = L' at *
  generalize known xs = zs at *
  generalize known ys = us at *
  have HK := Lib.hid (And.intro hkx hky)
  clear h h' hF hF' hkx hky
  go_enter Try.func38, Try.ntmps38
  go_wp2_with fail
  refine C1.out.mono ?_
  rintro e w1 ⟨A1, c1, rfl, hR1, _, hb1⟩
  have H := Lib.hid hR1
  clear hR1
  go_wp2_with fail
  refine (C2.out _ hb1).mono ?_
  rintro e w2 ⟨A2, c2, rfl, hR2, _, hb2⟩
  have hb2' := hb1.trans (hb2.mono hb1.size)
  have H1 := Lib.hid ((H.out.below (hb2.mono hb1.size)).mono hb2'.size)
  have H2 := Lib.hid (hR2.mono hb2.size)
  have HB := Lib.hid hb2'
  clear hR2 H hb1 hb2 hb2'
  go_wp2
  go_loopw [0, 1, 5] (fun a b v wr => ∃ (xs' ys' out : List Rng) (p q : Int) (A1 : Option Addr) (c1 : Nat) (A2 : Option Addr) (c2 : Nat), a = .slice A1 xs'.length c1 ∧ b = .slice A2 ys'.length c2 ∧ RS w2 w2.heap.size A1 c1 xs' ∧ RS w2 w2.heap.size A2 c2 ys' ∧ CutInv zs us xs' ys' out p q ∧ wr.ownsRow w2.heap.size 70 2 v out.length (cells2 out) ∧ Below w2.heap.size w2 wr) (fun a b _ _ => slen a + slen b)
  case atStart => exact ⟨zs, us, [], -1, -1, A1, c1, A2, c2, rfl, rfl, H1.out, H2.out, HI0.out, World.ownsRow_nil _ _ _ _, Below.refl _ _⟩
  case round =>
    clear H1 H2 HI0
    obtain ⟨xs', ys', out, p, q, A1, c1, A2, c2, rfl, rfl, hr1, hr2, I, hown, hb⟩ := hrel
    have HI := Lib.hid I
    clear I
    rcases xs' with _ | ⟨x, xs'⟩
    · have HE := Lib.hid (cut_end HI.out (.inl rfl))
      have HL := Lib.hid HI.out.l
      go_wp2
      go_ret
      exact ⟨out, HI.out.r, HE.out, by have := HL.out; have := HK.out; simp at *; omega, u5, rfl, own_mono hown HB.out.size, HB.out.trans (hb.mono HB.out.size)⟩
    · rcases ys' with _ | ⟨y, ys'⟩
      · have HE := Lib.hid (cut_end HI.out (.inr rfl))
        have HL := Lib.hid HI.out.l
        go_wp2
        go_ret
        exact ⟨out, HI.out.r, HE.out, by have := HL.out; have := HK.out; simp at *; omega, u5, rfl, own_mono hown HB.out.size, HB.out.trans (hb.mono HB.out.size)⟩
      · obtain ⟨b1, o1, rfl, hbl1, hg1⟩ := hr1.2.2.2 (by simp)
        obtain ⟨b2, o2, rfl, hbl2, hg2⟩ := hr2.2.2.2 (by simp)
        obtain ⟨q1, q2⟩ := (hg1.below hbl1 hb) 0 x rfl
        obtain ⟨q3, q4⟩ := (hg2.below hbl2 hb) 0 y rfl
        simp only [Nat.zero_mul, Nat.add_zero] at q1 q2 q3 q4
        have l1 := hr1.1
        have l2 := hr2.1
        have l3 := hr1.2.1
        have l4 := hr2.2.1
        have HT1 := Lib.hid hr1.tail
        have HT2 := Lib.hid hr2.tail
        have HR1 := Lib.hid hr1
        have HR2 := Lib.hid hr2
        have HX := Lib.hid (fun c : x.2 < y.2 => cut_x HI.out c)
        have HY := Lib.hid (fun c : ¬ x.2 < y.2 => cut_y HI.out c)
        clear hr1 hr2 hg1 hg2
        obtain ⟨xl, xh⟩ := x
        obtain ⟨yl, yh⟩ := y
        obtain ⟨n1, hn1⟩ : ∃ n, xs'.length = n := ⟨_, rfl⟩
        obtain ⟨n2, hn2⟩ : ∃ n, ys'.length = n := ⟨_, rfl⟩
        have HN1 := Lib.hid hn1
        have HN2 := Lib.hid hn2
        rw [List.length_cons] at l1 l2
        rw [hn1] at l1
        rw [hn2] at l2
        unfold maxLen at l3 l4
        rw [List.length_cons, List.length_cons, hn1, hn2]
        clear hn1 hn2
        have j1 : (0 : Int) < (n1 : Int) + 1 := by omega
        have j2 : (0 : Int) < (n2 : Int) + 1 := by omega
        go_wp2_with fail
        go_region
        have HW := Lib.hid hb.drew
        have how : wr.drew.ownsRow w2.heap.size 70 2 u5 out.length (cells2 out) := hown
        have QQ := Lib.hid (And.intro ((hb.cell (p := ⟨b1, o1 + 1, none⟩) hbl1).symm.trans q2) ((hb.cell (p := ⟨b2, o2 + 1, none⟩) hbl2).symm.trans q4))
        have hcd := fun (c : max xl yl ≤ min xh yh) => (show cutOut out (xl, xh) (yl, yh) = out ++ [(max xl yl, min xh yh)] from if_pos c)
        have hcn := fun (c : ¬ max xl yl ≤ min xh yh) => (show cutOut out (xl, xh) (yl, yh) = out from if_neg c)
        have HOL := Lib.hid HI.out.l
        generalize wr.drew = W at *
        generalize max xl yl = mlo at *
        generalize min xh yh = mhi at *
        have hWs := HW.out.size
        clear q1 q2 q3 q4 hown hb
        by_cases c : mlo ≤ mhi
        · have HCO := Lib.hid (hcd c)
          clear hcd hcn
          have hlt0 := own_block_lt how
          have how2 := how.alloc (.cells #[.int .i32 mlo, .int .i32 mhi] 70)
          have hnews := news2 W 70 (.int .i32 mlo) (.int .i32 mhi) rfl rfl
          have hol : out.length ≤ 2000000 := by have := HOL.out; have := HK.out; simp at *; omega
          clear how
          go_wp2_with (at_builtin; refine wpList_append_own _ rfl _ _ 43 rfl w2.heap.size 70 i0 (.agg #[.int .i32 0, .int .i32 0]) 2 8 Try.underlying43 hi hz0 hz1 hz2 rfl (by decide) u5 out.length (cells2 out) rfl how2 ⟨W.heap.size, 0, none⟩ 1 1 [.int .i32 mlo, .int .i32 mhi] rfl rfl hnews ?c2 ?c3 ?c4 ?c5 ?_)
          case c2 => first | exact ⟨rfl, rfl⟩ | (intro u hu; simp at hu; rcases hu with rfl | rfl <;> rfl)
          case c3 => unfold maxLen; omega
          case c4 => omega
          case c5 => simp; omega
          intro v' W3 own3 hgrow _
          have HBZ := Lib.hid (show Below w2.heap.size w2 W3 from (HW.out.alloc hWs _).grown hgrow (by simp; omega) (fun k e => (hlt0 k e).1))
          have HO3 := Lib.hid own3
          clear hnews how2 hgrow own3
          have q2' : W3.cell? ⟨b1, o1 + 1, none⟩ = some (.int .i32 xh) := (HBZ.out.cell (p := ⟨b1, o1 + 1, none⟩) hbl1).trans QQ.out.1
          have q4' : W3.cell? ⟨b2, o2 + 1, none⟩ = some (.int .i32 yh) := (HBZ.out.cell (p := ⟨b2, o2 + 1, none⟩) hbl2).trans QQ.out.2
          by_cases cc : xh < yh
          · have HJ := Lib.hid (HX.out cc)
            rw [HCO.out] at HJ
            go_wp2_with fail
            go_quiet (fail)
            go_wp2
            go_roundw
            case rel => exact ⟨xs', (yl, yh) :: ys', out ++ [(mlo, mhi)], _, _, (if c1 = 1 then some ⟨b1, o1, none⟩ else some ⟨b1, o1 + 2, none⟩), c1 - 1, some ⟨b2, o2, none⟩, c2, by rw [HN1.out], by rw [List.length_cons, HN2.out], HT1.out, HR2.out, HJ.out, by rw [cells2_snoc, List.length_append]; exact HO3.out, below_drewN HBZ.out _⟩
            case measure => simp [slen]
          · have HJ := Lib.hid (HY.out (by omega))
            rw [HCO.out] at HJ
            have d2 : decide (xh < yh) = false := by simpa using cc
            go_wp2_with fail
            go_quiet (fail)
            go_wp2
            go_roundw
            case rel => exact ⟨(xl, xh) :: xs', ys', out ++ [(mlo, mhi)], _, _, some ⟨b1, o1, none⟩, c1, (if c2 = 1 then some ⟨b2, o2, none⟩ else some ⟨b2, o2 + 2, none⟩), c2 - 1, by rw [List.length_cons, HN1.out], by rw [HN2.out], HR1.out, HT2.out, HJ.out, by rw [cells2_snoc, List.length_append]; exact HO3.out, below_drewN HBZ.out _⟩
            case measure => simp [slen]
        · have HCO := Lib.hid (hcn c)
          have HBZ := HW
          have d1 : decide (mlo ≤ mhi) = false := by simpa using c
          clear hcd hcn
          have q2' : W.cell? ⟨b1, o1 + 1, none⟩ = some (.int .i32 xh) := (HBZ.out.cell (p := ⟨b1, o1 + 1, none⟩) hbl1).trans QQ.out.1
          have q4' : W.cell? ⟨b2, o2 + 1, none⟩ = some (.int .i32 yh) := (HBZ.out.cell (p := ⟨b2, o2 + 1, none⟩) hbl2).trans QQ.out.2
          by_cases cc : xh < yh
          · have HJ := Lib.hid (HX.out cc)
            rw [HCO.out] at HJ
            go_wp2_with fail
            go_quiet (fail)
            go_wp2
            go_roundw
            case rel => exact ⟨xs', (yl, yh) :: ys', out, _, _, (if c1 = 1 then some ⟨b1, o1, none⟩ else some ⟨b1, o1 + 2, none⟩), c1 - 1, some ⟨b2, o2, none⟩, c2, by rw [HN1.out], by rw [List.length_cons, HN2.out], HT1.out, HR2.out, HJ.out, how, below_drewN HBZ.out _⟩
            case measure => simp [slen]
          · have HJ := Lib.hid (HY.out (by omega))
            rw [HCO.out] at HJ
            have d2 : decide (xh < yh) = false := by simpa using cc
            go_wp2_with fail
            go_quiet (fail)
            go_wp2
            go_roundw
            case rel => exact ⟨(xl, xh) :: xs', ys', out, _, _, some ⟨b1, o1, none⟩, c1, (if c2 = 1 then some ⟨b2, o2, none⟩ else some ⟨b2, o2 + 2, none⟩), c2 - 1, by rw [List.length_cons, HN1.out], by rw [HN2.out], HR1.out, HT2.out, HJ.out, how, below_drewN HBZ.out _⟩
            case measure => simp [slen]

theorem i32_of_right {xs : List Rng} (h : right xs = true) : ∀ x ∈ xs, I32 x := fun x hx => by
  have := (may_iff _).1 (right_may (b := -1) h x hx).1
  exact ⟨by omega, by omega, by omega, by omega⟩
/-- What a call hands back that makes a set: a slice that can be read on. -/
theorem HoldsR.rs {B : Nat} {out : List Rng} {w w' : World} {e : Ending} (h : HoldsR B 70 out w e w') (hr : right out = true) : ∃ A c, e = .returned (.slice A out.length c) ∧ RS w' w'.heap.size A c out ∧ Fm A c ∧ Below B w w' := by
  obtain ⟨v, rfl, hown, hb⟩ := h
  obtain ⟨A, c, rfl, hR⟩ := ownsRow_RS hown (i32_of_right hr)
  exact ⟨A, c, rfl, hR, ownsRow_Fm hown, hb⟩

def minusR (xs ys : List Rng) (r : Int) : Bool := hasR xs r && !hasR ys r
end Go.Proofs.Ytphhdkffnboboaa

namespace Go.Proofs.Ytphhdkffnboboaa
open Go.RowKit Go.Shelf
open Go.Lib

abbrev Sl3 := Option Addr × Nat × List Rng
def accOf (ls : List Sl3) : List Rng := ls.flatMap fun s => known s.2.2
theorem known_len (xs : List Rng) : (known xs).length ≤ xs.length := by unfold known; split <;> simp
theorem acc_step (ls : List Sl3) (k : Nat) (s : Sl3) (h : ls[k]? = some s) : accOf (ls.take (k + 1)) = accOf (ls.take k) ++ known s.2.2 := by
  rw [List.take_add_one, h]
  simp [accOf]
theorem acc_len (ls : List Sl3) (M : Nat) (h : ∀ s ∈ ls, s.2.2.length ≤ M) : (accOf ls).length ≤ ls.length * M := by
  induction ls with
  | nil => simp [accOf]
  | cons s ls ih =>
    have h1 := ih fun t ht => h t (List.mem_cons_of_mem _ ht)
    have h2 := h s List.mem_cons_self
    have h3 := known_len s.2.2
    simp only [accOf, List.flatMap_cons, List.length_append, List.length_cons] at *
    rw [Nat.add_mul]
    omega
theorem acc_may (ls : List Sl3) : ∀ x ∈ accOf ls, may x = true := fun x hx => by
  obtain ⟨s, _, hs⟩ := List.mem_flatMap.1 hx
  exact (right_may (b := -1) (known_right s.2.2) x hs).1
theorem acc_has (ls : List Sl3) (r : Int) : hasR (accOf ls) r = ls.any fun s => hasR (known s.2.2) r := by
  induction ls with
  | nil => rfl
  | cons s ls ih =>
    show hasR (known s.2.2 ++ accOf ls) r = _
    rw [hasR_append, ih]
    rfl
/-- A list of sets. -/
def SetsAt (w : World) (A : Option Addr) (ls : List Sl3) : Prop :=
  (ls ≠ [] → ∃ b o, A = some ⟨b, o, none⟩ ∧ b < w.heap.size ∧ ∀ i s, ls[i]? = some s → w.cell? ⟨b, o + i, none⟩ = some (.slice s.1 s.2.2.length s.2.1)) ∧
  ∀ s ∈ ls, RS w w.heap.size s.1 s.2.1 s.2.2 ∧ Fm s.1 s.2.1 ∧ s.2.2.length ≤ 100000

end Go.Proofs.Ytphhdkffnboboaa

namespace Go.Proofs.Ytphhdkffnboboaa
open Go.RowKit Go.Shelf
open Go.Lib

theorem neq74 (a b c d : Int) (w : World) : (binOp .neq 70 (.agg #[.int .i32 a, .int .i32 b]) (.agg #[.int .i32 c, .int .i32 d])).run Try.prog w = .ok (.bool (!(a == c && b == d))) w := by
  have u21 := Try.underlying21
  have a21 := Try.isAgg21
  have z21 := Try.sizeOf21
  have hS : Try.prog.underlying 70 = some (.struct (Try.prog.fieldsOf 70)) := by kernel_rfl
  have hp : Try.prog.stoodInHeld 70 = false := by kernel_rfl
  rw [run_neq_struct, show (10000 : Nat) = 9999 + 1 from rfl, run_equalIn_agg w 9999 70 _ _ hS hp]
  simp only [Program.fieldsOf, Try.underlying70]
  go_simp
  by_cases h1 : a = c <;> by_cases h2 : b = d <;> simp [h1, h2]
theorem guard74 (op : BinOp) (x y : Operand) (xs ys : Array Value) (w : World) : (eqGuard op 70 x y (.agg xs) (.agg ys)).run Try.prog w = .ok () w := run_eqGuard_agg w op 70 x y xs ys (by kernel_rfl)

set_option maxHeartbeats 4000000 in
set_option maxRecDepth 100000 in
theorem same_any2 (A : Option Addr) (cap : Nat) (xs : List Rng) (A' : Option Addr) (cap' : Nat) (ys : List Rng) (w : World) (h : RS w w.heap.size A cap xs) (hF : Fm A cap) (h' : RS w w.heap.size A' cap' ys) (hF' : Fm A' cap') :
    Calls Try.prog 26 #[.slice A xs.length cap, .slice A' ys.length cap'] w fun e w' => e = .returned (.bool (decide (known xs = known ys))) ∧ Below w.heap.size w w' := by
  have C1 := Lib.hid (valid_known A cap xs w h hF)
  have C2 := Lib.hid (fun W (hb : Below w.heap.size w W) => valid_known A' cap' ys W ((h'.below hb).mono hb.size) hF')
  unfold KnownPost at C1 C2
  have hkx : (known xs).length ≤ 9223372036854775807 := by
    have h1 : (known xs).length ≤ xs.length := by unfold known; split <;> simp
    have := h.1; have := h.2.1; unfold maxLen at this; omega
  have hky : (known ys).length ≤ 9223372036854775807 := by
    have h1 : (known ys).length ≤ ys.length := by unfold known; split <;> simp
    have := h'.1; have := h'.2.1; unfold maxLen at this; omega
  generalize xs.length = L at *
  generalize ys.length = L' at *
  generalize known xs = xs at *
  generalize known ys = ys at *
  obtain ⟨n, hn⟩ : ∃ n, xs.length = n := ⟨_, rfl⟩
  obtain ⟨m, hn'⟩ : ∃ m, ys.length = m := ⟨_, rfl⟩
  have HN := Lib.hid hn
  have HN' := Lib.hid hn'
  rw [hn] at hkx C1
  rw [hn'] at hky C2
  clear h hn h' hn' hF hF'
  go_enter Try.func26, Try.ntmps26
  go_wp2_with fail
  refine C1.out.mono ?_
  rintro e w1 ⟨A1, c1, rfl, hR1, _, hb1⟩
  have H := Lib.hid hR1
  clear hR1
  go_wp2_with fail
  refine (C2.out _ hb1).mono ?_
  rintro e w2 ⟨A2, c2, rfl, hR2, _, hb2⟩
  have H' := Lib.hid hR2
  have hb2' := hb1.trans (hb2.mono hb1.size)
  have HR := Lib.hid (H.out.below (hb2.mono hb1.size))
  have HB := Lib.hid hb2'
  clear hR2 H hb1 hb2 hb2'
  by_cases hnm : n = m
  · subst hnm
    go_wp2
    go_loopw [17] (fun i wr => ∃ k q : Nat, i = .int .i64 k ∧ k ≤ n ∧ xs.take k = ys.take k ∧ wr = w2.drewN q) (fun i _ => n - (RowKit.intOf i).toNat)
    case atStart => exact ⟨0, 0, rfl, Nat.zero_le _, rfl, rfl⟩
    case round =>
      obtain ⟨k, q, rfl, hk, hF, rfl⟩ := hrel
      have HF := Lib.hid hF
      clear hF
      by_cases hlt : k < n
      · obtain ⟨x, hx⟩ : ∃ x, xs[k]? = some x := ⟨xs[k]'(by have := HN.out; omega), List.getElem?_eq_getElem _⟩
        obtain ⟨y, hy⟩ : ∃ y, ys[k]? = some y := ⟨ys[k]'(by have := HN'.out; omega), List.getElem?_eq_getElem _⟩
        obtain ⟨b, o, rfl, hbl, hRg⟩ := HR.out.2.2.2 (by intro e; rw [e] at hx; simp at hx)
        obtain ⟨b', o', rfl, hbl', hRg'⟩ := H'.out.2.2.2 (by intro e; rw [e] at hy; simp at hy)
        obtain ⟨q1, q2⟩ := hRg k x hx
        obtain ⟨q3, q4⟩ := hRg' k y hy
        have HS := Lib.hid (take_eq_step xs ys k x y hx hy HF.out)
        have HE := Lib.hid (show xs = ys → x = y from fun e => by rw [e, hy] at hx; injection hx with hx; exact hx.symm)
        clear hRg hx hRg' hy
        obtain ⟨lo, hi⟩ := x
        obtain ⟨lo', hi'⟩ := y
        have i1 : (k : Int) < (n : Int) := by omega
        have i0 : (0 : Int) ≤ (k : Int) := by omega
        have e1 := neq74 lo hi lo' hi'
        have e2 := guard74
        have u21 := Try.underlying21
        by_cases c : lo = lo' ∧ hi = hi'
        · obtain ⟨rfl, rfl⟩ := c
          have HT := Lib.hid (HS.out.2 rfl)
          have hB : (!(lo == lo && hi == hi)) = false := by simp
          rw [hB] at e1
          go_wp2_with fail
          go_quiet (fail)
          go_wp2
          go_roundw
          case rel => exact ⟨k + 1, _, by go_num, by omega, HT.out, rfl⟩
          case measure => simp [RowKit.intOf]; omega
        · have HT := Lib.hid (show decide (xs = ys) = false by simp; intro e; have := HE.out e; simp at this; exact c this)
          have hB : (!(lo == lo' && hi == hi')) = true := by simp; omega
          rw [hB] at e1
          go_wp2_with fail
          go_quiet (fail)
          go_wp2
          go_ret
          exact ⟨by rw [HT.out]; rfl, HB.out.trans ((below_drewN (below_drewN (Below.refl _ _) _) _))⟩
      · have hkn : k = n := by omega
        have HT := Lib.hid (show decide (xs = ys) = true by
          have h := HF.out
          rw [List.take_of_length_le (by have := HN.out; omega), List.take_of_length_le (by have := HN'.out; omega)] at h
          simpa using h)
        subst hkn
        go_wp2
        go_ret
        exact ⟨by rw [HT.out]; rfl, below_drewN HB.out _⟩
  · have HT := Lib.hid (show decide (xs = ys) = false by simp; intro e; rw [e, HN'.out] at HN; exact hnm HN.out.symm)
    have i1 : ¬ (n : Int) = (m : Int) := by omega
    go_wp2
    go_ret
    exact ⟨by rw [HT.out]; rfl, HB.out⟩
end Go.Proofs.Ytphhdkffnboboaa

namespace Go.Proofs.Ytphhdkffnboboaa

/-- The right list of the numbers that f wants, if there is one. -/
noncomputable def norm (f : Int → Bool) : List Rng := open Classical in if h : ∃ out : List Rng, right out = true ∧ ∀ r, hasR out r = f r then h.choose else []
theorem norm_right (f : Int → Bool) : right (norm f) = true := by
  unfold norm
  split
  · rename_i h; exact h.choose_spec.1
  · rfl
theorem norm_eq {f : Int → Bool} {out : List Rng} (hr : right out = true) (h : ∀ r, hasR out r = f r) : out = norm f := by
  have hx : ∃ out : List Rng, right out = true ∧ ∀ r, hasR out r = f r := ⟨out, hr, h⟩
  unfold norm
  rw [dif_pos hx]
  exact right_ext (b := -1) hr hx.choose_spec.1 fun r => by rw [h r, hx.choose_spec.2 r]
theorem norm_has {f : Int → Bool} {out : List Rng} (hr : right out = true) (h : ∀ r, hasR out r = f r) (r : Int) : hasR (norm f) r = f r := by rw [← norm_eq hr h, h r]
theorem norm_self {xs : List Rng} (h : right xs = true) : norm (hasR xs) = xs := (norm_eq h fun _ => rfl).symm

def cardN (N : Nat) (f : Int → Bool) : Nat := (List.range N).countP fun n : Nat => f (n : Int)
def card (f : Int → Bool) : Nat := cardN 1114112 f
theorem countP_or_disj {α : Type} (p q : α → Bool) (l : List α) (h : ∀ x ∈ l, ¬ (p x = true ∧ q x = true)) : l.countP (fun x => p x || q x) = l.countP p + l.countP q := by
  induction l with
  | nil => rfl
  | cons x l ih =>
    have h1 := ih fun y hy => h y (List.mem_cons_of_mem _ hy)
    have h2 := h x List.mem_cons_self
    simp only [List.countP_cons, h1]
    cases hp : p x <;> cases hq : q x <;> simp [hp, hq] at h2 ⊢ <;> omega
theorem countP_interval (lo hi : Int) (N : Nat) (h0 : 0 ≤ lo) (h1 : lo ≤ hi) : ((List.range N).countP fun n : Nat => decide (lo ≤ (n : Int)) && decide ((n : Int) ≤ hi) : Int) = if (N : Int) ≤ lo then 0 else if (N : Int) ≤ hi + 1 then N - lo else hi - lo + 1 := by
  induction N with
  | zero => simp; omega
  | succ N ih =>
    rw [List.range_succ, List.countP_append, Int.natCast_add, ih]
    simp only [List.countP_cons, List.countP_nil, Nat.zero_add, Int.natCast_succ]
    by_cases a : lo ≤ (N : Int)
    · by_cases b : (N : Int) ≤ hi
      · simp only [a, b, decide_true, Bool.and_self, if_true]
        split <;> split <;> (try split) <;> omega
      · simp only [a, b, decide_true, decide_false, Bool.and_false, Bool.false_eq_true, if_false]
        split <;> split <;> (try split) <;> omega
    · simp only [a, decide_false, Bool.false_and, Bool.false_eq_true, if_false]
      split <;> split <;> (try split) <;> omega
theorem card_range (x : Rng) (h : may x = true) : (card (fun r => decide (x.1 ≤ r) && decide (r ≤ x.2)) : Int) = x.2 - x.1 + 1 := by
  obtain ⟨h1, h2, h3⟩ := (may_iff x).1 h
  have := countP_interval x.1 x.2 1114112 h1 h2
  unfold card cardN
  rw [this]
  split
  · omega
  · split <;> omega
theorem card_or {f g : Int → Bool} (h : ∀ r, ¬ (f r = true ∧ g r = true)) : card (fun r => f r || g r) = card f + card g := countP_or_disj _ _ _ fun x _ => h x
theorem countR_card_from {b : Int} {xs : List Rng} (h : rightFrom b xs = true) : countR xs = card (hasR xs) := by
  induction xs generalizing b with
  | nil =>
    have : card (hasR []) = 0 := by unfold card cardN; rw [List.countP_eq_zero]; intro n _; simp [hasR]
    rw [this]
    rfl
  | cons x xs ih =>
    simp only [rightFrom, Bool.and_eq_true, decide_eq_true_eq] at h
    have e : card (hasR (x :: xs)) = card (fun r => decide (x.1 ≤ r) && decide (r ≤ x.2)) + card (hasR xs) := by
      rw [← card_or (f := fun r => decide (x.1 ≤ r) && decide (r ≤ x.2)) (g := hasR xs)]
      · rfl
      · rintro r ⟨a, c⟩
        have := (hasR_gt h.2 c).1
        simp at a
        omega
    rw [countR_cons, ih h.2, e, Int.natCast_add, card_range x h.1.2]
theorem countR_card {xs : List Rng} (h : right xs = true) : countR xs = card (hasR xs) := countR_card_from h
theorem cardN_not (N : Nat) (f : Int → Bool) : cardN N f + cardN N (fun r => !f r) = N := by
  have := List.length_eq_countP_add_countP (fun n : Nat => f n) (l := List.range N)
  rw [List.length_range] at this
  unfold cardN
  rw [show (List.range N).countP (fun n : Nat => !f n) = (List.range N).countP (fun n : Nat => ¬ f n = true) from List.countP_congr fun n _ => by simp]
  exact this.symm
theorem card_not (f : Int → Bool) : card f + card (fun r => !f r) = 1114112 := cardN_not _ f
theorem cardN_congr {N : Nat} {f g : Int → Bool} (h : ∀ n : Nat, n < N → f n = g n) : cardN N f = cardN N g := by
  unfold cardN
  apply List.countP_congr
  intro n hn
  rw [h n (List.mem_range.1 hn)]
theorem card_congr {f g : Int → Bool} (h : ∀ r : Int, 0 ≤ r → r ≤ 1114111 → f r = g r) : card f = card g := cardN_congr fun n hn => h n (by omega) (by omega)
end Go.Proofs.Ytphhdkffnboboaa

namespace Go.Proofs.Ytphhdkffnboboaa
open Go.RowKit Go.Shelf
open Go.Lib

/-- A list of ranges in memory, with its address's form. -/
structure SW (w : World) (A : Option Addr) (c : Nat) (xs : List Rng) : Prop where
  r : RS w w.heap.size A c xs
  f : Fm A c
theorem SW.below {w w' : World} {A : Option Addr} {c : Nat} {xs : List Rng} (h : SW w A c xs) (hb : Below w.heap.size w w') : SW w' A c xs := ⟨(h.r.below hb).mono hb.size, h.f⟩
theorem SW.nil (w : World) : SW w none 0 [] := ⟨RS_nil _ _, .inl ⟨rfl, rfl⟩⟩
theorem sw_own {B T : Nat} {w : World} {v : Value} {xs : List Rng} (h : w.ownsRow B T 2 v xs.length (cells2 xs)) (hI : ∀ x ∈ xs, I32 x) : ∃ A c, v = .slice A xs.length c ∧ SW w A c xs := by
  obtain ⟨A, c, rfl, hR⟩ := ownsRow_RS h hI
  exact ⟨A, c, rfl, hR, ownsRow_Fm h⟩

/-- What a call hands back that makes a list. -/
def SP (xs : List Rng) (w : World) (e : Ending) (w' : World) : Prop := ∃ A c, e = .returned (.slice A xs.length c) ∧ SW w' A c xs ∧ Below w.heap.size w w'
theorem sp_of {T : Nat} {xs : List Rng} {w : World} {e : Ending} {w' : World} (h : HoldsR w.heap.size T xs w e w') (hI : ∀ x ∈ xs, I32 x) : SP xs w e w' := by
  obtain ⟨v, rfl, hown, hb⟩ := h
  obtain ⟨A, c, rfl, hS⟩ := sw_own hown hI
  exact ⟨A, c, rfl, hS, hb⟩
theorem sp_norm {T : Nat} {f : Int → Bool} {out : List Rng} {w : World} {e : Ending} {w' : World} (h : HoldsR w.heap.size T out w e w') (hr : right out = true) (hf : ∀ r, hasR out r = f r) : SP (norm f) w e w' := by
  rw [← norm_eq hr hf]
  exact sp_of h (i32_of_right hr)

theorem make_ok (A : Option Addr) (c : Nat) (xs : List Rng) (w : World) (h : SW w A c xs) (hl : xs.length ≤ 1000) (hm : xs.all may = true) :
    Calls Try.prog 75 #[.slice A xs.length c] w fun e w' => ∃ A' c', e = .returned (.tuple #[.slice A' (norm (hasR xs)).length c', .int .i64 0]) ∧ SW w' A' c' (norm (hasR xs)) ∧ (norm (hasR xs)).length ≤ xs.length ∧ (∀ r, hasR (norm (hasR xs)) r = hasR xs r) ∧ Below w.heap.size w w' := by
  refine (make_any A c xs w h.r h.f (by omega)).mono ?_
  rintro e w' ⟨hb, h2⟩
  rw [if_neg (by omega), if_pos hm] at h2
  obtain ⟨v, out, rfl, hr, hh, hol, hown⟩ := h2
  have hn := norm_eq hr hh
  subst hn
  obtain ⟨A', c', rfl, hS⟩ := sw_own hown (i32_of_right hr)
  exact ⟨A', c', rfl, hS, hol, hh, hb⟩
theorem make_bad (A : Option Addr) (c : Nat) (xs : List Rng) (w : World) (h : SW w A c xs) (hl : xs.length ≤ 1000) (hm : xs.all may = false) :
    Calls Try.prog 75 #[.slice A xs.length c] w fun e w' => e = .returned (.tuple #[.slice none 0 0, .int .i64 1]) ∧ Below w.heap.size w w' := by
  refine (make_any A c xs w h.r h.f (by omega)).mono ?_
  rintro e w' ⟨hb, h2⟩
  rw [if_neg (by omega), hm, if_neg (by simp)] at h2
  exact ⟨h2, hb⟩
theorem make_long (A : Option Addr) (c : Nat) (xs : List Rng) (w : World) (h : SW w A c xs) (hl : 1000 < xs.length) (hl2 : xs.length ≤ 1000000) :
    Calls Try.prog 75 #[.slice A xs.length c] w fun e w' => e = .returned (.tuple #[.slice none 0 0, .int .i64 3]) ∧ Below w.heap.size w w' := by
  refine (make_any A c xs w h.r h.f hl2).mono ?_
  rintro e w' ⟨hb, h2⟩
  rw [if_pos hl] at h2
  exact ⟨h2, hb⟩
/-- An argument. -/
structure AW (w : World) (A : Option Addr) (c : Nat) (xs : List Rng) : Prop where
  r : RS w w.heap.size A c xs
  f : Fw A c
theorem AW.below {w w' : World} {A : Option Addr} {c : Nat} {xs : List Rng} (h : AW w A c xs) (hb : Below w.heap.size w w') : AW w' A c xs := ⟨(h.r.below hb).mono hb.size, h.f⟩
theorem AW.nil (w : World) : AW w none 0 [] := ⟨RS_nil _ _, fun _ => rfl⟩
/-- What Known hands back of an argument. -/
def AP (xs : List Rng) (w : World) (e : Ending) (w' : World) : Prop := ∃ A c, e = .returned (.slice A xs.length c) ∧ AW w' A c xs ∧ Below w.heap.size w w'
theorem to_sp (A : Option Addr) (c : Nat) (xs : List Rng) (w : World) (h : AW w A c xs) (hl : xs.length ≤ 1000000) : Calls Try.prog 46 #[.slice A xs.length c] w (SP xs w) := by
  refine (to_any A c xs w h.r hl).mono ?_
  rintro e w' hH
  exact sp_of hH h.r.2.2.1
theorem not_sp (A : Option Addr) (c : Nat) (xs : List Rng) (w : World) (h : SW w A c xs) (hr : right xs = true) (hl : xs.length ≤ 1000000) :
    Calls Try.prog 63 #[.slice A xs.length c] w fun e w' => SP (norm (notR xs)) w e w' ∧ (∀ r, hasR (norm (notR xs)) r = notR xs r) ∧ (norm (notR xs)).length ≤ xs.length + 1 := by
  refine (not_any A c xs w h.r h.f hl).mono ?_
  rintro e w' ⟨out, ho, hh, hol, hH⟩
  rw [known_of hr] at hh
  refine ⟨sp_norm hH ho hh, norm_has ho hh, ?_⟩
  rw [← norm_eq ho hh]
  exact hol
theorem cut_sp (A : Option Addr) (c : Nat) (xs : List Rng) (A' : Option Addr) (c' : Nat) (ys : List Rng) (w : World) (h : SW w A c xs) (h' : SW w A' c' ys) (hr : right xs = true) (hr' : right ys = true) (hl : xs.length ≤ 1000000) (hl' : ys.length ≤ 1000000) :
    Calls Try.prog 38 #[.slice A xs.length c, .slice A' ys.length c'] w fun e w' => SP (norm (cutR xs ys)) w e w' ∧ (∀ r, hasR (norm (cutR xs ys)) r = cutR xs ys r) ∧ (norm (cutR xs ys)).length ≤ xs.length + ys.length := by
  refine (cut_any A c xs A' c' ys w h.r h.f h'.r h'.f hl hl').mono ?_
  rintro e w' ⟨out, ho, hh, hol, hH⟩
  rw [known_of hr, known_of hr'] at hh
  refine ⟨sp_norm hH ho hh, norm_has ho hh, ?_⟩
  rw [← norm_eq ho hh]
  exact hol
def orR (xs ys : List Rng) (r : Int) : Bool := hasR xs r || hasR ys r
theorem same_sp (A : Option Addr) (c : Nat) (xs : List Rng) (A' : Option Addr) (c' : Nat) (ys : List Rng) (w : World) (h : SW w A c xs) (h' : SW w A' c' ys) (_hr : right xs = true) (e : xs = ys) :
    Calls Try.prog 26 #[.slice A xs.length c, .slice A' ys.length c'] w fun e w' => e = .returned (.bool true) ∧ Below w.heap.size w w' := by
  subst e
  refine (same_any2 A c xs A' c' xs w h.r h.f h'.r h'.f).mono ?_
  rintro e w' ⟨rfl, hb⟩
  exact ⟨by simp, hb⟩
theorem count_sp (A : Option Addr) (c : Nat) (xs : List Rng) (w : World) (h : SW w A c xs) (hr : right xs = true) :
    Calls Try.prog 37 #[.slice A xs.length c] w fun e w' => e = .returned (.int .i64 (countR xs)) ∧ Below w.heap.size w w' := by
  have := count_any' A c xs w h.r
  rwa [known_of hr] at this
end Go.Proofs.Ytphhdkffnboboaa

namespace Go.Proofs.Ytphhdkffnboboaa

def extP (xs : List Rng) (x : Rng) : List Rng := match xs.getLast? with
  | some y => if y.2 + 1 = x.1 then xs.dropLast ++ [(y.1, x.2)] else xs ++ [x]
  | none => xs ++ [x]
theorem extP_nil (x : Rng) : extP [] x = [x] := rfl
theorem extP_snoc (ys : List Rng) (y x : Rng) : extP (ys ++ [y]) x = if y.2 + 1 = x.1 then ys ++ [(y.1, x.2)] else (ys ++ [y]) ++ [x] := by
  unfold extP
  rw [List.getLast?_append]
  simp
theorem extP_len (xs : List Rng) (x : Rng) : (extP xs x).length ≤ xs.length + 1 := by
  rcases List.eq_nil_or_concat xs with rfl | ⟨ys, y, rfl⟩
  · simp [extP_nil]
  · rw [List.concat_eq_append, extP_snoc]
    split <;> simp
theorem hasR_hi {b : Int} {xs : List Rng} (h : rightFrom b xs = true) {r : Int} (hr : hasR xs r = true) : r < hiOf b xs := by
  induction xs generalizing b r with
  | nil => simp [hasR] at hr
  | cons x xs ih =>
    simp only [rightFrom, Bool.and_eq_true, decide_eq_true_eq] at h
    obtain ⟨⟨h1, h2⟩, h3⟩ := h
    show r < hiOf (x.2 + 1) xs
    rcases (hasR_cons_iff x xs r).1 hr with h4 | h4
    · cases xs with
      | nil => show r < x.2 + 1; omega
      | cons y ys =>
        have h5 := h3
        simp only [rightFrom, Bool.and_eq_true, decide_eq_true_eq, may_iff] at h5
        have : hasR (y :: ys) y.1 = true := (hasR_cons_iff _ _ _).2 (.inl ⟨by omega, by omega⟩)
        have := ih h3 this
        omega
    · exact ih h3 h4
theorem hiOf_bd {b : Int} {xs : List Rng} (h : rightFrom b xs = true) (hb : b ≤ 1114112) : (xs.length : Int) + b ≤ hiOf b xs ∧ hiOf b xs ≤ 1114112 := by
  induction xs generalizing b with
  | nil => exact ⟨by simp [hiOf], hb⟩
  | cons x xs ih =>
    simp only [rightFrom, Bool.and_eq_true, decide_eq_true_eq, may_iff] at h
    obtain ⟨⟨h1, h2⟩, h3⟩ := h
    have := ih h3 (by omega)
    show _ ≤ hiOf (x.2 + 1) xs ∧ hiOf (x.2 + 1) xs ≤ _
    simp only [List.length_cons]
    omega
theorem right_len2 {xs : List Rng} (h : right xs = true) : xs.length ≤ 1114113 := by
  have := hiOf_bd h (by omega)
  omega
theorem extP_ok {xs : List Rng} {x : Rng} (h : right xs = true) (hx : may x = true) (hb : ∀ r, hasR xs r = true → r < x.1) :
    right (extP xs x) = true ∧ ∀ r, hasR (extP xs x) r = (hasR xs r || (decide (x.1 ≤ r) && decide (r ≤ x.2))) := by
  have hx' := (may_iff x).1 hx
  rcases List.eq_nil_or_concat xs with rfl | ⟨ys, y, rfl⟩
  · rw [extP_nil]
    refine ⟨?_, fun r => by simp [hasR]⟩
    simp only [right, rightFrom, hx, Bool.and_true, decide_eq_true_eq]
    omega
  · rw [List.concat_eq_append] at *
    have h' := h
    unfold right at h'
    rw [rightFrom_snoc] at h'
    simp only [Bool.and_eq_true, decide_eq_true_eq, may_iff] at h'
    obtain ⟨⟨h1, h2⟩, h3⟩ := h'
    have hy : hasR (ys ++ [y]) y.2 = true := by
      rw [hasR_append]
      have : hasR [y] y.2 = true := (hasR_cons_iff _ _ _).2 (.inl ⟨by omega, by omega⟩)
      rw [this, Bool.or_true]
    have hlt := hb _ hy
    rw [extP_snoc]
    split
    · rename_i c
      refine ⟨?_, fun r => ?_⟩
      · unfold right
        rw [rightFrom_snoc]
        simp only [Bool.and_eq_true, decide_eq_true_eq, may_iff]
        exact ⟨⟨h1, h2⟩, by omega, by omega, by omega⟩
      · rw [hasR_append, hasR_append, Bool.eq_iff_iff]
        simp only [hasR_cons, hasR_nil, Bool.or_false, Bool.or_eq_true, Bool.and_eq_true, decide_eq_true_eq]
        constructor
        · rintro (h4 | h4)
          · exact .inl (.inl h4)
          · by_cases c2 : r ≤ y.2
            · exact .inl (.inr ⟨h4.1, c2⟩)
            · exact .inr ⟨by omega, h4.2⟩
        · rintro ((h4 | h4) | h4)
          · exact .inl h4
          · exact .inr ⟨h4.1, by omega⟩
          · exact .inr ⟨by omega, h4.2⟩
    · refine ⟨?_, fun r => ?_⟩
      · unfold right
        rw [rightFrom_snoc, hiOf_snoc]
        simp only [Bool.and_eq_true, decide_eq_true_eq]
        exact ⟨⟨h, by omega⟩, hx⟩
      · rw [hasR_append, hasR_cons, hasR_nil, Bool.or_false]
theorem i32_ext {xs : List Rng} {x : Rng} (h : ∀ y ∈ xs, I32 y) (hx : I32 x) : ∀ y ∈ extP xs x, I32 y := by
  rcases List.eq_nil_or_concat xs with rfl | ⟨ys, z, rfl⟩
  · rw [extP_nil]; intro y hy; simp at hy; subst hy; exact hx
  · rw [List.concat_eq_append] at *
    rw [extP_snoc]
    have hz := h z (by simp)
    split
    · intro y hy
      rcases List.mem_append.1 hy with hy | hy
      · exact h y (by simp [hy])
      · simp at hy; subst hy; unfold I32 at *; exact ⟨hz.1, hz.2.1, hx.2.2.1, hx.2.2.2⟩
    · intro y hy
      rcases List.mem_append.1 hy with hy | hy
      · exact h y hy
      · simp at hy; subst hy; exact hx

/-- Of the first k numbers those of a class. -/
def clsTo (f : Nat → Int) (c : Int) (k : Nat) (r : Int) : Bool := decide (0 ≤ r) && decide (r < k) && decide (f r.toNat = c)
theorem clsTo_iff (f : Nat → Int) (c : Int) (k : Nat) (r : Int) : clsTo f c k r = true ↔ 0 ≤ r ∧ r < k ∧ f r.toNat = c := by simp [clsTo, and_assoc]
theorem clsTo_yes {f : Nat → Int} {c : Int} {k : Nat} (h : f k = c) (r : Int) : clsTo f c (k + 1) r = (clsTo f c k r || (decide ((k : Int) ≤ r) && decide (r ≤ (k : Int)))) := by
  rw [Bool.eq_iff_iff]
  simp only [Bool.or_eq_true, clsTo_iff, Bool.and_eq_true, decide_eq_true_eq]
  constructor
  · rintro ⟨h1, h2, h3⟩
    by_cases e : r = k
    · exact .inr ⟨by omega, by omega⟩
    · exact .inl ⟨h1, by omega, h3⟩
  · rintro (⟨h1, h2, h3⟩ | h1)
    · exact ⟨h1, by omega, h3⟩
    · have e : r = k := by omega
      subst e
      exact ⟨by omega, by omega, by simpa using h⟩
theorem clsTo_no {f : Nat → Int} {c : Int} {k : Nat} (h : f k ≠ c) (r : Int) : clsTo f c (k + 1) r = clsTo f c k r := by
  rw [Bool.eq_iff_iff]
  simp only [clsTo_iff]
  constructor
  · rintro ⟨h1, h2, h3⟩
    refine ⟨h1, ?_, h3⟩
    by_cases e : r = k
    · subst e; exact absurd (by simpa using h3) h
    · omega
  · rintro ⟨h1, h2, h3⟩
    exact ⟨h1, by omega, h3⟩
/-- A list that is right and holds just what is told. -/
def Tells (xs : List Rng) (P : Int → Bool) : Prop := right xs = true ∧ ∀ r, hasR xs r = P r
theorem Tells.eq {xs : List Rng} {P : Int → Bool} (h : Tells xs P) : xs = norm P := norm_eq h.1 h.2
theorem Tells.congr {xs : List Rng} {P Q : Int → Bool} (h : Tells xs P) (e : ∀ r, P r = Q r) : Tells xs Q := ⟨h.1, fun r => (h.2 r).trans (e r)⟩
theorem tells_zero (f : Nat → Int) (c : Int) : Tells [] (clsTo f c 0) := ⟨rfl, fun r => by
  rw [hasR_nil]
  symm
  rw [Bool.eq_false_iff]
  intro h
  have := (clsTo_iff _ _ _ _).1 h
  omega⟩
theorem tells_yes {f : Nat → Int} {c : Int} {k : Nat} {xs : List Rng} (h : Tells xs (clsTo f c k)) (hk : k < 1114112) (e : f k = c) : Tells (extP xs ((k : Int), (k : Int))) (clsTo f c (k + 1)) := by
  have := extP_ok (x := ((k : Int), (k : Int))) h.1 ((may_iff _).2 ⟨by simp, by simp, by simp; omega⟩) (fun r hr => by
    rw [h.2] at hr
    have := (clsTo_iff _ _ _ _).1 hr
    simp; omega)
  exact ⟨this.1, fun r => by rw [this.2, clsTo_yes e, h.2]⟩
theorem tells_no {f : Nat → Int} {c : Int} {k : Nat} {xs : List Rng} (h : Tells xs (clsTo f c k)) (e : f k ≠ c) : Tells xs (clsTo f c (k + 1)) := h.congr fun r => (clsTo_no e r).symm

/-- Of the blocks ahead of t all numbers of a class, and of block t those in some first ranges. -/
def inBlk (F : Nat → Int) (c : Int) (t : Nat) (ws : List Rng) (r : Int) : Bool := clsTo F c (256 * t) r || hasR ws (r - 256 * (t : Int))
theorem inBlk_nil (F : Nat → Int) (c : Int) (t : Nat) (r : Int) : inBlk F c t [] r = clsTo F c (256 * t) r := by simp [inBlk, hasR]
theorem tells_blk {F : Nat → Int} {c : Int} {t : Nat} {out ws : List Rng} {j : Nat} {x : Rng} (ht : t < 4352) (h : Tells out (inBlk F c t (ws.take j))) (hw : Tells ws (clsTo (fun i => F (256 * t + i)) c 256)) (hx : ws[j]? = some x) :
    Tells (extP out (256 * (t : Int) + x.1, 256 * (t : Int) + x.2)) (inBlk F c t (ws.take (j + 1))) ∧ 0 ≤ x.1 ∧ x.1 ≤ x.2 ∧ x.2 ≤ 255 := by
  have hr := hw.1
  have hmem := List.mem_of_getElem? hx
  have hm := (may_iff x).1 (right_may hr x hmem).1
  have hin : hasR ws x.2 = true := (hasR_iff _ _).2 ⟨x, hmem, by omega, by omega⟩
  rw [hw.2] at hin
  have h255 := ((clsTo_iff _ _ _ _).1 hin).2.1
  have htk : ws.take (j + 1) = ws.take j ++ [x] := by rw [List.take_add_one, hx]; rfl
  have hr2 : rightFrom (-1) (ws.take (j + 1)) = true := rightFrom_take hr _
  rw [htk, rightFrom_snoc] at hr2
  simp only [Bool.and_eq_true, decide_eq_true_eq] at hr2
  refine ⟨?_, by omega, by omega, by omega⟩
  have hk := extP_ok (x := (256 * (t : Int) + x.1, 256 * (t : Int) + x.2)) h.1 ((may_iff _).2 ⟨by simp; omega, by simp; omega, by simp; omega⟩) (fun r hr => by
    rw [h.2] at hr
    simp only [inBlk, Bool.or_eq_true, clsTo_iff] at hr
    rcases hr with hr | hr
    · simp; omega
    · have := hasR_hi (rightFrom_take hr2.1.1 j) (xs := (ws.take j).take j) (by rw [List.take_take, Nat.min_self]; exact hr)
      rw [List.take_take, Nat.min_self] at this
      simp; omega)
  refine ⟨hk.1, fun r => ?_⟩
  rw [hk.2, h.2]
  unfold inBlk
  rw [htk, hasR_append, hasR_cons, hasR_nil, Bool.or_false, Bool.or_assoc]
  congr 2
  rw [Bool.eq_iff_iff]
  simp only [Bool.and_eq_true, decide_eq_true_eq]
  constructor <;> (rintro ⟨h1, h2⟩; constructor <;> omega)
theorem tells_next {F : Nat → Int} {c : Int} {t : Nat} {out ws : List Rng} (h : Tells out (inBlk F c t ws)) (hw : Tells ws (clsTo (fun i => F (256 * t + i)) c 256)) : Tells out (clsTo F c (256 * (t + 1))) := by
  refine h.congr fun r => ?_
  unfold inBlk
  rw [hw.2, Bool.eq_iff_iff]
  simp only [Bool.or_eq_true, clsTo_iff]
  constructor
  · rintro (⟨h1, h2, h3⟩ | ⟨h1, h2, h3⟩)
    · exact ⟨h1, by omega, h3⟩
    · refine ⟨by omega, by omega, ?_⟩
      rw [← h3]
      congr 1
      omega
  · rintro ⟨h1, h2, h3⟩
    by_cases e : r < ((256 * t : Nat) : Int)
    · exact .inl ⟨h1, e, h3⟩
    · refine .inr ⟨by omega, by omega, ?_⟩
      rw [← h3]
      congr 1
      omega
end Go.Proofs.Ytphhdkffnboboaa

namespace Go.Proofs.Ytphhdkffnboboaa
open Go.RowKit Go.Shelf
open Go.Lib

theorem own_form {w : World} {base : Nat} {e : TypeId} {size : Nat} {v : Value} {n : Nat} {xs : List Value} (h : w.ownsRow base e size v n xs) : ∃ A cap, v = .slice A n cap := by
  rcases h.2 with ⟨h1, h2⟩ | ⟨g, cap, _, h1, _⟩
  · exact ⟨none, 0, by rw [h1, h2]⟩
  · exact ⟨_, cap, h1⟩

theorem cell_lt0 {w : World} {p : Addr} {v : Value} (h : w.cell? p = some v) : p.block < w.heap.size := by
  rcases Nat.lt_or_ge p.block w.heap.size with c | c
  · exact c
  · unfold World.cell? at h
    rw [Array.getElem?_eq_none c] at h
    cases h
set_option maxHeartbeats 2000000 in
set_option maxRecDepth 100000 in
theorem ext_more (base : Nat) (v : Value) (xs : List Rng) (x : Rng) (w : World) (h : w.ownsRow base 70 2 v xs.length (cells2 xs)) (hb : base ≤ w.heap.size) (hl : xs.length ≤ 2000000)
    (hq : xs = [] ∨ ∃ y ys, xs = ys ++ [y] ∧ -2147483648 ≤ y.2 ∧ y.2 ≤ 1114111 ∧ y.2 + 1 ≠ x.1) :
    Calls Try.prog 50 #[v, .agg #[.int .i32 x.1, .int .i32 x.2]] w (HoldsR base 70 (xs ++ [x]) w) := by
  obtain ⟨i70, hi70, hzz⟩ := Option.map_eq_some_iff.1 Try.info70
  simp only [Prod.mk.injEq] at hzz
  have HI := Lib.hid (And.intro hi70 hzz)
  have H1 := Lib.hid (h.alloc (.cells #[.int .i32 x.1, .int .i32 x.2] 70))
  have hB1 := Lib.hid ((Below.refl base w).alloc hb (.cells #[.int .i32 x.1, .int .i32 x.2] 70))
  have HX := Lib.hid (cells2_snoc xs x)
  have HL := Lib.hid (show (xs ++ [x]).length = xs.length + 1 by simp)
  unfold HoldsR
  rw [HX.out, HL.out]
  obtain ⟨x1, x2⟩ := x
  simp only at *
  rcases hq with rfl | ⟨y, ys, rfl, y0, y1, hne⟩
  · obtain ⟨A, cap, rfl⟩ := own_form h
    simp only [List.length_nil] at *
    clear h hi70 hzz
    go_enter Try.func50, Try.ntmps50
    go_wp2_with fail
    go_quiet (fail)
    have H2 := Lib.hid ((show ((w.alloc (.cells #[.int .i32 x1, .int .i32 x2] 70)).drewN nq).ownsRow base 70 2 (.slice A 0 cap) 0 (cells2 []) from H1.out).alloc (.cells #[.int .i32 x1, .int .i32 x2] 70))
    have nb := World.news_of_block (heap_alloc_new ((w.alloc (.cells #[.int .i32 x1, .int .i32 x2] 70)).drewN nq) (.cells #[.int .i32 x1, .int .i32 x2] 70))
    rw [show ((w.alloc (.cells #[.int .i32 x1, .int .i32 x2] 70)).drewN nq).heap.size = w.heap.size + 1 by simp] at nb
    have NB := Lib.hid nb
    clear nb
    have HB2 := Lib.hid ((below_drewN hB1.out nq).alloc (by simp; omega) (.cells #[.int .i32 x1, .int .i32 x2] 70))
    go_wp2_with (at_builtin; refine wpList_append_lies _ (by rfl) (.tmp 30) (.tmp 32) 43 (by rfl) base 70 i70 _ 2 8 Try.underlying43 HI.out.1 HI.out.2.1 HI.out.2.2.1 HI.out.2.2.2 rfl (by omega) _ 0 (cells2 []) (by rfl) H2.out _ 1 1 [.int .i32 x1, .int .i32 x2] (by rfl) (by rfl) NB.out (by simp [Value.oneCell']) (by omega) (by unfold maxLen; omega) (by omega) (by simp; omega) (w.heap.size + 2) (by simp) ?_)
    intro g1 cap1 w7 hown7 hgrow7 hat7 hlt7
    have HB7 := Lib.hid (HB2.out.grown hgrow7 (by simp; omega) (fun k e' => (own_block_lt H2.out k e').1))
    have HO7 := Lib.hid hown7
    clear hown7 hgrow7 hat7 hlt7
    go_wp2_with fail
    go_ret
    exact ⟨_, rfl, HO7.out, HB7.out⟩
  · obtain ⟨g, cap, hv, hg, _⟩ := h.form (by simp)
    subst hv
    have hla : (ys ++ [y])[ys.length]? = some y := by rw [List.getElem?_append_right (Nat.le_refl _)]; simp
    have hyc := cells2_get _ _ _ hla
    have hc := h.cellAt (ys.length * 2 + 1) (by simp; omega)
    rw [hyc.2] at hc
    have hglt := cell_lt0 hc
    have hlen : (ys ++ [y]).length = ys.length + 1 := by simp
    rw [hlen] at hl H1 h
    simp only at hglt
    rw [hlen]
    generalize ys.length = m at *
    have i1 : (0 : Int) < (m : Int) + 1 := by omega
    have i3 : (m : Int) < (m : Int) + 1 := by omega
    have i4 : (0 : Int) ≤ (m : Int) := by omega
    have i5 : IntKind.i64.wrap (m : Int) = (m : Int) := IntWalk.i64_in _ (by omega)
    have i6 : (m : Int).toNat = m := by omega
    have hne' : ((y.2 + 1) == x1) = false := by simpa using hne
    obtain ⟨yl, yh⟩ := y
    simp only at *
    clear h hi70 hzz hla hyc hlen hne
    go_enter Try.func50, Try.ntmps50
    go_wp2_with fail
    go_quiet (fail)
    have H2 := Lib.hid ((show ((w.alloc (.cells #[.int .i32 x1, .int .i32 x2] 70)).drewN nq).ownsRow base 70 2 (.slice (some ⟨g, 0, none⟩) (m + 1) cap) (m + 1) (cells2 (ys ++ [(yl, yh)])) from H1.out).alloc (.cells #[.int .i32 x1, .int .i32 x2] 70))
    have nb := World.news_of_block (heap_alloc_new ((w.alloc (.cells #[.int .i32 x1, .int .i32 x2] 70)).drewN nq) (.cells #[.int .i32 x1, .int .i32 x2] 70))
    rw [show ((w.alloc (.cells #[.int .i32 x1, .int .i32 x2] 70)).drewN nq).heap.size = w.heap.size + 1 by simp] at nb
    have NB := Lib.hid nb
    clear nb
    have HB2 := Lib.hid ((below_drewN hB1.out nq).alloc (by simp; omega) (.cells #[.int .i32 x1, .int .i32 x2] 70))
    go_wp2_with (at_builtin; refine wpList_append_lies _ (by rfl) (.tmp 30) (.tmp 32) 43 (by rfl) base 70 i70 _ 2 8 Try.underlying43 HI.out.1 HI.out.2.1 HI.out.2.2.1 HI.out.2.2.2 rfl (by omega) _ (m + 1) (cells2 (ys ++ [(yl, yh)])) (by rfl) H2.out _ 1 1 [.int .i32 x1, .int .i32 x2] (by rfl) (by rfl) NB.out (by simp [Value.oneCell']) (by omega) (by unfold maxLen; omega) (by omega) (by simp; omega) (w.heap.size + 2) (by simp) ?_)
    intro g1 cap1 w7 hown7 hgrow7 hat7 hlt7
    have HB7 := Lib.hid (HB2.out.grown hgrow7 (by simp; omega) (fun k e' => (own_block_lt H2.out k e').1))
    have HO7 := Lib.hid hown7
    clear hown7 hgrow7 hat7 hlt7
    go_wp2_with fail
    go_ret
    exact ⟨_, rfl, HO7.out, HB7.out⟩

theorem list_set_last (l m : List Value) (u u' : Value) (n : Nat) (hn : l.length + 1 = n) : (l ++ [u] ++ m).set (n - 1) u' = l ++ [u'] ++ m := by
  subst hn
  rw [List.append_assoc, List.append_assoc, List.set_append_right _ _ (by omega)]
  simp
set_option maxHeartbeats 2000000 in
set_option maxRecDepth 100000 in
theorem ext_join (base : Nat) (v : Value) (ys : List Rng) (y : Rng) (x : Rng) (w : World) (h : w.ownsRow base 70 2 v (ys.length + 1) (cells2 (ys ++ [y]))) (hb : base ≤ w.heap.size) (hl : ys.length + 1 ≤ 2000000)
    (y0 : -2147483648 ≤ y.2) (y1 : y.2 ≤ 1114111) (he : y.2 + 1 = x.1) :
    Calls Try.prog 50 #[v, .agg #[.int .i32 x.1, .int .i32 x.2]] w (HoldsR base 70 (ys ++ [(y.1, x.2)]) w) := by
  have H1 := Lib.hid (h.alloc (.cells #[.int .i32 x.1, .int .i32 x.2] 70))
  have hB1 := Lib.hid ((Below.refl base w).alloc hb (.cells #[.int .i32 x.1, .int .i32 x.2] 70))
  have HL := Lib.hid (show (ys ++ [(y.1, x.2)]).length = ys.length + 1 by simp)
  have HX : Hid ((cells2 (ys ++ [y])).set (ys.length * 2 + 1) (.int .i32 x.2) = cells2 (ys ++ [(y.1, x.2)])) := Lib.hid (by
    rw [cells2_snoc, cells2_snoc, List.set_append_right _ _ (by rw [cells2_length]; omega), cells2_length]
    simp [cell2])
  obtain ⟨x1, x2⟩ := x
  simp only at *
  obtain ⟨g, cap, hv, hg, _⟩ := h.form (by simp)
  subst hv
  have hla : (ys ++ [y])[ys.length]? = some y := by rw [List.getElem?_append_right (Nat.le_refl _)]; simp
  have hyc := cells2_get _ _ _ hla
  have hc := h.cellAt (ys.length * 2 + 1) (by omega)
  rw [hyc.2] at hc
  have hf := h.frozenAt (ys.length * 2 + 1)
  have hglt := cell_lt0 hc
  simp only at hglt
  have hst := fun (W : World) (hW : W.ownsRow base 70 2 (.slice (some ⟨g, 0, none⟩) (ys.length + 1) cap) (ys.length + 1) (cells2 (ys ++ [y]))) => World.ownsRow.stored hW (ys.length * 2 + 1) (.int .i32 x2)
  rw [HX.out] at hst
  have HST := Lib.hid hst
  unfold HoldsR
  rw [HL.out]
  generalize ys.length = m at *
  have i1 : (0 : Int) < (m : Int) + 1 := by omega
  have i3 : (m : Int) < (m : Int) + 1 := by omega
  have i4 : (0 : Int) ≤ (m : Int) := by omega
  have i5 : IntKind.i64.wrap (m : Int) = (m : Int) := IntWalk.i64_in _ (by omega)
  have i6 : (m : Int).toNat = m := by omega
  obtain ⟨yl, yh⟩ := y
  simp only at *
  have he' : ((yh + 1) == x1) = true := by simpa using he
  clear h hla hyc hst HX HL he
  go_enter Try.func50, Try.ntmps50
  go_wp2_with fail
  go_quiet (fail)
  go_wp2_with fail
  go_ret
  refine ⟨_, rfl, (HST.out _ ?_).1, ?_⟩
  · exact H1.out
  · exact (below_drewN hB1.out nq).setCell hg _

set_option maxHeartbeats 400000 in
theorem extend_any (base : Nat) (v : Value) (xs : List Rng) (x : Rng) (w : World) (h : w.ownsRow base 70 2 v xs.length (cells2 xs)) (hb : base ≤ w.heap.size) (hr : right xs = true) (hl : xs.length ≤ 2000000) :
    Calls Try.prog 50 #[v, .agg #[.int .i32 x.1, .int .i32 x.2]] w (HoldsR base 70 (extP xs x) w) := by
  rcases List.eq_nil_or_concat xs with rfl | ⟨ys, y, rfl⟩
  · exact ext_more base v [] x w h hb hl (.inl rfl)
  · rw [List.concat_eq_append] at *
    have hy := (may_iff y).1 (right_may hr y (by simp)).1
    rw [extP_snoc]
    split
    · rename_i c
      exact ext_join base v ys y x w (by simpa using h) hb (by simpa using hl) (by omega) (by omega) c
    · rename_i c
      exact ext_more base v _ x w h hb hl (.inr ⟨y, ys, rfl, by omega, by omega, c⟩)
end Go.Proofs.Ytphhdkffnboboaa

