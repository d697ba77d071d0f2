/-
  Contracts: ranges.Cut, ranges.Minus.
-/
import Derived.Test.YtphhdkffnboboaaRg10
namespace Go.Proofs.Ytphhdkffnboboaa
open Go.RowKit Go.Shelf
open Go.Lib

def slen : Value → Nat
  | .slice _ n _ => n
  | _ => 0

structure CutInv (xs ys xs' ys' out : List Rng) (p q : Int) : Prop where
  r : right out = true
  rx : rightFrom p xs' = true
  ry : rightFrom q ys' = true
  h : hiOf (-1) out ≤ max p q
  l : out.length + xs'.length + ys'.length ≤ xs.length + ys.length
  m : ∀ r, (hasR out r = true ∨ (hasR xs' r = true ∧ hasR ys' r = true)) ↔ (hasR xs r = true ∧ hasR ys r = true)

theorem cut_start (xs ys : List Rng) (hx : right xs = true) (hy : right ys = true) : CutInv xs ys xs ys [] (-1) (-1) :=
  ⟨rfl, hx, hy, by simp [hiOf], by simp, fun r => by simp [hasR_nil]⟩
def cutOut (out : List Rng) (x y : Rng) : List Rng := if max x.1 y.1 ≤ min x.2 y.2 then out ++ [(max x.1 y.1, min x.2 y.2)] else out
theorem hasR_cutOut (out : List Rng) (x y : Rng) (r : Int) : hasR (cutOut out x y) r = true ↔ hasR out r = true ∨ (max x.1 y.1 ≤ r ∧ r ≤ min x.2 y.2) := by
  unfold cutOut
  split
  · rw [hasR_append, Bool.or_eq_true]
    simp only [hasR_cons_iff, hasR_nil, Bool.false_eq_true, or_false]
  · constructor
    · exact .inl
    · rintro (h | h)
      · exact h
      · omega
theorem cut_common {xs ys xs' ys' out : List Rng} {p q : Int} {x y : Rng} (I : CutInv xs ys (x :: xs') (y :: ys') out p q) :
    right (cutOut out x y) = true ∧ (hiOf (-1) (cutOut out x y) ≤ max p q ∨ hiOf (-1) (cutOut out x y) = min x.2 y.2 + 1) ∧ (cutOut out x y).length ≤ out.length + 1 ∧ (p < x.1 ∧ may x = true ∧ rightFrom (x.2 + 1) xs' = true) ∧ (q < y.1 ∧ may y = true ∧ rightFrom (y.2 + 1) ys' = true) := by
  have hx := I.rx
  have hy := I.ry
  simp only [rightFrom, Bool.and_eq_true, decide_eq_true_eq] at hx hy
  have mx := (may_iff _).1 hx.1.2
  have my := (may_iff _).1 hy.1.2
  have hh := I.h
  refine ⟨?_, ?_, ?_, ⟨hx.1.1, hx.1.2, hx.2⟩, ⟨hy.1.1, hy.1.2, hy.2⟩⟩
  · unfold cutOut
    split
    · exact (join_push out _ I.r ((may_iff _).2 ⟨by dsimp only; omega, by assumption, by dsimp only; omega⟩) (by dsimp only; omega)).1
    · exact I.r
  · unfold cutOut
    split
    · rw [hiOf_snoc]; exact .inr rfl
    · exact .inl hh
  · unfold cutOut
    split <;> simp
theorem cut_x {xs ys xs' ys' out : List Rng} {p q : Int} {x y : Rng} (I : CutInv xs ys (x :: xs') (y :: ys') out p q) (c : x.2 < y.2) : CutInv xs ys xs' (y :: ys') (cutOut out x y) (x.2 + 1) q := by
  obtain ⟨h1, h2, h3, ⟨x1, x2, x3⟩, ⟨y1, y2, y3⟩⟩ := cut_common I
  have mx := (may_iff _).1 x2
  have my := (may_iff _).1 y2
  have hl := I.l
  refine ⟨h1, x3, I.ry, by omega, by simp at hl ⊢; omega, fun r => ?_⟩
  rw [← I.m r, hasR_cutOut, hasR_cons_iff x, hasR_cons_iff y]
  have e1 := fun h : hasR ys' r = true => (hasR_gt y3 h).1
  constructor
  · rintro ((h | h) | h)
    · exact .inl h
    · exact .inr ⟨.inl ⟨by omega, by omega⟩, .inl ⟨by omega, by omega⟩⟩
    · exact .inr ⟨.inr h.1, h.2⟩
  · rintro (h | ⟨h | h, h'⟩)
    · exact .inl (.inl h)
    · rcases h' with h' | h'
      · exact .inl (.inr ⟨by omega, by omega⟩)
      · have := e1 h'; omega
    · exact .inr ⟨h, h'⟩
theorem cut_y {xs ys xs' ys' out : List Rng} {p q : Int} {x y : Rng} (I : CutInv xs ys (x :: xs') (y :: ys') out p q) (c : ¬ x.2 < y.2) : CutInv xs ys (x :: xs') ys' (cutOut out x y) p (y.2 + 1) := by
  obtain ⟨h1, h2, h3, ⟨x1, x2, x3⟩, ⟨y1, y2, y3⟩⟩ := cut_common I
  have mx := (may_iff _).1 x2
  have my := (may_iff _).1 y2
  have hl := I.l
  refine ⟨h1, I.rx, y3, by omega, by simp at hl ⊢; omega, fun r => ?_⟩
  rw [← I.m r, hasR_cutOut, hasR_cons_iff x, hasR_cons_iff y]
  have e1 := fun h : hasR xs' r = true => (hasR_gt x3 h).1
  constructor
  · rintro ((h | h) | h)
    · exact .inl h
    · exact .inr ⟨.inl ⟨by omega, by omega⟩, .inl ⟨by omega, by omega⟩⟩
    · exact .inr ⟨h.1, .inr h.2⟩
  · rintro (h | ⟨h', h | h⟩)
    · exact .inl (.inl h)
    · rcases h' with h' | h'
      · exact .inl (.inr ⟨by omega, by omega⟩)
      · have := e1 h'; omega
    · exact .inr ⟨h', h⟩
def cutR (xs ys : List Rng) (r : Int) : Bool := hasR xs r && hasR ys r
theorem cut_end {xs ys xs' ys' out : List Rng} {p q : Int} (I : CutInv xs ys xs' ys' out p q) (h : xs' = [] ∨ ys' = []) : ∀ r, hasR out r = cutR xs ys r := by
  intro r
  rw [Bool.eq_iff_iff, cutR, Bool.and_eq_true, ← I.m r]
  rcases h with rfl | rfl <;> simp [hasR_nil]

theorem RS.tail {w : World} {B : Nat} {b o cap : Nat} {x : Rng} {xs : List Rng} (h : RS w B (some ⟨b, o, none⟩) cap (x :: xs)) : RS w B (if cap = 1 then some ⟨b, o, none⟩ else some ⟨b, o + 2, none⟩) (cap - 1) xs := by
  obtain ⟨h1, h2, h3, h4⟩ := h
  simp at h1
  refine ⟨by omega, by omega, fun y hy => h3 y (List.mem_cons_of_mem _ hy), fun hn => ?_⟩
  obtain ⟨b', o', e, hb, hg⟩ := h4 (by simp)
  injection e with e
  injection e with e1 e2 e3
  have hc : cap ≠ 1 := by rintro rfl; exact hn (List.length_eq_zero_iff.1 (by omega))
  rw [if_neg hc]
  refine ⟨b, o + 2, rfl, by omega, fun i y hy => ?_⟩
  have := hg (i + 1) y (by simpa using hy)
  rw [← e1, ← e2] at this
  rw [show o + 2 + i * 2 = o + (i + 1) * 2 by omega]
  exact this

set_option maxHeartbeats 8000000 in
set_option maxRecDepth 100000 in
theorem cut_any (A : Option Addr) (cap : Nat) (xs : List Rng) (A' : Option Addr) (cap' : Nat) (ys : List Rng) (w : World) (h : RS w w.heap.size A cap xs) (hF : Fm A cap) (h' : RS w w.heap.size A' cap' ys) (hF' : Fm A' cap')
    (hl : xs.length ≤ 1000000) (hl' : ys.length ≤ 1000000) :
    Calls Try.prog 38 #[.slice A xs.length cap, .slice A' ys.length cap'] w fun e w' => ∃ out : List Rng, right out = true ∧ (∀ r, hasR out r = cutR (known xs) (known ys) r) ∧ out.length ≤ xs.length + ys.length ∧ HoldsR w.heap.size 70 out w e w' := by
  obtain ⟨i0, hi, hz0, hz1, hz2⟩ := info_parts Try.info70
  have C1 := Lib.hid (valid_known A cap xs w h hF)
  have C2 := Lib.hid (fun W (hb : Below w.heap.size w W) => valid_known A' cap' ys W ((h'.below hb).mono hb.size) hF')
  unfold KnownPost at C1 C2
  have hkx : (known xs).length ≤ xs.length := by unfold known; split <;> simp
  have hky : (known ys).length ≤ ys.length := by unfold known; split <;> simp
  have HI0 := Lib.hid (cut_start _ _ (known_right xs) (known_right ys))
  generalize xs.length = L at *
  generalize ys.length = L' at *
  generalize known xs = zs at *
  generalize known ys = us at *
  have HK := Lib.hid (And.intro hkx hky)
  clear h h' hF hF' hkx hky
  go_enter Try.func38, Try.ntmps38
  go_wp2_with fail
  refine C1.out.mono ?_
  rintro e w1 ⟨A1, c1, rfl, hR1, _, hb1⟩
  have H := Lib.hid hR1
  clear hR1
  go_wp2_with fail
  refine (C2.out _ hb1).mono ?_
  rintro e w2 ⟨A2, c2, rfl, hR2, _, hb2⟩
  have hb2' := hb1.trans (hb2.mono hb1.size)
  have H1 := Lib.hid ((H.out.below (hb2.mono hb1.size)).mono hb2'.size)
  have H2 := Lib.hid (hR2.mono hb2.size)
  have HB := Lib.hid hb2'
  clear hR2 H hb1 hb2 hb2'
  go_wp2
  go_loopw [0, 1, 5] (fun a b v wr => ∃ (xs' ys' out : List Rng) (p q : Int) (A1 : Option Addr) (c1 : Nat) (A2 : Option Addr) (c2 : Nat), a = .slice A1 xs'.length c1 ∧ b = .slice A2 ys'.length c2 ∧ RS w2 w2.heap.size A1 c1 xs' ∧ RS w2 w2.heap.size A2 c2 ys' ∧ CutInv zs us xs' ys' out p q ∧ wr.ownsRow w2.heap.size 70 2 v out.length (cells2 out) ∧ Below w2.heap.size w2 wr) (fun a b _ _ => slen a + slen b)
  case atStart => exact ⟨zs, us, [], -1, -1, A1, c1, A2, c2, rfl, rfl, H1.out, H2.out, HI0.out, World.ownsRow_nil _ _ _ _, Below.refl _ _⟩
  case round =>
    clear H1 H2 HI0
    obtain ⟨xs', ys', out, p, q, A1, c1, A2, c2, rfl, rfl, hr1, hr2, I, hown, hb⟩ := hrel
    have HI := Lib.hid I
    clear I
    rcases xs' with _ | ⟨x, xs'⟩
    · have HE := Lib.hid (cut_end HI.out (.inl rfl))
      have HL := Lib.hid HI.out.l
      go_wp2
      go_ret
      exact ⟨out, HI.out.r, HE.out, by have := HL.out; have := HK.out; simp at *; omega, u5, rfl, own_mono hown HB.out.size, HB.out.trans (hb.mono HB.out.size)⟩
    · rcases ys' with _ | ⟨y, ys'⟩
      · have HE := Lib.hid (cut_end HI.out (.inr rfl))
        have HL := Lib.hid HI.out.l
        go_wp2
        go_ret
        exact ⟨out, HI.out.r, HE.out, by have := HL.out; have := HK.out; simp at *; omega, u5, rfl, own_mono hown HB.out.size, HB.out.trans (hb.mono HB.out.size)⟩
      · obtain ⟨b1, o1, rfl, hbl1, hg1⟩ := hr1.2.2.2 (by simp)
        obtain ⟨b2, o2, rfl, hbl2, hg2⟩ := hr2.2.2.2 (by simp)
        obtain ⟨q1, q2⟩ := (hg1.below hbl1 hb) 0 x rfl
        obtain ⟨q3, q4⟩ := (hg2.below hbl2 hb) 0 y rfl
        simp only [Nat.zero_mul, Nat.add_zero] at q1 q2 q3 q4
        have l1 := hr1.1
        have l2 := hr2.1
        have l3 := hr1.2.1
        have l4 := hr2.2.1
        have HT1 := Lib.hid hr1.tail
        have HT2 := Lib.hid hr2.tail
        have HR1 := Lib.hid hr1
        have HR2 := Lib.hid hr2
        have HX := Lib.hid (fun c : x.2 < y.2 => cut_x HI.out c)
        have HY := Lib.hid (fun c : ¬ x.2 < y.2 => cut_y HI.out c)
        clear hr1 hr2 hg1 hg2
        obtain ⟨xl, xh⟩ := x
        obtain ⟨yl, yh⟩ := y
        obtain ⟨n1, hn1⟩ : ∃ n, xs'.length = n := ⟨_, rfl⟩
        obtain ⟨n2, hn2⟩ : ∃ n, ys'.length = n := ⟨_, rfl⟩
        have HN1 := Lib.hid hn1
        have HN2 := Lib.hid hn2
        rw [List.length_cons] at l1 l2
        rw [hn1] at l1
        rw [hn2] at l2
        unfold maxLen at l3 l4
        rw [List.length_cons, List.length_cons, hn1, hn2]
        clear hn1 hn2
        have j1 : (0 : Int) < (n1 : Int) + 1 := by omega
        have j2 : (0 : Int) < (n2 : Int) + 1 := by omega
        go_wp2_with fail
        go_region
        have HW := Lib.hid hb.drew
        have how : wr.drew.ownsRow w2.heap.size 70 2 u5 out.length (cells2 out) := hown
        have QQ := Lib.hid (And.intro ((hb.cell (p := ⟨b1, o1 + 1, none⟩) hbl1).symm.trans q2) ((hb.cell (p := ⟨b2, o2 + 1, none⟩) hbl2).symm.trans q4))
        have hcd := fun (c : max xl yl ≤ min xh yh) => (show cutOut out (xl, xh) (yl, yh) = out ++ [(max xl yl, min xh yh)] from if_pos c)
        have hcn := fun (c : ¬ max xl yl ≤ min xh yh) => (show cutOut out (xl, xh) (yl, yh) = out from if_neg c)
        have HOL := Lib.hid HI.out.l
        generalize wr.drew = W at *
        generalize max xl yl = mlo at *
        generalize min xh yh = mhi at *
        have hWs := HW.out.size
        clear q1 q2 q3 q4 hown hb
        by_cases c : mlo ≤ mhi
        · have HCO := Lib.hid (hcd c)
          clear hcd hcn
          have hlt0 := own_block_lt how
          have how2 := how.alloc (.cells #[.int .i32 mlo, .int .i32 mhi] 70)
          have hnews := news2 W 70 (.int .i32 mlo) (.int .i32 mhi) rfl rfl
          have hol : out.length ≤ 2000000 := by have := HOL.out; have := HK.out; simp at *; omega
          clear how
          go_wp2_with (at_builtin; refine wpList_append_own _ rfl _ _ 43 rfl w2.heap.size 70 i0 (.agg #[.int .i32 0, .int .i32 0]) 2 8 Try.underlying43 hi hz0 hz1 hz2 rfl (by decide) u5 out.length (cells2 out) rfl how2 ⟨W.heap.size, 0, none⟩ 1 1 [.int .i32 mlo, .int .i32 mhi] rfl rfl hnews ?c2 ?c3 ?c4 ?c5 ?_)
          case c2 => first | exact ⟨rfl, rfl⟩ | (intro u hu; simp at hu; rcases hu with rfl | rfl <;> rfl)
          case c3 => unfold maxLen; omega
          case c4 => omega
          case c5 => simp; omega
          intro v' W3 own3 hgrow _
          have HBZ := Lib.hid (show Below w2.heap.size w2 W3 from (HW.out.alloc hWs _).grown hgrow (by simp; omega) (fun k e => (hlt0 k e).1))
          have HO3 := Lib.hid own3
          clear hnews how2 hgrow own3
          have q2' : W3.cell? ⟨b1, o1 + 1, none⟩ = some (.int .i32 xh) := (HBZ.out.cell (p := ⟨b1, o1 + 1, none⟩) hbl1).trans QQ.out.1
          have q4' : W3.cell? ⟨b2, o2 + 1, none⟩ = some (.int .i32 yh) := (HBZ.out.cell (p := ⟨b2, o2 + 1, none⟩) hbl2).trans QQ.out.2
          by_cases cc : xh < yh
          · have HJ := Lib.hid (HX.out cc)
            rw [HCO.out] at HJ
            go_wp2_with fail
            go_quiet (fail)
            go_wp2
            go_roundw
            case rel => exact ⟨xs', (yl, yh) :: ys', out ++ [(mlo, mhi)], _, _, (if c1 = 1 then some ⟨b1, o1, none⟩ else some ⟨b1, o1 + 2, none⟩), c1 - 1, some ⟨b2, o2, none⟩, c2, by rw [HN1.out], by rw [List.length_cons, HN2.out], HT1.out, HR2.out, HJ.out, by rw [cells2_snoc, List.length_append]; exact HO3.out, below_drewN HBZ.out _⟩
            case measure => simp [slen]
          · have HJ := Lib.hid (HY.out (by omega))
            rw [HCO.out] at HJ
            have d2 : decide (xh < yh) = false := by simpa using cc
            go_wp2_with fail
            go_quiet (fail)
            go_wp2
            go_roundw
            case rel => exact ⟨(xl, xh) :: xs', ys', out ++ [(mlo, mhi)], _, _, some ⟨b1, o1, none⟩, c1, (if c2 = 1 then some ⟨b2, o2, none⟩ else some ⟨b2, o2 + 2, none⟩), c2 - 1, by rw [List.length_cons, HN1.out], by rw [HN2.out], HR1.out, HT2.out, HJ.out, by rw [cells2_snoc, List.length_append]; exact HO3.out, below_drewN HBZ.out _⟩
            case measure => simp [slen]
        · have HCO := Lib.hid (hcn c)
          have HBZ := HW
          have d1 : decide (mlo ≤ mhi) = false := by simpa using c
          clear hcd hcn
          have q2' : W.cell? ⟨b1, o1 + 1, none⟩ = some (.int .i32 xh) := (HBZ.out.cell (p := ⟨b1, o1 + 1, none⟩) hbl1).trans QQ.out.1
          have q4' : W.cell? ⟨b2, o2 + 1, none⟩ = some (.int .i32 yh) := (HBZ.out.cell (p := ⟨b2, o2 + 1, none⟩) hbl2).trans QQ.out.2
          by_cases cc : xh < yh
          · have HJ := Lib.hid (HX.out cc)
            rw [HCO.out] at HJ
            go_wp2_with fail
            go_quiet (fail)
            go_wp2
            go_roundw
            case rel => exact ⟨xs', (yl, yh) :: ys', out, _, _, (if c1 = 1 then some ⟨b1, o1, none⟩ else some ⟨b1, o1 + 2, none⟩), c1 - 1, some ⟨b2, o2, none⟩, c2, by rw [HN1.out], by rw [List.length_cons, HN2.out], HT1.out, HR2.out, HJ.out, how, below_drewN HBZ.out _⟩
            case measure => simp [slen]
          · have HJ := Lib.hid (HY.out (by omega))
            rw [HCO.out] at HJ
            have d2 : decide (xh < yh) = false := by simpa using cc
            go_wp2_with fail
            go_quiet (fail)
            go_wp2
            go_roundw
            case rel => exact ⟨(xl, xh) :: xs', ys', out, _, _, some ⟨b1, o1, none⟩, c1, (if c2 = 1 then some ⟨b2, o2, none⟩ else some ⟨b2, o2 + 2, none⟩), c2 - 1, by rw [List.length_cons, HN1.out], by rw [HN2.out], HR1.out, HT2.out, HJ.out, how, below_drewN HBZ.out _⟩
            case measure => simp [slen]

theorem i32_of_right {xs : List Rng} (h : right xs = true) : ∀ x ∈ xs, I32 x := fun x hx => by
  have := (may_iff _).1 (right_may (b := -1) h x hx).1
  exact ⟨by omega, by omega, by omega, by omega⟩
/-- What a call hands back that makes a set: a slice that can be read on. -/
theorem HoldsR.rs {B : Nat} {out : List Rng} {w w' : World} {e : Ending} (h : HoldsR B 70 out w e w') (hr : right out = true) : ∃ A c, e = .returned (.slice A out.length c) ∧ RS w' w'.heap.size A c out ∧ Fm A c ∧ Below B w w' := by
  obtain ⟨v, rfl, hown, hb⟩ := h
  obtain ⟨A, c, rfl, hR⟩ := ownsRow_RS hown (i32_of_right hr)
  exact ⟨A, c, rfl, hR, ownsRow_Fm hown, hb⟩

def minusR (xs ys : List Rng) (r : Int) : Bool := hasR xs r && !hasR ys r
end Go.Proofs.Ytphhdkffnboboaa
