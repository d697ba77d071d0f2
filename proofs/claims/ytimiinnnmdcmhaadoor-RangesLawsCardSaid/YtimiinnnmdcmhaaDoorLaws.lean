/-
  RangesLaws: what isn't in one of two sets is in neither; what is in the first one is in both or in it alone. The walk of the law.
-/
import Derived.Test.YtimiinnnmdcmhaaDoorHx4
namespace Go.Proofs.YtimiinnnmdcmhaaDoor
open Go.RowKit Go.Shelf
open Go.Lib

theorem mem_in {X : List Rng} (hX : right X = true) {r : Int} (h : hasR X r = true) : 0 ≤ r ∧ r ≤ 1114111 := (hasR_gt (b := -1) hX h).2
theorem laws_none {X Y U NX NY : List Rng} (hU : ∀ r, hasR U r = orR X Y r) (hNX : ∀ r, hasR NX r = notR X r) (hNY : ∀ r, hasR NY r = notR Y r) : norm (notR U) = norm (cutR NX NY) := by
  congr 1
  funext r
  rw [cutR, hNX, hNY, notR, notR, notR, hU, orR]
  cases hasR X r <;> cases hasR Y r <;> simp
theorem laws_back {X NX : List Rng} (hX : right X = true) (hNX : ∀ r, hasR NX r = notR X r) : norm (notR NX) = X := by
  refine (norm_eq hX fun r => ?_).symm
  rw [notR, hNX, notR]
  by_cases c : hasR X r = true
  · have := mem_in hX c
    simp [c, this.1, this.2]
  · rw [Bool.eq_false_iff.2 c]
    cases decide (0 ≤ r) <;> cases decide (r ≤ 1114111) <;> rfl
theorem laws_both {X Y B L : List Rng} (hX : right X = true) (hB : ∀ r, hasR B r = cutR X Y r) (hL : ∀ r, hasR L r = minusR X Y r) : norm (orR B L) = X := by
  refine (norm_eq hX fun r => ?_).symm
  rw [orR, hB, hL, cutR, minusR]
  cases hasR X r <;> cases hasR Y r <;> rfl
theorem laws_apart {X Y B L : List Rng} (hB : ∀ r, hasR B r = cutR X Y r) (hL : ∀ r, hasR L r = minusR X Y r) : norm (cutR B L) = [] := by
  refine (norm_eq (out := []) rfl fun r => ?_).symm
  rw [cutR, hB, hL, cutR, minusR]
  cases hasR X r <;> cases hasR Y r <;> rfl
theorem laws_count {X N : List Rng} (hX : right X = true) (hN : right N = true) (hNX : ∀ r, hasR N r = notR X r) : countR X + countR N = 1114112 := by
  rw [countR_card hX, countR_card hN]
  have h1 := card_not (hasR X)
  have h2 : card (hasR N) = card (fun r => !hasR X r) := card_congr fun r a b => by rw [hNX, notR]; simp [a, b]
  rw [h2]
  omega
theorem laws_parts {X Y B L : List Rng} (hX : right X = true) (hBr : right B = true) (hLr : right L = true) (hB : ∀ r, hasR B r = cutR X Y r) (hL : ∀ r, hasR L r = minusR X Y r) : countR B + countR L = countR X := by
  rw [countR_card hX, countR_card hBr, countR_card hLr]
  have h2 : card (hasR X) = card (fun r => hasR B r || hasR L r) := card_congr fun r _ _ => by rw [hB, hL, cutR, minusR]; cases hasR X r <;> cases hasR Y r <;> rfl
  rw [h2, card_or]
  · omega
  · intro r
    rw [hB, hL, cutR, minusR]
    cases hasR X r <;> cases hasR Y r <;> simp

theorem wrap64_id (n : Int) (h0 : -9223372036854775808 ≤ n) (h1 : n ≤ 9223372036854775807) : RowKit.wrap64 n = n := by
  unfold RowKit.wrap64
  omega
set_option maxHeartbeats 8000000 in
set_option maxRecDepth 100000 in
theorem laws_walk (A1 : Option Addr) (c1 : Nat) (xs : List Rng) (A2 : Option Addr) (c2 : Nat) (ys : List Rng) (w : World) (hT : TZ w) (h1 : AW w A1 c1 xs) (h2 : AW w A2 c2 ys) :
    Calls Tryd.prog 11 #[.slice A1 xs.length c1, .slice A2 ys.length c2] w fun e w' => e = .returned (.bool true) ∧ Below w.heap.size w w' := by
  have HA := Lib.hid awake2_any
  have HT := Lib.hid hT
  have S1 := Lib.hid h1
  have S2 := Lib.hid h2
  have m1 : xs.length ≤ 9223372036854775807 := by have := h1.r.1; have := h1.r.2.1; unfold maxLen at this; omega
  have m2 : ys.length ≤ 9223372036854775807 := by have := h2.r.1; have := h2.r.2.1; unfold maxLen at this; omega
  clear hT h1 h2
  by_cases hl1 : 20 < xs.length
  · have d1 : (20 : Int) < (xs.length : Int) := by omega
    go_enter Tryd.func11, Tryd.ntmps11
    go_wp2_with fail
    refine (HA.out _ HT.out).mono ?_
    rintro e w1 ⟨rfl, hb⟩
    go_wp2
    go_ret
    exact ⟨rfl, hb⟩
  · have d1 : decide ((20 : Int) < (xs.length : Int)) = false := by simp; omega
    by_cases hl2 : 20 < ys.length
    · have d2 : (20 : Int) < (ys.length : Int) := by omega
      go_enter Tryd.func11, Tryd.ntmps11
      go_wp2_with fail
      refine (HA.out _ HT.out).mono ?_
      rintro e w1 ⟨rfl, hb⟩
      go_wp2
      go_ret
      exact ⟨rfl, hb⟩
    · have d2 : decide ((20 : Int) < (ys.length : Int)) = false := by simp; omega
      have HX := Lib.hid (known_right xs)
      have HY := Lib.hid (known_right ys)
      have lx : (known xs).length ≤ 20 := by have := known_len xs; omega
      have ly : (known ys).length ≤ 20 := by have := known_len ys; omega
      have C1 := Lib.hid (fun W h => known_sp A1 c1 xs W h)
      have C2 := Lib.hid (fun W h => known_sp A2 c2 ys W h)
      generalize known xs = X at *
      generalize known ys = Y at *
      go_enter Tryd.func11, Tryd.ntmps11
      go_wp2_with fail
      refine (HA.out _ HT.out).mono ?_
      rintro e w1 ⟨rfl, hb1⟩
      have S1 := Lib.hid (S1.out.below hb1)
      have S2 := Lib.hid (S2.out.below hb1)
      go_wp2_with fail
      refine (C1.out _ S1.out).mono ?_
      rintro e w2 ⟨A3, c3, rfl, s3, hb⟩
      have S2 := Lib.hid (S2.out.below hb)
      have hb2 := hb1.trans (hb.mono hb1.size)
      clear hb hb1
      go_wp2_with fail
      refine (to_sp A3 c3 X _ s3 (by omega)).mono ?_
      rintro e w3 ⟨A4, c4, rfl, s4, hb⟩
      have S2 := Lib.hid (S2.out.below hb)
      have hb3 := hb2.trans (hb.mono hb2.size)
      clear hb hb2 s3
      have SX := Lib.hid s4
      clear s4
      go_wp2_with fail
      refine (union1_sp w3.heap.size A4 c4 X _ (by simp) (by simp) (SX.out.below (below_new _ _)) HX.out (by omega)).mono ?_
      rintro e w4 ⟨A5, c5, rfl, s5, hb⟩
      have hb' := (below_new w3 _).trans (hb.mono (below_new w3 _).size)
      have S2 := Lib.hid (S2.out.below hb')
      have SX := Lib.hid s5
      have hb4 := hb3.trans (hb'.mono hb3.size)
      clear hb hb' hb3 s5
      go_wp2_with fail
      refine (C2.out _ S2.out).mono ?_
      rintro e w5 ⟨A6, c6, rfl, s6, hb⟩
      have SX := Lib.hid (SX.out.below hb)
      have hb5 := hb4.trans (hb.mono hb4.size)
      clear hb hb4
      go_wp2_with fail
      refine (to_sp A6 c6 Y _ s6 (by omega)).mono ?_
      rintro e w6 ⟨A7, c7, rfl, s7, hb⟩
      have SX := Lib.hid (SX.out.below hb)
      have hb6 := hb5.trans (hb.mono hb5.size)
      clear hb hb5 s6
      have SY := Lib.hid s7
      clear s7
      go_wp2_with fail
      refine (union1_sp w6.heap.size A7 c7 Y _ (by simp) (by simp) (SY.out.below (below_new _ _)) HY.out (by omega)).mono ?_
      rintro e w7 ⟨A8, c8, rfl, s8, hb⟩
      have hb' := (below_new w6 _).trans (hb.mono (below_new w6 _).size)
      have SX := Lib.hid (SX.out.below hb')
      have SY := Lib.hid s8
      have hb7 := hb6.trans (hb'.mono hb6.size)
      clear hb hb' hb6 s8
      go_wp2_with fail
      refine (cut_sp A5 c5 X A8 c8 Y _ SX.out SY.out HX.out HY.out (by omega) (by omega)).mono ?_
      rintro e w8 ⟨⟨A9, c9, rfl, s9, hb⟩, hB, lb⟩
      have SX := Lib.hid (SX.out.below hb)
      have SY := Lib.hid (SY.out.below hb)
      have SB := Lib.hid s9
      have HB := Lib.hid hB
      have HBr := Lib.hid (norm_right (cutR X Y))
      generalize norm (cutR X Y) = B at *
      clear hB
      have hb8 := hb7.trans (hb.mono hb7.size)
      clear hb hb7 s9
      go_wp2_with fail
      refine (minus_sp A5 c5 X A8 c8 Y _ SX.out SY.out HX.out HY.out (by omega) (by omega)).mono ?_
      rintro e w9 ⟨⟨A10, c10, rfl, s10, hb⟩, hL, ll⟩
      have SX := Lib.hid (SX.out.below hb)
      have SY := Lib.hid (SY.out.below hb)
      have SB := Lib.hid (SB.out.below hb)
      have SL := Lib.hid s10
      have HL := Lib.hid hL
      have HLr := Lib.hid (norm_right (minusR X Y))
      generalize norm (minusR X Y) = L at *
      clear hL
      have hb9 := hb8.trans (hb.mono hb8.size)
      clear hb hb8 s10
      go_wp2_with fail
      refine (union2_sp w9.heap.size A5 c5 X A8 c8 Y _ (by simp) (by simp) (by simp) (SX.out.below (below_new _ _)) (SY.out.below (below_new _ _)) HX.out HY.out (by omega) (by omega)).mono ?_
      rintro e w10 ⟨⟨A11, c11, rfl, s11, hb⟩, hU, lu⟩
      have hb := (below_new w9 _).trans (hb.mono (below_new w9 _).size)
      have SX := Lib.hid (SX.out.below hb)
      have SY := Lib.hid (SY.out.below hb)
      have SB := Lib.hid (SB.out.below hb)
      have SL := Lib.hid (SL.out.below hb)
      have SU := Lib.hid s11
      have HU := Lib.hid hU
      have HUr := Lib.hid (norm_right (orR X Y))
      generalize norm (orR X Y) = U at *
      clear hU
      have hb10 := hb9.trans (hb.mono hb9.size)
      clear hb hb9 s11
      go_wp2_with fail
      refine (not_sp A11 c11 U _ SU.out HUr.out (by omega)).mono ?_
      rintro e w11 ⟨⟨A12, c12, rfl, s12, hb⟩, hN, ln⟩
      have SX := Lib.hid (SX.out.below hb)
      have SY := Lib.hid (SY.out.below hb)
      have SB := Lib.hid (SB.out.below hb)
      have SL := Lib.hid (SL.out.below hb)
      have SU := Lib.hid (SU.out.below hb)
      have SN := Lib.hid s12
      have HNr := Lib.hid (norm_right (notR U))
      clear hN SU
      have hb11 := hb10.trans (hb.mono hb10.size)
      clear hb hb10 s12
      go_wp2_with fail
      refine (not_sp A5 c5 X _ SX.out HX.out (by omega)).mono ?_
      rintro e w12 ⟨⟨A13, c13, rfl, s13, hb⟩, hN, lnx⟩
      have SX := Lib.hid (SX.out.below hb)
      have SY := Lib.hid (SY.out.below hb)
      have SB := Lib.hid (SB.out.below hb)
      have SL := Lib.hid (SL.out.below hb)
      have SN := Lib.hid (SN.out.below hb)
      have SNX := Lib.hid s13
      have HNX := Lib.hid hN
      have HNXr := Lib.hid (norm_right (notR X))
      clear hN
      have hb12 := hb11.trans (hb.mono hb11.size)
      clear hb hb11 s13
      go_wp2_with fail
      refine (not_sp A8 c8 Y _ SY.out HY.out (by omega)).mono ?_
      rintro e w13 ⟨⟨A14, c14, rfl, s14, hb⟩, hN, lny⟩
      have SX := Lib.hid (SX.out.below hb)
      have SY := Lib.hid (SY.out.below hb)
      have SB := Lib.hid (SB.out.below hb)
      have SL := Lib.hid (SL.out.below hb)
      have SN := Lib.hid (SN.out.below hb)
      have SNX := Lib.hid (SNX.out.below hb)
      have SNY := Lib.hid s14
      have HNY := Lib.hid hN
      have HNYr := Lib.hid (norm_right (notR Y))
      clear hN
      have hb13 := hb12.trans (hb.mono hb12.size)
      clear hb hb12 s14
      go_wp2_with fail
      refine (cut_sp A13 c13 _ A14 c14 _ _ SNX.out SNY.out HNXr.out HNYr.out (by omega) (by omega)).mono ?_
      rintro e w14 ⟨⟨A15, c15, rfl, s15, hb⟩, _, lc⟩
      have SX := Lib.hid (SX.out.below hb)
      have SY := Lib.hid (SY.out.below hb)
      have SB := Lib.hid (SB.out.below hb)
      have SL := Lib.hid (SL.out.below hb)
      have SN := Lib.hid (SN.out.below hb)
      have SNX := Lib.hid (SNX.out.below hb)
      have SNY := Lib.hid (SNY.out.below hb)
      have SC := Lib.hid s15
      have hb14 := hb13.trans (hb.mono hb13.size)
      clear hb hb13 s15
      go_wp2_with fail
      refine (same_sp A12 c12 _ A15 c15 _ _ SN.out SC.out HNr.out (laws_none HU.out HNX.out HNY.out)).mono ?_
      rintro e w15 ⟨rfl, hb⟩
      have SX := Lib.hid (SX.out.below hb)
      have SY := Lib.hid (SY.out.below hb)
      have SB := Lib.hid (SB.out.below hb)
      have SL := Lib.hid (SL.out.below hb)
      have SN := Lib.hid (SN.out.below hb)
      have SNX := Lib.hid (SNX.out.below hb)
      have SNY := Lib.hid (SNY.out.below hb)
      have SC := Lib.hid (SC.out.below hb)
      clear SC SN SNY
      have hb15 := hb14.trans (hb.mono hb14.size)
      clear hb hb14
      go_wp2_with fail
      refine (not_sp A5 c5 X _ SX.out HX.out (by omega)).mono ?_
      rintro e w16 ⟨⟨A16, c16, rfl, s16, hb⟩, _, _⟩
      have SX := Lib.hid (SX.out.below hb)
      have SY := Lib.hid (SY.out.below hb)
      have SB := Lib.hid (SB.out.below hb)
      have SL := Lib.hid (SL.out.below hb)
      have SNX := Lib.hid (SNX.out.below hb)
      have SN2 := Lib.hid s16
      have hb16 := hb15.trans (hb.mono hb15.size)
      clear hb hb15 s16
      go_wp2_with fail
      refine (not_sp A16 c16 _ _ SN2.out HNXr.out (by omega)).mono ?_
      rintro e w17 ⟨⟨A17, c17, rfl, s17, hb⟩, _, _⟩
      have SX := Lib.hid (SX.out.below hb)
      have SY := Lib.hid (SY.out.below hb)
      have SB := Lib.hid (SB.out.below hb)
      have SL := Lib.hid (SL.out.below hb)
      have SNX := Lib.hid (SNX.out.below hb)
      have SN2 := Lib.hid (SN2.out.below hb)
      have SN3 := Lib.hid s17
      clear SN2
      have hb17 := hb16.trans (hb.mono hb16.size)
      clear hb hb16 s17
      go_wp2_with fail
      refine (same_sp A17 c17 _ A5 c5 X _ SN3.out SX.out (norm_right _) (laws_back HX.out HNX.out)).mono ?_
      rintro e w18 ⟨rfl, hb⟩
      have SX := Lib.hid (SX.out.below hb)
      have SY := Lib.hid (SY.out.below hb)
      have SB := Lib.hid (SB.out.below hb)
      have SL := Lib.hid (SL.out.below hb)
      have SNX := Lib.hid (SNX.out.below hb)
      have SN3 := Lib.hid (SN3.out.below hb)
      clear SN3
      have hb18 := hb17.trans (hb.mono hb17.size)
      clear hb hb17
      go_wp2_with fail
      refine (union2_sp w18.heap.size A9 c9 B A10 c10 L _ (by simp) (by simp) (by simp) (SB.out.below (below_new _ _)) (SL.out.below (below_new _ _)) HBr.out HLr.out (by omega) (by omega)).mono ?_
      rintro e w19 ⟨⟨A18, c18, rfl, s18, hb⟩, _, lu2⟩
      have hb := (below_new w18 _).trans (hb.mono (below_new w18 _).size)
      have SX := Lib.hid (SX.out.below hb)
      have SY := Lib.hid (SY.out.below hb)
      have SB := Lib.hid (SB.out.below hb)
      have SL := Lib.hid (SL.out.below hb)
      have SNX := Lib.hid (SNX.out.below hb)
      have SU2 := Lib.hid s18
      have hb19 := hb18.trans (hb.mono hb18.size)
      clear hb hb18 s18
      go_wp2_with fail
      refine (same_sp A18 c18 _ A5 c5 X _ SU2.out SX.out (norm_right _) (laws_both HX.out HB.out HL.out)).mono ?_
      rintro e w20 ⟨rfl, hb⟩
      have SX := Lib.hid (SX.out.below hb)
      have SY := Lib.hid (SY.out.below hb)
      have SB := Lib.hid (SB.out.below hb)
      have SL := Lib.hid (SL.out.below hb)
      have SNX := Lib.hid (SNX.out.below hb)
      have SU2 := Lib.hid (SU2.out.below hb)
      clear SU2
      have hb20 := hb19.trans (hb.mono hb19.size)
      clear hb hb19
      go_wp2_with fail
      refine (cut_sp A9 c9 B A10 c10 L _ SB.out SL.out HBr.out HLr.out (by omega) (by omega)).mono ?_
      rintro e w21 ⟨⟨A19, c19, rfl, s19, hb⟩, _, _⟩
      have SX := Lib.hid (SX.out.below hb)
      have SY := Lib.hid (SY.out.below hb)
      have SB := Lib.hid (SB.out.below hb)
      have SL := Lib.hid (SL.out.below hb)
      have SNX := Lib.hid (SNX.out.below hb)
      have SC3 := Lib.hid s19
      have hb21 := hb20.trans (hb.mono hb20.size)
      clear hb hb20 s19
      go_wp2_with fail
      refine (count_sp A19 c19 _ _ SC3.out (norm_right _)).mono ?_
      rintro e w22 ⟨rfl, hb⟩
      have SX := Lib.hid (SX.out.below hb)
      have SY := Lib.hid (SY.out.below hb)
      have SB := Lib.hid (SB.out.below hb)
      have SL := Lib.hid (SL.out.below hb)
      have SNX := Lib.hid (SNX.out.below hb)
      have SC3 := Lib.hid (SC3.out.below hb)
      clear SC3
      rw [laws_apart HB.out HL.out, show countR [] = 0 from rfl]
      have hb22 := hb21.trans (hb.mono hb21.size)
      clear hb hb21
      obtain ⟨nx, hnx⟩ : ∃ nx, countR X = nx := ⟨_, rfl⟩
      obtain ⟨nb, hnb⟩ : ∃ nb, countR B = nb := ⟨_, rfl⟩
      obtain ⟨nl, hnl⟩ : ∃ nl, countR L = nl := ⟨_, rfl⟩
      obtain ⟨nn, hnn⟩ : ∃ nn, countR (norm (notR X)) = nn := ⟨_, rfl⟩
      have q1 := laws_count HX.out HNXr.out HNX.out
      have q2 := laws_parts HX.out HBr.out HLr.out HB.out HL.out
      have q3 := (countR_bound HX.out).2
      have q4 := (right_len (b := -1) HX.out (by omega)).2.2
      have q5 := (right_len (b := -1) HBr.out (by omega)).2.2
      have q6 := (right_len (b := -1) HLr.out (by omega)).2.2
      have q7 := (right_len (b := -1) HNXr.out (by omega)).2.2
      rw [hnx, hnn] at q1
      rw [hnb, hnl, hnx] at q2
      rw [hnx] at q3 q4
      rw [hnb] at q5
      rw [hnl] at q6
      rw [hnn] at q7
      have Hnx := Lib.hid hnx
      have Hnb := Lib.hid hnb
      have Hnl := Lib.hid hnl
      have Hnn := Lib.hid hnn
      have Q1 := Lib.hid q1
      have Q2 := Lib.hid q2
      clear hnx hnb hnl hnn q1 q2
      go_wp2_with fail
      have CC := count_sp A5 c5 _ w22 SX.out HX.out
      rw [Hnx.out] at CC
      refine CC.mono ?_
      clear CC
      rintro e w23 ⟨rfl, hb⟩
      have SX := Lib.hid (SX.out.below hb)
      have SY := Lib.hid (SY.out.below hb)
      have SB := Lib.hid (SB.out.below hb)
      have SL := Lib.hid (SL.out.below hb)
      have SNX := Lib.hid (SNX.out.below hb)
      have hb23 := hb22.trans (hb.mono hb22.size)
      clear hb hb22
      go_wp2_with fail
      refine (not_sp A5 c5 X _ SX.out HX.out (by omega)).mono ?_
      rintro e w24 ⟨⟨A20, c20, rfl, s20, hb⟩, _, _⟩
      have SX := Lib.hid (SX.out.below hb)
      have SY := Lib.hid (SY.out.below hb)
      have SB := Lib.hid (SB.out.below hb)
      have SL := Lib.hid (SL.out.below hb)
      have SNX := Lib.hid (SNX.out.below hb)
      have SN4 := Lib.hid s20
      have hb24 := hb23.trans (hb.mono hb23.size)
      clear hb hb23 s20
      go_wp2_with fail
      have CC := count_sp A20 c20 _ w24 SN4.out HNXr.out
      rw [Hnn.out] at CC
      refine CC.mono ?_
      clear CC
      rintro e w25 ⟨rfl, hb⟩
      have SX := Lib.hid (SX.out.below hb)
      have SY := Lib.hid (SY.out.below hb)
      have SB := Lib.hid (SB.out.below hb)
      have SL := Lib.hid (SL.out.below hb)
      have SNX := Lib.hid (SNX.out.below hb)
      have SN4 := Lib.hid (SN4.out.below hb)
      have hb25 := hb24.trans (hb.mono hb24.size)
      clear hb hb24
      have e1 : nx + nn = 1114112 := Q1.out
      obtain rfl : nn = 1114112 - nx := by omega
      have e2 : nx + (1114112 - nx) = 1114112 := by omega
      clear e1
      go_wp2_with fail
      have CC := count_sp A9 c9 _ w25 SB.out HBr.out
      rw [Hnb.out] at CC
      refine CC.mono ?_
      clear CC
      rintro e w26 ⟨rfl, hb⟩
      have SX := Lib.hid (SX.out.below hb)
      have SY := Lib.hid (SY.out.below hb)
      have SB := Lib.hid (SB.out.below hb)
      have SL := Lib.hid (SL.out.below hb)
      have SNX := Lib.hid (SNX.out.below hb)
      have hb26 := hb25.trans (hb.mono hb25.size)
      clear hb hb25
      go_wp2_with fail
      have CC := count_sp A10 c10 _ w26 SL.out HLr.out
      rw [Hnl.out] at CC
      refine CC.mono ?_
      clear CC
      rintro e w27 ⟨rfl, hb⟩
      have SX := Lib.hid (SX.out.below hb)
      have SY := Lib.hid (SY.out.below hb)
      have SB := Lib.hid (SB.out.below hb)
      have SL := Lib.hid (SL.out.below hb)
      have SNX := Lib.hid (SNX.out.below hb)
      have hb27 := hb26.trans (hb.mono hb26.size)
      clear hb hb26
      go_wp2_with fail
      have CC := count_sp A5 c5 _ w27 SX.out HX.out
      rw [Hnx.out] at CC
      refine CC.mono ?_
      clear CC
      rintro e w28 ⟨rfl, hb⟩
      have SX := Lib.hid (SX.out.below hb)
      have SY := Lib.hid (SY.out.below hb)
      have SB := Lib.hid (SB.out.below hb)
      have SL := Lib.hid (SL.out.below hb)
      have SNX := Lib.hid (SNX.out.below hb)
      have hb28 := hb27.trans (hb.mono hb27.size)
      clear hb hb27
      have e3 := Q2.out
      subst e3
      go_wp2
      go_ret
      refine ⟨?_, hb28⟩
      have ew : RowKit.wrap64 (nb + nl) = nb + nl := wrap64_id _ (by omega) (by omega)
      show Ending.returned (Value.bool (RowKit.wrap64 (nb + nl) == nb + nl)) = _
      rw [ew]
      simp
end Go.Proofs.YtimiinnnmdcmhaaDoor
