/-
  Contracts: the document's Right, of an expression.
-/
import Derived.Test.YtegkogadceodlaaRrp
import Derived.Test.YtegkogadceodlaaSiz
namespace Go.Proofs.Ytegkogadceodlaa
open Go.RowKit Go.Shelf Go.Lib

set_option maxHeartbeats 16000000 in
theorem refRight_any (e : E) (v : Value) (w : World) (h : Nd w w.heap.size e v) :
    Calls Try.prog 14 #[v, .bool false] w fun r w' => r = .returned (.bool (rightE e)) ∧ Below w.heap.size w w' := by
    obtain ⟨_, _, A, cap, rfl, hk⟩ := Nd_iff.1 h
    obtain ⟨W0, hW0⟩ : ∃ W0, w.alloc (.cells #[.int .i64 e.k, .int .i64 e.c, .slice A e.ks.length cap] 24) = W0 := ⟨_, rfl⟩
    have hb0 : Below w.heap.size w W0 := by rw [← hW0]; exact below_new _ _
    have hz0 : w.heap.size < W0.heap.size := by rw [← hW0]; simp
    have c0 : W0.cell? ⟨w.heap.size, 0, none⟩ = some (.int .i64 e.k) := by rw [← hW0]; simp
    have c1 : W0.cell? ⟨w.heap.size, 1, none⟩ = some (.int .i64 e.c) := by rw [← hW0]; simp
    have c2 : W0.cell? ⟨w.heap.size, 2, none⟩ = some (.slice A e.ks.length cap) := by rw [← hW0]; simp
    have hk0 := hk.on hb0
    have hln : e.ks.length ≤ 9223372036854775807 := by have := hk.l; have := hk.m; unfold maxLen at this; omega
    have hC := size_any _ e (Nat.le_refl _) _ 2000 W0 (h.on hb0) (by omega)
    have hbig : 2000 < szE e → rightE e = false := fun hs => by
      rcases hr : rightE e with _ | _
      · rfl
      · have := right_size hr; omega
    have hsm : ¬ 2000 < szE e → rightE e = if e.k = 9 then shapedK e.k e.c e.ks.length else (decide (e.k ≠ 9) && shapedK e.k e.c e.ks.length && goodE.all e.ks) := fun hs => by
      by_cases h9 : e.k = 9
      · rw [if_pos h9]; unfold rightE; rw [if_pos h9]
      · rw [if_neg h9, rightE_good h9, goodE_eq, decide_eq_true (show szE e ≤ 2000 by omega), Bool.and_true]
    have ih' : ∀ f v w, Nd w w.heap.size f v → Calls Try.prog 14 #[v, .bool true] w fun r w' => r = .returned (.bool (goodE f)) ∧ Below w.heap.size w w' := fun f => refRightP_any _ f (Nat.le_refl _)
    obtain ⟨R, hR⟩ : ∃ R, rightE e = R := ⟨_, rfl⟩
    rw [hR] at hbig hsm ⊢
    obtain ⟨sv, hsv⟩ : ∃ sv, min (szE e) (2000 + 1) = sv := ⟨_, rfl⟩
    rw [hsv] at hC
    have hsv1 : 2000 < szE e → 2000 < sv := by omega
    have hsv2 : ¬ 2000 < szE e → ¬ 2000 < sv := by omega
    generalize szE e = S at *
    generalize e.k = kk at *
    generalize e.c = cc at *
    generalize e.ks = ks at *
    obtain ⟨n, hn⟩ : ∃ n, ks.length = n := ⟨_, rfl⟩
    rw [hn] at hW0 c2 hln hsm hC ⊢
    have HW := Lib.hid hW0
    have HK := Lib.hid (And.intro hk0 hb0)
    have HI := Lib.hid ih'
    have HN := Lib.hid hn
    have HC := Lib.hid hC
    clear hW0 hk hk0 hb0 ih' hn h hR hC hsv
    by_cases big : 2000 < S
    · obtain rfl : R = false := hbig big
      have i0 : (2000 : Int) < (sv : Int) := by have := hsv1 big; omega
      clear hbig hsm hsv1 hsv2 big
      go_enter Try.func14, Try.ntmps14
      go_wp2_with fail
      rw [HW.out]
      refine HC.out.mono ?_
      rintro r w1 ⟨rfl, hb1⟩
      have c0' := (hb1.cell (p := ⟨w.heap.size, 0, none⟩) hz0).trans c0
      have c1' := (hb1.cell (p := ⟨w.heap.size, 1, none⟩) hz0).trans c1
      have c2' := (hb1.cell (p := ⟨w.heap.size, 2, none⟩) hz0).trans c2
      have HZ := Lib.hid (HK.out.2.trans (hb1.mono HK.out.2.size))
      clear hb1
      go_wp2
      go_ret
      exact ⟨rfl, HZ.out⟩
    have HS := Lib.hid (hsm big)
    have i0 : decide ((2000 : Int) < (sv : Int)) = false := by have := hsv2 big; simp; omega
    clear hbig hsm hsv1 hsv2 big
    by_cases k0 : kk < 0
    · obtain rfl : R = false := by rw [HS.out, if_neg (by omega)]; unfold shapedK; rw [if_neg (by omega), if_neg (by omega), if_neg (by omega), if_neg (by omega)]; simp
      go_enter Try.func14, Try.ntmps14
      go_wp2_with fail
      rw [HW.out]
      refine HC.out.mono ?_
      rintro r w1 ⟨rfl, hb1⟩
      have c0' := (hb1.cell (p := ⟨w.heap.size, 0, none⟩) hz0).trans c0
      have c1' := (hb1.cell (p := ⟨w.heap.size, 1, none⟩) hz0).trans c1
      have c2' := (hb1.cell (p := ⟨w.heap.size, 2, none⟩) hz0).trans c2
      have HZ := Lib.hid (HK.out.2.trans (hb1.mono HK.out.2.size))
      clear hb1
      go_wp2
      go_ret
      exact ⟨rfl, HZ.out⟩
    have q0 : decide (kk < 0) = false := by simp; omega
    by_cases k1 : 9 < kk
    · obtain rfl : R = false := by rw [HS.out, if_neg (by omega)]; unfold shapedK; rw [if_neg (by omega), if_neg (by omega), if_neg (by omega), if_neg (by omega)]; simp
      clear k0
      go_enter Try.func14, Try.ntmps14
      go_wp2_with fail
      rw [HW.out]
      refine HC.out.mono ?_
      rintro r w1 ⟨rfl, hb1⟩
      have c0' := (hb1.cell (p := ⟨w.heap.size, 0, none⟩) hz0).trans c0
      have c1' := (hb1.cell (p := ⟨w.heap.size, 1, none⟩) hz0).trans c1
      have c2' := (hb1.cell (p := ⟨w.heap.size, 2, none⟩) hz0).trans c2
      have HZ := Lib.hid (HK.out.2.trans (hb1.mono HK.out.2.size))
      clear hb1
      go_wp2
      go_ret
      exact ⟨rfl, HZ.out⟩
    have q1 : decide (9 < kk) = false := by simp; omega
    by_cases k9 : kk = 9
    · subst k9
      clear k0 k1
      have hR : R = (decide (cc = 0) && decide (n = 0)) := HS.out
      by_cases n0 : n = 0
      · have hk0 : ks = [] := List.length_eq_zero_iff.1 (HN.out.trans n0)
        have e0 : goodE.all ([] : List E) = true := rfl
        subst n0
        by_cases h1 : cc = 0
        · subst h1
          obtain rfl : R = true := by rw [hR]; rfl
          clear hR hk0 e0
          go_enter Try.func14, Try.ntmps14
          go_wp2_with fail
          rw [HW.out]
          refine HC.out.mono ?_
          rintro r w1 ⟨rfl, hb1⟩
          have c0' := (hb1.cell (p := ⟨w.heap.size, 0, none⟩) hz0).trans c0
          have c1' := (hb1.cell (p := ⟨w.heap.size, 1, none⟩) hz0).trans c1
          have c2' := (hb1.cell (p := ⟨w.heap.size, 2, none⟩) hz0).trans c2
          have HZ := Lib.hid (HK.out.2.trans (hb1.mono HK.out.2.size))
          clear hb1
          go_wp2
          go_ret
          exact ⟨rfl, HZ.out⟩
        · have h1' : (cc == 0) = false := by simpa using h1
          obtain rfl : R = false := by rw [hR, decide_eq_false h1]; rfl
          clear hR hk0 e0 h1
          go_enter Try.func14, Try.ntmps14
          go_wp2_with fail
          rw [HW.out]
          refine HC.out.mono ?_
          rintro r w1 ⟨rfl, hb1⟩
          have c0' := (hb1.cell (p := ⟨w.heap.size, 0, none⟩) hz0).trans c0
          have c1' := (hb1.cell (p := ⟨w.heap.size, 1, none⟩) hz0).trans c1
          have c2' := (hb1.cell (p := ⟨w.heap.size, 2, none⟩) hz0).trans c2
          have HZ := Lib.hid (HK.out.2.trans (hb1.mono HK.out.2.size))
          clear hb1
          go_wp2
          go_ret
          exact ⟨rfl, HZ.out⟩
      · have n1 : ((n : Int) == 0) = false := by simpa using n0
        obtain rfl : R = false := by rw [hR, decide_eq_false n0]; simp
        clear hR n0
        go_enter Try.func14, Try.ntmps14
        go_wp2_with fail
        rw [HW.out]
        refine HC.out.mono ?_
        rintro r w1 ⟨rfl, hb1⟩
        have c0' := (hb1.cell (p := ⟨w.heap.size, 0, none⟩) hz0).trans c0
        have c1' := (hb1.cell (p := ⟨w.heap.size, 1, none⟩) hz0).trans c1
        have c2' := (hb1.cell (p := ⟨w.heap.size, 2, none⟩) hz0).trans c2
        have HZ := Lib.hid (HK.out.2.trans (hb1.mono HK.out.2.size))
        clear hb1
        go_wp2
        go_ret
        exact ⟨rfl, HZ.out⟩
    have q9 : (kk == 9) = false := by simpa using k9
    have hkk : kk = 0 ∨ kk = 1 ∨ kk = 2 ∨ kk = 3 ∨ kk = 4 ∨ kk = 5 ∨ kk = 6 ∨ kk = 7 ∨ kk = 8 := by omega
    clear k0 k1 k9
    rcases hkk with rfl | rfl | rfl | rfl | rfl | rfl | rfl | rfl | rfl
    · have hR : R = (isC cc && decide (n = 0) && goodE.all ks) := HS.out
      rw [isC_iff] at hR
      by_cases n0 : n = 0
      · have hk0 : ks = [] := List.length_eq_zero_iff.1 (HN.out.trans n0)
        have e0 : goodE.all ([] : List E) = true := rfl
        subst n0
        by_cases h1 : 0 ≤ cc
        · by_cases h2 : cc ≤ 35
          · obtain rfl : R = true := by rw [hR, hk0, e0, decide_eq_true h1, decide_eq_true h2]; rfl
            clear hR hk0 e0
            go_enter Try.func14, Try.ntmps14
            go_wp2_with fail
            rw [HW.out]
            refine HC.out.mono ?_
            rintro r w1 ⟨rfl, hb1⟩
            have c0' := (hb1.cell (p := ⟨w.heap.size, 0, none⟩) hz0).trans c0
            have c1' := (hb1.cell (p := ⟨w.heap.size, 1, none⟩) hz0).trans c1
            have c2' := (hb1.cell (p := ⟨w.heap.size, 2, none⟩) hz0).trans c2
            have HZ := Lib.hid (HK.out.2.trans (hb1.mono HK.out.2.size))
            clear hb1
            go_wp2
            go_ret
            exact ⟨rfl, HZ.out⟩
          · have h2' : decide (cc ≤ 35) = false := by simp; omega
            obtain rfl : R = false := by rw [hR, h2', Bool.and_false]; rfl
            clear hR hk0 e0 h2
            go_enter Try.func14, Try.ntmps14
            go_wp2_with fail
            rw [HW.out]
            refine HC.out.mono ?_
            rintro r w1 ⟨rfl, hb1⟩
            have c0' := (hb1.cell (p := ⟨w.heap.size, 0, none⟩) hz0).trans c0
            have c1' := (hb1.cell (p := ⟨w.heap.size, 1, none⟩) hz0).trans c1
            have c2' := (hb1.cell (p := ⟨w.heap.size, 2, none⟩) hz0).trans c2
            have HZ := Lib.hid (HK.out.2.trans (hb1.mono HK.out.2.size))
            clear hb1
            go_wp2
            go_ret
            exact ⟨rfl, HZ.out⟩
        · have h1' : decide (0 ≤ cc) = false := by simp; omega
          obtain rfl : R = false := by rw [hR, h1']; rfl
          clear hR hk0 e0 h1
          go_enter Try.func14, Try.ntmps14
          go_wp2_with fail
          rw [HW.out]
          refine HC.out.mono ?_
          rintro r w1 ⟨rfl, hb1⟩
          have c0' := (hb1.cell (p := ⟨w.heap.size, 0, none⟩) hz0).trans c0
          have c1' := (hb1.cell (p := ⟨w.heap.size, 1, none⟩) hz0).trans c1
          have c2' := (hb1.cell (p := ⟨w.heap.size, 2, none⟩) hz0).trans c2
          have HZ := Lib.hid (HK.out.2.trans (hb1.mono HK.out.2.size))
          clear hb1
          go_wp2
          go_ret
          exact ⟨rfl, HZ.out⟩
      · have n1 : ((n : Int) == 0) = false := by simpa using n0
        obtain rfl : R = false := by rw [hR, decide_eq_false n0]; simp
        clear hR n0
        go_enter Try.func14, Try.ntmps14
        go_wp2_with fail
        rw [HW.out]
        refine HC.out.mono ?_
        rintro r w1 ⟨rfl, hb1⟩
        have c0' := (hb1.cell (p := ⟨w.heap.size, 0, none⟩) hz0).trans c0
        have c1' := (hb1.cell (p := ⟨w.heap.size, 1, none⟩) hz0).trans c1
        have c2' := (hb1.cell (p := ⟨w.heap.size, 2, none⟩) hz0).trans c2
        have HZ := Lib.hid (HK.out.2.trans (hb1.mono HK.out.2.size))
        clear hb1
        go_wp2
        go_ret
        exact ⟨rfl, HZ.out⟩
    · have hR : R = (decide (cc = 0) && decide (n = 0) && goodE.all ks) := HS.out
      by_cases n0 : n = 0
      · have hk0 : ks = [] := List.length_eq_zero_iff.1 (HN.out.trans n0)
        have e0 : goodE.all ([] : List E) = true := rfl
        subst n0
        by_cases h1 : cc = 0
        · subst h1
          obtain rfl : R = true := by rw [hR, hk0, e0]; rfl
          clear hR hk0 e0
          go_enter Try.func14, Try.ntmps14
          go_wp2_with fail
          rw [HW.out]
          refine HC.out.mono ?_
          rintro r w1 ⟨rfl, hb1⟩
          have c0' := (hb1.cell (p := ⟨w.heap.size, 0, none⟩) hz0).trans c0
          have c1' := (hb1.cell (p := ⟨w.heap.size, 1, none⟩) hz0).trans c1
          have c2' := (hb1.cell (p := ⟨w.heap.size, 2, none⟩) hz0).trans c2
          have HZ := Lib.hid (HK.out.2.trans (hb1.mono HK.out.2.size))
          clear hb1
          go_wp2
          go_ret
          exact ⟨rfl, HZ.out⟩
        · have h1' : (cc == 0) = false := by simpa using h1
          obtain rfl : R = false := by rw [hR, decide_eq_false h1]; rfl
          clear hR hk0 e0 h1
          go_enter Try.func14, Try.ntmps14
          go_wp2_with fail
          rw [HW.out]
          refine HC.out.mono ?_
          rintro r w1 ⟨rfl, hb1⟩
          have c0' := (hb1.cell (p := ⟨w.heap.size, 0, none⟩) hz0).trans c0
          have c1' := (hb1.cell (p := ⟨w.heap.size, 1, none⟩) hz0).trans c1
          have c2' := (hb1.cell (p := ⟨w.heap.size, 2, none⟩) hz0).trans c2
          have HZ := Lib.hid (HK.out.2.trans (hb1.mono HK.out.2.size))
          clear hb1
          go_wp2
          go_ret
          exact ⟨rfl, HZ.out⟩
      · have n1 : ((n : Int) == 0) = false := by simpa using n0
        obtain rfl : R = false := by rw [hR, decide_eq_false n0]; simp
        clear hR n0
        go_enter Try.func14, Try.ntmps14
        go_wp2_with fail
        rw [HW.out]
        refine HC.out.mono ?_
        rintro r w1 ⟨rfl, hb1⟩
        have c0' := (hb1.cell (p := ⟨w.heap.size, 0, none⟩) hz0).trans c0
        have c1' := (hb1.cell (p := ⟨w.heap.size, 1, none⟩) hz0).trans c1
        have c2' := (hb1.cell (p := ⟨w.heap.size, 2, none⟩) hz0).trans c2
        have HZ := Lib.hid (HK.out.2.trans (hb1.mono HK.out.2.size))
        clear hb1
        go_wp2
        go_ret
        exact ⟨rfl, HZ.out⟩
    · have hR : R = (isC cc && decide (n = 0) && goodE.all ks) := HS.out
      rw [isC_iff] at hR
      by_cases n0 : n = 0
      · have hk0 : ks = [] := List.length_eq_zero_iff.1 (HN.out.trans n0)
        have e0 : goodE.all ([] : List E) = true := rfl
        subst n0
        by_cases h1 : 0 ≤ cc
        · by_cases h2 : cc ≤ 35
          · obtain rfl : R = true := by rw [hR, hk0, e0, decide_eq_true h1, decide_eq_true h2]; rfl
            clear hR hk0 e0
            go_enter Try.func14, Try.ntmps14
            go_wp2_with fail
            rw [HW.out]
            refine HC.out.mono ?_
            rintro r w1 ⟨rfl, hb1⟩
            have c0' := (hb1.cell (p := ⟨w.heap.size, 0, none⟩) hz0).trans c0
            have c1' := (hb1.cell (p := ⟨w.heap.size, 1, none⟩) hz0).trans c1
            have c2' := (hb1.cell (p := ⟨w.heap.size, 2, none⟩) hz0).trans c2
            have HZ := Lib.hid (HK.out.2.trans (hb1.mono HK.out.2.size))
            clear hb1
            go_wp2
            go_ret
            exact ⟨rfl, HZ.out⟩
          · have h2' : decide (cc ≤ 35) = false := by simp; omega
            obtain rfl : R = false := by rw [hR, h2', Bool.and_false]; rfl
            clear hR hk0 e0 h2
            go_enter Try.func14, Try.ntmps14
            go_wp2_with fail
            rw [HW.out]
            refine HC.out.mono ?_
            rintro r w1 ⟨rfl, hb1⟩
            have c0' := (hb1.cell (p := ⟨w.heap.size, 0, none⟩) hz0).trans c0
            have c1' := (hb1.cell (p := ⟨w.heap.size, 1, none⟩) hz0).trans c1
            have c2' := (hb1.cell (p := ⟨w.heap.size, 2, none⟩) hz0).trans c2
            have HZ := Lib.hid (HK.out.2.trans (hb1.mono HK.out.2.size))
            clear hb1
            go_wp2
            go_ret
            exact ⟨rfl, HZ.out⟩
        · have h1' : decide (0 ≤ cc) = false := by simp; omega
          obtain rfl : R = false := by rw [hR, h1']; rfl
          clear hR hk0 e0 h1
          go_enter Try.func14, Try.ntmps14
          go_wp2_with fail
          rw [HW.out]
          refine HC.out.mono ?_
          rintro r w1 ⟨rfl, hb1⟩
          have c0' := (hb1.cell (p := ⟨w.heap.size, 0, none⟩) hz0).trans c0
          have c1' := (hb1.cell (p := ⟨w.heap.size, 1, none⟩) hz0).trans c1
          have c2' := (hb1.cell (p := ⟨w.heap.size, 2, none⟩) hz0).trans c2
          have HZ := Lib.hid (HK.out.2.trans (hb1.mono HK.out.2.size))
          clear hb1
          go_wp2
          go_ret
          exact ⟨rfl, HZ.out⟩
      · have n1 : ((n : Int) == 0) = false := by simpa using n0
        obtain rfl : R = false := by rw [hR, decide_eq_false n0]; simp
        clear hR n0
        go_enter Try.func14, Try.ntmps14
        go_wp2_with fail
        rw [HW.out]
        refine HC.out.mono ?_
        rintro r w1 ⟨rfl, hb1⟩
        have c0' := (hb1.cell (p := ⟨w.heap.size, 0, none⟩) hz0).trans c0
        have c1' := (hb1.cell (p := ⟨w.heap.size, 1, none⟩) hz0).trans c1
        have c2' := (hb1.cell (p := ⟨w.heap.size, 2, none⟩) hz0).trans c2
        have HZ := Lib.hid (HK.out.2.trans (hb1.mono HK.out.2.size))
        clear hb1
        go_wp2
        go_ret
        exact ⟨rfl, HZ.out⟩
    · have hR : R = (decide (cc = 0) && decide (n = 0) && goodE.all ks) := HS.out
      by_cases n0 : n = 0
      · have hk0 : ks = [] := List.length_eq_zero_iff.1 (HN.out.trans n0)
        have e0 : goodE.all ([] : List E) = true := rfl
        subst n0
        by_cases h1 : cc = 0
        · subst h1
          obtain rfl : R = true := by rw [hR, hk0, e0]; rfl
          clear hR hk0 e0
          go_enter Try.func14, Try.ntmps14
          go_wp2_with fail
          rw [HW.out]
          refine HC.out.mono ?_
          rintro r w1 ⟨rfl, hb1⟩
          have c0' := (hb1.cell (p := ⟨w.heap.size, 0, none⟩) hz0).trans c0
          have c1' := (hb1.cell (p := ⟨w.heap.size, 1, none⟩) hz0).trans c1
          have c2' := (hb1.cell (p := ⟨w.heap.size, 2, none⟩) hz0).trans c2
          have HZ := Lib.hid (HK.out.2.trans (hb1.mono HK.out.2.size))
          clear hb1
          go_wp2
          go_ret
          exact ⟨rfl, HZ.out⟩
        · have h1' : (cc == 0) = false := by simpa using h1
          obtain rfl : R = false := by rw [hR, decide_eq_false h1]; rfl
          clear hR hk0 e0 h1
          go_enter Try.func14, Try.ntmps14
          go_wp2_with fail
          rw [HW.out]
          refine HC.out.mono ?_
          rintro r w1 ⟨rfl, hb1⟩
          have c0' := (hb1.cell (p := ⟨w.heap.size, 0, none⟩) hz0).trans c0
          have c1' := (hb1.cell (p := ⟨w.heap.size, 1, none⟩) hz0).trans c1
          have c2' := (hb1.cell (p := ⟨w.heap.size, 2, none⟩) hz0).trans c2
          have HZ := Lib.hid (HK.out.2.trans (hb1.mono HK.out.2.size))
          clear hb1
          go_wp2
          go_ret
          exact ⟨rfl, HZ.out⟩
      · have n1 : ((n : Int) == 0) = false := by simpa using n0
        obtain rfl : R = false := by rw [hR, decide_eq_false n0]; simp
        clear hR n0
        go_enter Try.func14, Try.ntmps14
        go_wp2_with fail
        rw [HW.out]
        refine HC.out.mono ?_
        rintro r w1 ⟨rfl, hb1⟩
        have c0' := (hb1.cell (p := ⟨w.heap.size, 0, none⟩) hz0).trans c0
        have c1' := (hb1.cell (p := ⟨w.heap.size, 1, none⟩) hz0).trans c1
        have c2' := (hb1.cell (p := ⟨w.heap.size, 2, none⟩) hz0).trans c2
        have HZ := Lib.hid (HK.out.2.trans (hb1.mono HK.out.2.size))
        clear hb1
        go_wp2
        go_ret
        exact ⟨rfl, HZ.out⟩
    · have hR : R = (decide (cc = 0) && decide (2 ≤ n) && goodE.all ks) := HS.out
      by_cases hn1 : 2 ≤ n
      · have hR2 := Lib.hid (show R = (decide (cc = 0) && goodE.all ks) by rw [hR, decide_eq_true hn1, Bool.and_true])
        clear hR
        have n1 : decide ((n : Int) < 2) = false := by simp; omega
        go_enter Try.func14, Try.ntmps14
        go_wp2_with fail
        rw [HW.out]
        refine HC.out.mono ?_
        rintro r w1 ⟨rfl, hb1⟩
        have c0' := (hb1.cell (p := ⟨w.heap.size, 0, none⟩) hz0).trans c0
        have c1' := (hb1.cell (p := ⟨w.heap.size, 1, none⟩) hz0).trans c1
        have c2' := (hb1.cell (p := ⟨w.heap.size, 2, none⟩) hz0).trans c2
        have HZ := Lib.hid (HK.out.2.trans (hb1.mono HK.out.2.size))
        have HB1 := Lib.hid hb1
        clear hb1
        go_wp2_with fail
        go_loopw [6] (fun i wr => ∃ k : Nat, i = .int .i64 k ∧ k ≤ n ∧ goodE.all (ks.take k) = true ∧ Below W0.heap.size W0 wr) (fun i _ => n - (RowKit.intOf i).toNat)
        case atStart => exact ⟨0, rfl, Nat.zero_le _, by rw [List.take_zero]; rfl, HB1.out⟩
        case round =>
          obtain ⟨k, rfl, hkn, hyes, hb⟩ := hrel
          have c1' := (hb.cell (p := ⟨w.heap.size, 1, none⟩) hz0).trans c1
          have c2' := (hb.cell (p := ⟨w.heap.size, 2, none⟩) hz0).trans c2
          by_cases hlt : k < n
          · obtain ⟨f, hf⟩ : ∃ f, ks[k]? = some f := ⟨ks[k]'(by rw [HN.out]; exact hlt), List.getElem?_eq_getElem _⟩
            have i1 : (k : Int) < (n : Int) := by omega
            obtain ⟨b, o, rfl, hbl, hr⟩ := HK.out.1.r (by rintro rfl; simp at hf)
            obtain ⟨Af, capf, d0, d1, d2, hN⟩ := row_get' hr hf
            have d0' := (hb.cell (p := ⟨b, o + k * 3, none⟩) hbl).trans d0
            have d1' := (hb.cell (p := ⟨b, o + k * 3 + 1, none⟩) hbl).trans d1
            have d2' := (hb.cell (p := ⟨b, o + k * 3 + 2, none⟩) hbl).trans d2
            have hs := good_take hf
            rw [hyes, Bool.true_and] at hs
            have hC := HI.out f _ wr ((hN.below hb).mono hb.size)
            obtain ⟨q, hq⟩ : ∃ q, goodE f = q := ⟨_, rfl⟩
            rw [hq] at hC hs
            replace hC := Lib.hid hC
            have HH := Lib.hid (And.intro hs (And.intro hb hlt))
            clear hs hb hN hr hbl hq hyes d0 d1 d2
            go_wp2_with fail
            refine hC.out.mono ?_
            rintro r w2 ⟨rfl, hb2⟩
            have HB2 := Lib.hid (HH.out.2.1.trans (hb2.mono HH.out.2.1.size))
            clear hb2
            cases q
            · obtain rfl : R = false := by rw [hR2.out, good_stop HH.out.1, Bool.and_false]
              go_wp2
              go_ret
              exact ⟨rfl, HK.out.2.trans (HB2.out.mono HK.out.2.size)⟩
            · go_wp2
              go_roundw
              case rel => exact ⟨k + 1, by go_num, by omega, HH.out.1, HB2.out⟩
              case measure => simp [RowKit.intOf]; omega
          · have hkn : k = n := by omega
            subst hkn
            have i1 : ¬ (k : Int) < (k : Int) := by omega
            have ht : ks.take k = ks := by rw [← HN.out, List.take_length]
            rw [ht] at hyes
            have HY := Lib.hid (And.intro hyes (HK.out.2.trans (hb.mono HK.out.2.size)))
            clear hb ht hyes
            by_cases hq : cc = 0
            · subst hq
              obtain rfl : R = true := by rw [hR2.out, HY.out.1]; rfl
              go_wp2
              go_ret
              exact ⟨rfl, HY.out.2⟩
            · have qc : (cc == 0) = false := by simpa using hq
              obtain rfl : R = false := by rw [hR2.out, decide_eq_false hq]; rfl
              clear hq
              go_wp2
              go_ret
              exact ⟨rfl, HY.out.2⟩
      · obtain rfl : R = false := by rw [hR, decide_eq_false hn1]; simp
        clear hR
        have n1 : ((n : Int) < 2) := by omega
        go_enter Try.func14, Try.ntmps14
        go_wp2_with fail
        rw [HW.out]
        refine HC.out.mono ?_
        rintro r w1 ⟨rfl, hb1⟩
        have c0' := (hb1.cell (p := ⟨w.heap.size, 0, none⟩) hz0).trans c0
        have c1' := (hb1.cell (p := ⟨w.heap.size, 1, none⟩) hz0).trans c1
        have c2' := (hb1.cell (p := ⟨w.heap.size, 2, none⟩) hz0).trans c2
        have HZ := Lib.hid (HK.out.2.trans (hb1.mono HK.out.2.size))
        clear hb1
        go_wp2
        go_ret
        exact ⟨rfl, HZ.out⟩
    · have hR : R = (decide (cc = 0) && decide (2 ≤ n) && goodE.all ks) := HS.out
      by_cases hn1 : 2 ≤ n
      · have hR2 := Lib.hid (show R = (decide (cc = 0) && goodE.all ks) by rw [hR, decide_eq_true hn1, Bool.and_true])
        clear hR
        have n1 : decide ((n : Int) < 2) = false := by simp; omega
        go_enter Try.func14, Try.ntmps14
        go_wp2_with fail
        rw [HW.out]
        refine HC.out.mono ?_
        rintro r w1 ⟨rfl, hb1⟩
        have c0' := (hb1.cell (p := ⟨w.heap.size, 0, none⟩) hz0).trans c0
        have c1' := (hb1.cell (p := ⟨w.heap.size, 1, none⟩) hz0).trans c1
        have c2' := (hb1.cell (p := ⟨w.heap.size, 2, none⟩) hz0).trans c2
        have HZ := Lib.hid (HK.out.2.trans (hb1.mono HK.out.2.size))
        have HB1 := Lib.hid hb1
        clear hb1
        go_wp2_with fail
        go_loopw [6] (fun i wr => ∃ k : Nat, i = .int .i64 k ∧ k ≤ n ∧ goodE.all (ks.take k) = true ∧ Below W0.heap.size W0 wr) (fun i _ => n - (RowKit.intOf i).toNat)
        case atStart => exact ⟨0, rfl, Nat.zero_le _, by rw [List.take_zero]; rfl, HB1.out⟩
        case round =>
          obtain ⟨k, rfl, hkn, hyes, hb⟩ := hrel
          have c1' := (hb.cell (p := ⟨w.heap.size, 1, none⟩) hz0).trans c1
          have c2' := (hb.cell (p := ⟨w.heap.size, 2, none⟩) hz0).trans c2
          by_cases hlt : k < n
          · obtain ⟨f, hf⟩ : ∃ f, ks[k]? = some f := ⟨ks[k]'(by rw [HN.out]; exact hlt), List.getElem?_eq_getElem _⟩
            have i1 : (k : Int) < (n : Int) := by omega
            obtain ⟨b, o, rfl, hbl, hr⟩ := HK.out.1.r (by rintro rfl; simp at hf)
            obtain ⟨Af, capf, d0, d1, d2, hN⟩ := row_get' hr hf
            have d0' := (hb.cell (p := ⟨b, o + k * 3, none⟩) hbl).trans d0
            have d1' := (hb.cell (p := ⟨b, o + k * 3 + 1, none⟩) hbl).trans d1
            have d2' := (hb.cell (p := ⟨b, o + k * 3 + 2, none⟩) hbl).trans d2
            have hs := good_take hf
            rw [hyes, Bool.true_and] at hs
            have hC := HI.out f _ wr ((hN.below hb).mono hb.size)
            obtain ⟨q, hq⟩ : ∃ q, goodE f = q := ⟨_, rfl⟩
            rw [hq] at hC hs
            replace hC := Lib.hid hC
            have HH := Lib.hid (And.intro hs (And.intro hb hlt))
            clear hs hb hN hr hbl hq hyes d0 d1 d2
            go_wp2_with fail
            refine hC.out.mono ?_
            rintro r w2 ⟨rfl, hb2⟩
            have HB2 := Lib.hid (HH.out.2.1.trans (hb2.mono HH.out.2.1.size))
            clear hb2
            cases q
            · obtain rfl : R = false := by rw [hR2.out, good_stop HH.out.1, Bool.and_false]
              go_wp2
              go_ret
              exact ⟨rfl, HK.out.2.trans (HB2.out.mono HK.out.2.size)⟩
            · go_wp2
              go_roundw
              case rel => exact ⟨k + 1, by go_num, by omega, HH.out.1, HB2.out⟩
              case measure => simp [RowKit.intOf]; omega
          · have hkn : k = n := by omega
            subst hkn
            have i1 : ¬ (k : Int) < (k : Int) := by omega
            have ht : ks.take k = ks := by rw [← HN.out, List.take_length]
            rw [ht] at hyes
            have HY := Lib.hid (And.intro hyes (HK.out.2.trans (hb.mono HK.out.2.size)))
            clear hb ht hyes
            by_cases hq : cc = 0
            · subst hq
              obtain rfl : R = true := by rw [hR2.out, HY.out.1]; rfl
              go_wp2
              go_ret
              exact ⟨rfl, HY.out.2⟩
            · have qc : (cc == 0) = false := by simpa using hq
              obtain rfl : R = false := by rw [hR2.out, decide_eq_false hq]; rfl
              clear hq
              go_wp2
              go_ret
              exact ⟨rfl, HY.out.2⟩
      · obtain rfl : R = false := by rw [hR, decide_eq_false hn1]; simp
        clear hR
        have n1 : ((n : Int) < 2) := by omega
        go_enter Try.func14, Try.ntmps14
        go_wp2_with fail
        rw [HW.out]
        refine HC.out.mono ?_
        rintro r w1 ⟨rfl, hb1⟩
        have c0' := (hb1.cell (p := ⟨w.heap.size, 0, none⟩) hz0).trans c0
        have c1' := (hb1.cell (p := ⟨w.heap.size, 1, none⟩) hz0).trans c1
        have c2' := (hb1.cell (p := ⟨w.heap.size, 2, none⟩) hz0).trans c2
        have HZ := Lib.hid (HK.out.2.trans (hb1.mono HK.out.2.size))
        clear hb1
        go_wp2
        go_ret
        exact ⟨rfl, HZ.out⟩
    · have hR : R = (decide (cc = 0) && decide (n = 1) && goodE.all ks) := HS.out
      by_cases hn1 : n = 1
      · have hR2 := Lib.hid (show R = (decide (cc = 0) && goodE.all ks) by rw [hR, decide_eq_true hn1, Bool.and_true])
        clear hR
        subst hn1
        go_enter Try.func14, Try.ntmps14
        go_wp2_with fail
        rw [HW.out]
        refine HC.out.mono ?_
        rintro r w1 ⟨rfl, hb1⟩
        have c0' := (hb1.cell (p := ⟨w.heap.size, 0, none⟩) hz0).trans c0
        have c1' := (hb1.cell (p := ⟨w.heap.size, 1, none⟩) hz0).trans c1
        have c2' := (hb1.cell (p := ⟨w.heap.size, 2, none⟩) hz0).trans c2
        have HZ := Lib.hid (HK.out.2.trans (hb1.mono HK.out.2.size))
        have HB1 := Lib.hid hb1
        clear hb1
        go_wp2_with fail
        go_loopw [6] (fun i wr => ∃ k : Nat, i = .int .i64 k ∧ k ≤ 1 ∧ goodE.all (ks.take k) = true ∧ Below W0.heap.size W0 wr) (fun i _ => 1 - (RowKit.intOf i).toNat)
        case atStart => exact ⟨0, rfl, Nat.zero_le _, by rw [List.take_zero]; rfl, HB1.out⟩
        case round =>
          obtain ⟨k, rfl, hkn, hyes, hb⟩ := hrel
          have c1' := (hb.cell (p := ⟨w.heap.size, 1, none⟩) hz0).trans c1
          have c2' := (hb.cell (p := ⟨w.heap.size, 2, none⟩) hz0).trans c2
          by_cases hlt : k < 1
          · obtain ⟨f, hf⟩ : ∃ f, ks[k]? = some f := ⟨ks[k]'(by rw [HN.out]; exact hlt), List.getElem?_eq_getElem _⟩
            have i1 : (k : Int) < (1 : Int) := by omega
            obtain ⟨b, o, rfl, hbl, hr⟩ := HK.out.1.r (by rintro rfl; simp at hf)
            obtain ⟨Af, capf, d0, d1, d2, hN⟩ := row_get' hr hf
            have d0' := (hb.cell (p := ⟨b, o + k * 3, none⟩) hbl).trans d0
            have d1' := (hb.cell (p := ⟨b, o + k * 3 + 1, none⟩) hbl).trans d1
            have d2' := (hb.cell (p := ⟨b, o + k * 3 + 2, none⟩) hbl).trans d2
            have hs := good_take hf
            rw [hyes, Bool.true_and] at hs
            have hC := HI.out f _ wr ((hN.below hb).mono hb.size)
            obtain ⟨q, hq⟩ : ∃ q, goodE f = q := ⟨_, rfl⟩
            rw [hq] at hC hs
            replace hC := Lib.hid hC
            have HH := Lib.hid (And.intro hs (And.intro hb hlt))
            clear hs hb hN hr hbl hq hyes d0 d1 d2
            go_wp2_with fail
            refine hC.out.mono ?_
            rintro r w2 ⟨rfl, hb2⟩
            have HB2 := Lib.hid (HH.out.2.1.trans (hb2.mono HH.out.2.1.size))
            clear hb2
            cases q
            · obtain rfl : R = false := by rw [hR2.out, good_stop HH.out.1, Bool.and_false]
              go_wp2
              go_ret
              exact ⟨rfl, HK.out.2.trans (HB2.out.mono HK.out.2.size)⟩
            · go_wp2
              go_roundw
              case rel => exact ⟨k + 1, by go_num, by omega, HH.out.1, HB2.out⟩
              case measure => simp [RowKit.intOf]; omega
          · have hkn : k = 1 := by omega
            subst hkn
            have ht : ks.take 1 = ks := List.take_of_length_le (by rw [HN.out]; omega)
            rw [ht] at hyes
            have HY := Lib.hid (And.intro hyes (HK.out.2.trans (hb.mono HK.out.2.size)))
            clear hb ht hyes
            by_cases hq : cc = 0
            · subst hq
              obtain rfl : R = true := by rw [hR2.out, HY.out.1]; rfl
              go_wp2
              go_ret
              exact ⟨rfl, HY.out.2⟩
            · have qc : (cc == 0) = false := by simpa using hq
              obtain rfl : R = false := by rw [hR2.out, decide_eq_false hq]; rfl
              clear hq
              go_wp2
              go_ret
              exact ⟨rfl, HY.out.2⟩
      · obtain rfl : R = false := by rw [hR, decide_eq_false hn1]; simp
        clear hR
        have n1 : ((n : Int) == 1) = false := by simp; omega
        have n1b : ((n : Int) != 1) = true := by simp; omega
        go_enter Try.func14, Try.ntmps14
        go_wp2_with fail
        rw [HW.out]
        refine HC.out.mono ?_
        rintro r w1 ⟨rfl, hb1⟩
        have c0' := (hb1.cell (p := ⟨w.heap.size, 0, none⟩) hz0).trans c0
        have c1' := (hb1.cell (p := ⟨w.heap.size, 1, none⟩) hz0).trans c1
        have c2' := (hb1.cell (p := ⟨w.heap.size, 2, none⟩) hz0).trans c2
        have HZ := Lib.hid (HK.out.2.trans (hb1.mono HK.out.2.size))
        clear hb1
        go_wp2
        go_ret
        exact ⟨rfl, HZ.out⟩
    · have hR : R = (decide (cc = 0) && decide (n = 1) && goodE.all ks) := HS.out
      by_cases hn1 : n = 1
      · have hR2 := Lib.hid (show R = (decide (cc = 0) && goodE.all ks) by rw [hR, decide_eq_true hn1, Bool.and_true])
        clear hR
        subst hn1
        go_enter Try.func14, Try.ntmps14
        go_wp2_with fail
        rw [HW.out]
        refine HC.out.mono ?_
        rintro r w1 ⟨rfl, hb1⟩
        have c0' := (hb1.cell (p := ⟨w.heap.size, 0, none⟩) hz0).trans c0
        have c1' := (hb1.cell (p := ⟨w.heap.size, 1, none⟩) hz0).trans c1
        have c2' := (hb1.cell (p := ⟨w.heap.size, 2, none⟩) hz0).trans c2
        have HZ := Lib.hid (HK.out.2.trans (hb1.mono HK.out.2.size))
        have HB1 := Lib.hid hb1
        clear hb1
        go_wp2_with fail
        go_loopw [6] (fun i wr => ∃ k : Nat, i = .int .i64 k ∧ k ≤ 1 ∧ goodE.all (ks.take k) = true ∧ Below W0.heap.size W0 wr) (fun i _ => 1 - (RowKit.intOf i).toNat)
        case atStart => exact ⟨0, rfl, Nat.zero_le _, by rw [List.take_zero]; rfl, HB1.out⟩
        case round =>
          obtain ⟨k, rfl, hkn, hyes, hb⟩ := hrel
          have c1' := (hb.cell (p := ⟨w.heap.size, 1, none⟩) hz0).trans c1
          have c2' := (hb.cell (p := ⟨w.heap.size, 2, none⟩) hz0).trans c2
          by_cases hlt : k < 1
          · obtain ⟨f, hf⟩ : ∃ f, ks[k]? = some f := ⟨ks[k]'(by rw [HN.out]; exact hlt), List.getElem?_eq_getElem _⟩
            have i1 : (k : Int) < (1 : Int) := by omega
            obtain ⟨b, o, rfl, hbl, hr⟩ := HK.out.1.r (by rintro rfl; simp at hf)
            obtain ⟨Af, capf, d0, d1, d2, hN⟩ := row_get' hr hf
            have d0' := (hb.cell (p := ⟨b, o + k * 3, none⟩) hbl).trans d0
            have d1' := (hb.cell (p := ⟨b, o + k * 3 + 1, none⟩) hbl).trans d1
            have d2' := (hb.cell (p := ⟨b, o + k * 3 + 2, none⟩) hbl).trans d2
            have hs := good_take hf
            rw [hyes, Bool.true_and] at hs
            have hC := HI.out f _ wr ((hN.below hb).mono hb.size)
            obtain ⟨q, hq⟩ : ∃ q, goodE f = q := ⟨_, rfl⟩
            rw [hq] at hC hs
            replace hC := Lib.hid hC
            have HH := Lib.hid (And.intro hs (And.intro hb hlt))
            clear hs hb hN hr hbl hq hyes d0 d1 d2
            go_wp2_with fail
            refine hC.out.mono ?_
            rintro r w2 ⟨rfl, hb2⟩
            have HB2 := Lib.hid (HH.out.2.1.trans (hb2.mono HH.out.2.1.size))
            clear hb2
            cases q
            · obtain rfl : R = false := by rw [hR2.out, good_stop HH.out.1, Bool.and_false]
              go_wp2
              go_ret
              exact ⟨rfl, HK.out.2.trans (HB2.out.mono HK.out.2.size)⟩
            · go_wp2
              go_roundw
              case rel => exact ⟨k + 1, by go_num, by omega, HH.out.1, HB2.out⟩
              case measure => simp [RowKit.intOf]; omega
          · have hkn : k = 1 := by omega
            subst hkn
            have ht : ks.take 1 = ks := List.take_of_length_le (by rw [HN.out]; omega)
            rw [ht] at hyes
            have HY := Lib.hid (And.intro hyes (HK.out.2.trans (hb.mono HK.out.2.size)))
            clear hb ht hyes
            by_cases hq : cc = 0
            · subst hq
              obtain rfl : R = true := by rw [hR2.out, HY.out.1]; rfl
              go_wp2
              go_ret
              exact ⟨rfl, HY.out.2⟩
            · have qc : (cc == 0) = false := by simpa using hq
              obtain rfl : R = false := by rw [hR2.out, decide_eq_false hq]; rfl
              clear hq
              go_wp2
              go_ret
              exact ⟨rfl, HY.out.2⟩
      · obtain rfl : R = false := by rw [hR, decide_eq_false hn1]; simp
        clear hR
        have n1 : ((n : Int) == 1) = false := by simp; omega
        have n1b : ((n : Int) != 1) = true := by simp; omega
        go_enter Try.func14, Try.ntmps14
        go_wp2_with fail
        rw [HW.out]
        refine HC.out.mono ?_
        rintro r w1 ⟨rfl, hb1⟩
        have c0' := (hb1.cell (p := ⟨w.heap.size, 0, none⟩) hz0).trans c0
        have c1' := (hb1.cell (p := ⟨w.heap.size, 1, none⟩) hz0).trans c1
        have c2' := (hb1.cell (p := ⟨w.heap.size, 2, none⟩) hz0).trans c2
        have HZ := Lib.hid (HK.out.2.trans (hb1.mono HK.out.2.size))
        clear hb1
        go_wp2
        go_ret
        exact ⟨rfl, HZ.out⟩
    · have hR : R = (decide (cc = 0) && decide (n = 1) && goodE.all ks) := HS.out
      by_cases hn1 : n = 1
      · have hR2 := Lib.hid (show R = (decide (cc = 0) && goodE.all ks) by rw [hR, decide_eq_true hn1, Bool.and_true])
        clear hR
        subst hn1
        go_enter Try.func14, Try.ntmps14
        go_wp2_with fail
        rw [HW.out]
        refine HC.out.mono ?_
        rintro r w1 ⟨rfl, hb1⟩
        have c0' := (hb1.cell (p := ⟨w.heap.size, 0, none⟩) hz0).trans c0
        have c1' := (hb1.cell (p := ⟨w.heap.size, 1, none⟩) hz0).trans c1
        have c2' := (hb1.cell (p := ⟨w.heap.size, 2, none⟩) hz0).trans c2
        have HZ := Lib.hid (HK.out.2.trans (hb1.mono HK.out.2.size))
        have HB1 := Lib.hid hb1
        clear hb1
        go_wp2_with fail
        go_loopw [6] (fun i wr => ∃ k : Nat, i = .int .i64 k ∧ k ≤ 1 ∧ goodE.all (ks.take k) = true ∧ Below W0.heap.size W0 wr) (fun i _ => 1 - (RowKit.intOf i).toNat)
        case atStart => exact ⟨0, rfl, Nat.zero_le _, by rw [List.take_zero]; rfl, HB1.out⟩
        case round =>
          obtain ⟨k, rfl, hkn, hyes, hb⟩ := hrel
          have c1' := (hb.cell (p := ⟨w.heap.size, 1, none⟩) hz0).trans c1
          have c2' := (hb.cell (p := ⟨w.heap.size, 2, none⟩) hz0).trans c2
          by_cases hlt : k < 1
          · obtain ⟨f, hf⟩ : ∃ f, ks[k]? = some f := ⟨ks[k]'(by rw [HN.out]; exact hlt), List.getElem?_eq_getElem _⟩
            have i1 : (k : Int) < (1 : Int) := by omega
            obtain ⟨b, o, rfl, hbl, hr⟩ := HK.out.1.r (by rintro rfl; simp at hf)
            obtain ⟨Af, capf, d0, d1, d2, hN⟩ := row_get' hr hf
            have d0' := (hb.cell (p := ⟨b, o + k * 3, none⟩) hbl).trans d0
            have d1' := (hb.cell (p := ⟨b, o + k * 3 + 1, none⟩) hbl).trans d1
            have d2' := (hb.cell (p := ⟨b, o + k * 3 + 2, none⟩) hbl).trans d2
            have hs := good_take hf
            rw [hyes, Bool.true_and] at hs
            have hC := HI.out f _ wr ((hN.below hb).mono hb.size)
            obtain ⟨q, hq⟩ : ∃ q, goodE f = q := ⟨_, rfl⟩
            rw [hq] at hC hs
            replace hC := Lib.hid hC
            have HH := Lib.hid (And.intro hs (And.intro hb hlt))
            clear hs hb hN hr hbl hq hyes d0 d1 d2
            go_wp2_with fail
            refine hC.out.mono ?_
            rintro r w2 ⟨rfl, hb2⟩
            have HB2 := Lib.hid (HH.out.2.1.trans (hb2.mono HH.out.2.1.size))
            clear hb2
            cases q
            · obtain rfl : R = false := by rw [hR2.out, good_stop HH.out.1, Bool.and_false]
              go_wp2
              go_ret
              exact ⟨rfl, HK.out.2.trans (HB2.out.mono HK.out.2.size)⟩
            · go_wp2
              go_roundw
              case rel => exact ⟨k + 1, by go_num, by omega, HH.out.1, HB2.out⟩
              case measure => simp [RowKit.intOf]; omega
          · have hkn : k = 1 := by omega
            subst hkn
            have ht : ks.take 1 = ks := List.take_of_length_le (by rw [HN.out]; omega)
            rw [ht] at hyes
            have HY := Lib.hid (And.intro hyes (HK.out.2.trans (hb.mono HK.out.2.size)))
            clear hb ht hyes
            by_cases hq : cc = 0
            · subst hq
              obtain rfl : R = true := by rw [hR2.out, HY.out.1]; rfl
              go_wp2
              go_ret
              exact ⟨rfl, HY.out.2⟩
            · have qc : (cc == 0) = false := by simpa using hq
              obtain rfl : R = false := by rw [hR2.out, decide_eq_false hq]; rfl
              clear hq
              go_wp2
              go_ret
              exact ⟨rfl, HY.out.2⟩
      · obtain rfl : R = false := by rw [hR, decide_eq_false hn1]; simp
        clear hR
        have n1 : ((n : Int) == 1) = false := by simp; omega
        have n1b : ((n : Int) != 1) = true := by simp; omega
        go_enter Try.func14, Try.ntmps14
        go_wp2_with fail
        rw [HW.out]
        refine HC.out.mono ?_
        rintro r w1 ⟨rfl, hb1⟩
        have c0' := (hb1.cell (p := ⟨w.heap.size, 0, none⟩) hz0).trans c0
        have c1' := (hb1.cell (p := ⟨w.heap.size, 1, none⟩) hz0).trans c1
        have c2' := (hb1.cell (p := ⟨w.heap.size, 2, none⟩) hz0).trans c2
        have HZ := Lib.hid (HK.out.2.trans (hb1.mono HK.out.2.size))
        clear hb1
        go_wp2
        go_ret
        exact ⟨rfl, HZ.out⟩
end Go.Proofs.Ytegkogadceodlaa
