/-
  Contracts: the document's Right, of an expression.
  Contracts: virgulelaw08.To, Over, Great, Right.
  Contracts: Exprs.Over, Great, Right.
-/
import Derived.Test.YteamonmneoakpaaDoorXqm
import Derived.Test.YteamonmneoakpaaDoorXql
import Derived.Test.YteamonmneoakpaaDoorXqi
namespace Go.Proofs.YteamonmneoakpaaDoor
open Go.RowKit Go.Shelf Go.Lib

set_option maxHeartbeats 16000000 in
theorem refRight_any (e : E) (v : Value) (w : World) (h : Nd w w.heap.size e v) :
    Calls Tryd.prog 41 #[v, .bool false] w fun r w' => r = .returned (.bool (rightE e)) ∧ Below w.heap.size w w' := by
    obtain ⟨_, _, A, cap, rfl, hk⟩ := Nd_iff.1 h
    obtain ⟨W0, hW0⟩ : ∃ W0, w.alloc (.cells #[.int .i64 e.k, .int .i64 e.c, .slice A e.ks.length cap] 48) = W0 := ⟨_, rfl⟩
    have hb0 : Below w.heap.size w W0 := by rw [← hW0]; exact below_new _ _
    have hz0 : w.heap.size < W0.heap.size := by rw [← hW0]; simp
    have c0 : W0.cell? ⟨w.heap.size, 0, none⟩ = some (.int .i64 e.k) := by rw [← hW0]; simp
    have c1 : W0.cell? ⟨w.heap.size, 1, none⟩ = some (.int .i64 e.c) := by rw [← hW0]; simp
    have c2 : W0.cell? ⟨w.heap.size, 2, none⟩ = some (.slice A e.ks.length cap) := by rw [← hW0]; simp
    have hk0 := hk.on hb0
    have hln : e.ks.length ≤ 9223372036854775807 := by have := hk.l; have := hk.m; unfold maxLen at this; omega
    have hC := size_any _ e (Nat.le_refl _) _ 2000 W0 (h.on hb0) (by omega)
    have hbig : 2000 < szE e → rightE e = false := fun hs => by
      rcases hr : rightE e with _ | _
      · rfl
      · have := right_size hr; omega
    have hsm : ¬ 2000 < szE e → rightE e = if e.k = 9 then shapedK e.k e.c e.ks.length else (decide (e.k ≠ 9) && shapedK e.k e.c e.ks.length && goodE.all e.ks) := fun hs => by
      by_cases h9 : e.k = 9
      · rw [if_pos h9]; unfold rightE; rw [if_pos h9]
      · rw [if_neg h9, rightE_good h9, goodE_eq, decide_eq_true (show szE e ≤ 2000 by omega), Bool.and_true]
    have ih' : ∀ f v w, Nd w w.heap.size f v → Calls Tryd.prog 41 #[v, .bool true] w fun r w' => r = .returned (.bool (goodE f)) ∧ Below w.heap.size w w' := fun f => refRightP_any _ f (Nat.le_refl _)
    obtain ⟨R, hR⟩ : ∃ R, rightE e = R := ⟨_, rfl⟩
    rw [hR] at hbig hsm ⊢
    obtain ⟨sv, hsv⟩ : ∃ sv, min (szE e) (2000 + 1) = sv := ⟨_, rfl⟩
    rw [hsv] at hC
    have hsv1 : 2000 < szE e → 2000 < sv := by omega
    have hsv2 : ¬ 2000 < szE e → ¬ 2000 < sv := by omega
    generalize szE e = S at *
    generalize e.k = kk at *
    generalize e.c = cc at *
    generalize e.ks = ks at *
    obtain ⟨n, hn⟩ : ∃ n, ks.length = n := ⟨_, rfl⟩
    rw [hn] at hW0 c2 hln hsm hC ⊢
    have HW := Lib.hid hW0
    have HK := Lib.hid (And.intro hk0 hb0)
    have HI := Lib.hid ih'
    have HN := Lib.hid hn
    have HC := Lib.hid hC
    clear hW0 hk hk0 hb0 ih' hn h hR hC hsv
    by_cases big : 2000 < S
    · obtain rfl : R = false := hbig big
      have i0 : (2000 : Int) < (sv : Int) := by have := hsv1 big; omega
      clear hbig hsm hsv1 hsv2 big
      go_enter Tryd.func41, Tryd.ntmps41
      go_wp2_with fail
      rw [HW.out]
      refine HC.out.mono ?_
      rintro r w1 ⟨rfl, hb1⟩
      have c0' := (hb1.cell (p := ⟨w.heap.size, 0, none⟩) hz0).trans c0
      have c1' := (hb1.cell (p := ⟨w.heap.size, 1, none⟩) hz0).trans c1
      have c2' := (hb1.cell (p := ⟨w.heap.size, 2, none⟩) hz0).trans c2
      have HZ := Lib.hid (HK.out.2.trans (hb1.mono HK.out.2.size))
      clear hb1
      go_wp2
      go_ret
      exact ⟨rfl, HZ.out⟩
    have HS := Lib.hid (hsm big)
    have i0 : decide ((2000 : Int) < (sv : Int)) = false := by have := hsv2 big; simp; omega
    clear hbig hsm hsv1 hsv2 big
    by_cases k0 : kk < 0
    · obtain rfl : R = false := by rw [HS.out, if_neg (by omega)]; unfold shapedK; rw [if_neg (by omega), if_neg (by omega), if_neg (by omega), if_neg (by omega)]; simp
      go_enter Tryd.func41, Tryd.ntmps41
      go_wp2_with fail
      rw [HW.out]
      refine HC.out.mono ?_
      rintro r w1 ⟨rfl, hb1⟩
      have c0' := (hb1.cell (p := ⟨w.heap.size, 0, none⟩) hz0).trans c0
      have c1' := (hb1.cell (p := ⟨w.heap.size, 1, none⟩) hz0).trans c1
      have c2' := (hb1.cell (p := ⟨w.heap.size, 2, none⟩) hz0).trans c2
      have HZ := Lib.hid (HK.out.2.trans (hb1.mono HK.out.2.size))
      clear hb1
      go_wp2
      go_ret
      exact ⟨rfl, HZ.out⟩
    have q0 : decide (kk < 0) = false := by simp; omega
    by_cases k1 : 9 < kk
    · obtain rfl : R = false := by rw [HS.out, if_neg (by omega)]; unfold shapedK; rw [if_neg (by omega), if_neg (by omega), if_neg (by omega), if_neg (by omega)]; simp
      clear k0
      go_enter Tryd.func41, Tryd.ntmps41
      go_wp2_with fail
      rw [HW.out]
      refine HC.out.mono ?_
      rintro r w1 ⟨rfl, hb1⟩
      have c0' := (hb1.cell (p := ⟨w.heap.size, 0, none⟩) hz0).trans c0
      have c1' := (hb1.cell (p := ⟨w.heap.size, 1, none⟩) hz0).trans c1
      have c2' := (hb1.cell (p := ⟨w.heap.size, 2, none⟩) hz0).trans c2
      have HZ := Lib.hid (HK.out.2.trans (hb1.mono HK.out.2.size))
      clear hb1
      go_wp2
      go_ret
      exact ⟨rfl, HZ.out⟩
    have q1 : decide (9 < kk) = false := by simp; omega
    by_cases k9 : kk = 9
    · subst k9
      clear k0 k1
      have hR : R = (decide (cc = 0) && decide (n = 0)) := HS.out
      by_cases n0 : n = 0
      · have hk0 : ks = [] := List.length_eq_zero_iff.1 (HN.out.trans n0)
        have e0 : goodE.all ([] : List E) = true := rfl
        subst n0
        by_cases h1 : cc = 0
        · subst h1
          obtain rfl : R = true := by rw [hR]; rfl
          clear hR hk0 e0
          go_enter Tryd.func41, Tryd.ntmps41
          go_wp2_with fail
          rw [HW.out]
          refine HC.out.mono ?_
          rintro r w1 ⟨rfl, hb1⟩
          have c0' := (hb1.cell (p := ⟨w.heap.size, 0, none⟩) hz0).trans c0
          have c1' := (hb1.cell (p := ⟨w.heap.size, 1, none⟩) hz0).trans c1
          have c2' := (hb1.cell (p := ⟨w.heap.size, 2, none⟩) hz0).trans c2
          have HZ := Lib.hid (HK.out.2.trans (hb1.mono HK.out.2.size))
          clear hb1
          go_wp2
          go_ret
          exact ⟨rfl, HZ.out⟩
        · have h1' : (cc == 0) = false := by simpa using h1
          obtain rfl : R = false := by rw [hR, decide_eq_false h1]; rfl
          clear hR hk0 e0 h1
          go_enter Tryd.func41, Tryd.ntmps41
          go_wp2_with fail
          rw [HW.out]
          refine HC.out.mono ?_
          rintro r w1 ⟨rfl, hb1⟩
          have c0' := (hb1.cell (p := ⟨w.heap.size, 0, none⟩) hz0).trans c0
          have c1' := (hb1.cell (p := ⟨w.heap.size, 1, none⟩) hz0).trans c1
          have c2' := (hb1.cell (p := ⟨w.heap.size, 2, none⟩) hz0).trans c2
          have HZ := Lib.hid (HK.out.2.trans (hb1.mono HK.out.2.size))
          clear hb1
          go_wp2
          go_ret
          exact ⟨rfl, HZ.out⟩
      · have n1 : ((n : Int) == 0) = false := by simpa using n0
        obtain rfl : R = false := by rw [hR, decide_eq_false n0]; simp
        clear hR n0
        go_enter Tryd.func41, Tryd.ntmps41
        go_wp2_with fail
        rw [HW.out]
        refine HC.out.mono ?_
        rintro r w1 ⟨rfl, hb1⟩
        have c0' := (hb1.cell (p := ⟨w.heap.size, 0, none⟩) hz0).trans c0
        have c1' := (hb1.cell (p := ⟨w.heap.size, 1, none⟩) hz0).trans c1
        have c2' := (hb1.cell (p := ⟨w.heap.size, 2, none⟩) hz0).trans c2
        have HZ := Lib.hid (HK.out.2.trans (hb1.mono HK.out.2.size))
        clear hb1
        go_wp2
        go_ret
        exact ⟨rfl, HZ.out⟩
    have q9 : (kk == 9) = false := by simpa using k9
    have hkk : kk = 0 ∨ kk = 1 ∨ kk = 2 ∨ kk = 3 ∨ kk = 4 ∨ kk = 5 ∨ kk = 6 ∨ kk = 7 ∨ kk = 8 := by omega
    clear k0 k1 k9
    rcases hkk with rfl | rfl | rfl | rfl | rfl | rfl | rfl | rfl | rfl
    · have hR : R = (isC cc && decide (n = 0) && goodE.all ks) := HS.out
      rw [isC_iff] at hR
      by_cases n0 : n = 0
      · have hk0 : ks = [] := List.length_eq_zero_iff.1 (HN.out.trans n0)
        have e0 : goodE.all ([] : List E) = true := rfl
        subst n0
        by_cases h1 : 0 ≤ cc
        · by_cases h2 : cc ≤ 35
          · obtain rfl : R = true := by rw [hR, hk0, e0, decide_eq_true h1, decide_eq_true h2]; rfl
            clear hR hk0 e0
            go_enter Tryd.func41, Tryd.ntmps41
            go_wp2_with fail
            rw [HW.out]
            refine HC.out.mono ?_
            rintro r w1 ⟨rfl, hb1⟩
            have c0' := (hb1.cell (p := ⟨w.heap.size, 0, none⟩) hz0).trans c0
            have c1' := (hb1.cell (p := ⟨w.heap.size, 1, none⟩) hz0).trans c1
            have c2' := (hb1.cell (p := ⟨w.heap.size, 2, none⟩) hz0).trans c2
            have HZ := Lib.hid (HK.out.2.trans (hb1.mono HK.out.2.size))
            clear hb1
            go_wp2
            go_ret
            exact ⟨rfl, HZ.out⟩
          · have h2' : decide (cc ≤ 35) = false := by simp; omega
            obtain rfl : R = false := by rw [hR, h2', Bool.and_false]; rfl
            clear hR hk0 e0 h2
            go_enter Tryd.func41, Tryd.ntmps41
            go_wp2_with fail
            rw [HW.out]
            refine HC.out.mono ?_
            rintro r w1 ⟨rfl, hb1⟩
            have c0' := (hb1.cell (p := ⟨w.heap.size, 0, none⟩) hz0).trans c0
            have c1' := (hb1.cell (p := ⟨w.heap.size, 1, none⟩) hz0).trans c1
            have c2' := (hb1.cell (p := ⟨w.heap.size, 2, none⟩) hz0).trans c2
            have HZ := Lib.hid (HK.out.2.trans (hb1.mono HK.out.2.size))
            clear hb1
            go_wp2
            go_ret
            exact ⟨rfl, HZ.out⟩
        · have h1' : decide (0 ≤ cc) = false := by simp; omega
          obtain rfl : R = false := by rw [hR, h1']; rfl
          clear hR hk0 e0 h1
          go_enter Tryd.func41, Tryd.ntmps41
          go_wp2_with fail
          rw [HW.out]
          refine HC.out.mono ?_
          rintro r w1 ⟨rfl, hb1⟩
          have c0' := (hb1.cell (p := ⟨w.heap.size, 0, none⟩) hz0).trans c0
          have c1' := (hb1.cell (p := ⟨w.heap.size, 1, none⟩) hz0).trans c1
          have c2' := (hb1.cell (p := ⟨w.heap.size, 2, none⟩) hz0).trans c2
          have HZ := Lib.hid (HK.out.2.trans (hb1.mono HK.out.2.size))
          clear hb1
          go_wp2
          go_ret
          exact ⟨rfl, HZ.out⟩
      · have n1 : ((n : Int) == 0) = false := by simpa using n0
        obtain rfl : R = false := by rw [hR, decide_eq_false n0]; simp
        clear hR n0
        go_enter Tryd.func41, Tryd.ntmps41
        go_wp2_with fail
        rw [HW.out]
        refine HC.out.mono ?_
        rintro r w1 ⟨rfl, hb1⟩
        have c0' := (hb1.cell (p := ⟨w.heap.size, 0, none⟩) hz0).trans c0
        have c1' := (hb1.cell (p := ⟨w.heap.size, 1, none⟩) hz0).trans c1
        have c2' := (hb1.cell (p := ⟨w.heap.size, 2, none⟩) hz0).trans c2
        have HZ := Lib.hid (HK.out.2.trans (hb1.mono HK.out.2.size))
        clear hb1
        go_wp2
        go_ret
        exact ⟨rfl, HZ.out⟩
    · have hR : R = (decide (cc = 0) && decide (n = 0) && goodE.all ks) := HS.out
      by_cases n0 : n = 0
      · have hk0 : ks = [] := List.length_eq_zero_iff.1 (HN.out.trans n0)
        have e0 : goodE.all ([] : List E) = true := rfl
        subst n0
        by_cases h1 : cc = 0
        · subst h1
          obtain rfl : R = true := by rw [hR, hk0, e0]; rfl
          clear hR hk0 e0
          go_enter Tryd.func41, Tryd.ntmps41
          go_wp2_with fail
          rw [HW.out]
          refine HC.out.mono ?_
          rintro r w1 ⟨rfl, hb1⟩
          have c0' := (hb1.cell (p := ⟨w.heap.size, 0, none⟩) hz0).trans c0
          have c1' := (hb1.cell (p := ⟨w.heap.size, 1, none⟩) hz0).trans c1
          have c2' := (hb1.cell (p := ⟨w.heap.size, 2, none⟩) hz0).trans c2
          have HZ := Lib.hid (HK.out.2.trans (hb1.mono HK.out.2.size))
          clear hb1
          go_wp2
          go_ret
          exact ⟨rfl, HZ.out⟩
        · have h1' : (cc == 0) = false := by simpa using h1
          obtain rfl : R = false := by rw [hR, decide_eq_false h1]; rfl
          clear hR hk0 e0 h1
          go_enter Tryd.func41, Tryd.ntmps41
          go_wp2_with fail
          rw [HW.out]
          refine HC.out.mono ?_
          rintro r w1 ⟨rfl, hb1⟩
          have c0' := (hb1.cell (p := ⟨w.heap.size, 0, none⟩) hz0).trans c0
          have c1' := (hb1.cell (p := ⟨w.heap.size, 1, none⟩) hz0).trans c1
          have c2' := (hb1.cell (p := ⟨w.heap.size, 2, none⟩) hz0).trans c2
          have HZ := Lib.hid (HK.out.2.trans (hb1.mono HK.out.2.size))
          clear hb1
          go_wp2
          go_ret
          exact ⟨rfl, HZ.out⟩
      · have n1 : ((n : Int) == 0) = false := by simpa using n0
        obtain rfl : R = false := by rw [hR, decide_eq_false n0]; simp
        clear hR n0
        go_enter Tryd.func41, Tryd.ntmps41
        go_wp2_with fail
        rw [HW.out]
        refine HC.out.mono ?_
        rintro r w1 ⟨rfl, hb1⟩
        have c0' := (hb1.cell (p := ⟨w.heap.size, 0, none⟩) hz0).trans c0
        have c1' := (hb1.cell (p := ⟨w.heap.size, 1, none⟩) hz0).trans c1
        have c2' := (hb1.cell (p := ⟨w.heap.size, 2, none⟩) hz0).trans c2
        have HZ := Lib.hid (HK.out.2.trans (hb1.mono HK.out.2.size))
        clear hb1
        go_wp2
        go_ret
        exact ⟨rfl, HZ.out⟩
    · have hR : R = (isC cc && decide (n = 0) && goodE.all ks) := HS.out
      rw [isC_iff] at hR
      by_cases n0 : n = 0
      · have hk0 : ks = [] := List.length_eq_zero_iff.1 (HN.out.trans n0)
        have e0 : goodE.all ([] : List E) = true := rfl
        subst n0
        by_cases h1 : 0 ≤ cc
        · by_cases h2 : cc ≤ 35
          · obtain rfl : R = true := by rw [hR, hk0, e0, decide_eq_true h1, decide_eq_true h2]; rfl
            clear hR hk0 e0
            go_enter Tryd.func41, Tryd.ntmps41
            go_wp2_with fail
            rw [HW.out]
            refine HC.out.mono ?_
            rintro r w1 ⟨rfl, hb1⟩
            have c0' := (hb1.cell (p := ⟨w.heap.size, 0, none⟩) hz0).trans c0
            have c1' := (hb1.cell (p := ⟨w.heap.size, 1, none⟩) hz0).trans c1
            have c2' := (hb1.cell (p := ⟨w.heap.size, 2, none⟩) hz0).trans c2
            have HZ := Lib.hid (HK.out.2.trans (hb1.mono HK.out.2.size))
            clear hb1
            go_wp2
            go_ret
            exact ⟨rfl, HZ.out⟩
          · have h2' : decide (cc ≤ 35) = false := by simp; omega
            obtain rfl : R = false := by rw [hR, h2', Bool.and_false]; rfl
            clear hR hk0 e0 h2
            go_enter Tryd.func41, Tryd.ntmps41
            go_wp2_with fail
            rw [HW.out]
            refine HC.out.mono ?_
            rintro r w1 ⟨rfl, hb1⟩
            have c0' := (hb1.cell (p := ⟨w.heap.size, 0, none⟩) hz0).trans c0
            have c1' := (hb1.cell (p := ⟨w.heap.size, 1, none⟩) hz0).trans c1
            have c2' := (hb1.cell (p := ⟨w.heap.size, 2, none⟩) hz0).trans c2
            have HZ := Lib.hid (HK.out.2.trans (hb1.mono HK.out.2.size))
            clear hb1
            go_wp2
            go_ret
            exact ⟨rfl, HZ.out⟩
        · have h1' : decide (0 ≤ cc) = false := by simp; omega
          obtain rfl : R = false := by rw [hR, h1']; rfl
          clear hR hk0 e0 h1
          go_enter Tryd.func41, Tryd.ntmps41
          go_wp2_with fail
          rw [HW.out]
          refine HC.out.mono ?_
          rintro r w1 ⟨rfl, hb1⟩
          have c0' := (hb1.cell (p := ⟨w.heap.size, 0, none⟩) hz0).trans c0
          have c1' := (hb1.cell (p := ⟨w.heap.size, 1, none⟩) hz0).trans c1
          have c2' := (hb1.cell (p := ⟨w.heap.size, 2, none⟩) hz0).trans c2
          have HZ := Lib.hid (HK.out.2.trans (hb1.mono HK.out.2.size))
          clear hb1
          go_wp2
          go_ret
          exact ⟨rfl, HZ.out⟩
      · have n1 : ((n : Int) == 0) = false := by simpa using n0
        obtain rfl : R = false := by rw [hR, decide_eq_false n0]; simp
        clear hR n0
        go_enter Tryd.func41, Tryd.ntmps41
        go_wp2_with fail
        rw [HW.out]
        refine HC.out.mono ?_
        rintro r w1 ⟨rfl, hb1⟩
        have c0' := (hb1.cell (p := ⟨w.heap.size, 0, none⟩) hz0).trans c0
        have c1' := (hb1.cell (p := ⟨w.heap.size, 1, none⟩) hz0).trans c1
        have c2' := (hb1.cell (p := ⟨w.heap.size, 2, none⟩) hz0).trans c2
        have HZ := Lib.hid (HK.out.2.trans (hb1.mono HK.out.2.size))
        clear hb1
        go_wp2
        go_ret
        exact ⟨rfl, HZ.out⟩
    · have hR : R = (decide (cc = 0) && decide (n = 0) && goodE.all ks) := HS.out
      by_cases n0 : n = 0
      · have hk0 : ks = [] := List.length_eq_zero_iff.1 (HN.out.trans n0)
        have e0 : goodE.all ([] : List E) = true := rfl
        subst n0
        by_cases h1 : cc = 0
        · subst h1
          obtain rfl : R = true := by rw [hR, hk0, e0]; rfl
          clear hR hk0 e0
          go_enter Tryd.func41, Tryd.ntmps41
          go_wp2_with fail
          rw [HW.out]
          refine HC.out.mono ?_
          rintro r w1 ⟨rfl, hb1⟩
          have c0' := (hb1.cell (p := ⟨w.heap.size, 0, none⟩) hz0).trans c0
          have c1' := (hb1.cell (p := ⟨w.heap.size, 1, none⟩) hz0).trans c1
          have c2' := (hb1.cell (p := ⟨w.heap.size, 2, none⟩) hz0).trans c2
          have HZ := Lib.hid (HK.out.2.trans (hb1.mono HK.out.2.size))
          clear hb1
          go_wp2
          go_ret
          exact ⟨rfl, HZ.out⟩
        · have h1' : (cc == 0) = false := by simpa using h1
          obtain rfl : R = false := by rw [hR, decide_eq_false h1]; rfl
          clear hR hk0 e0 h1
          go_enter Tryd.func41, Tryd.ntmps41
          go_wp2_with fail
          rw [HW.out]
          refine HC.out.mono ?_
          rintro r w1 ⟨rfl, hb1⟩
          have c0' := (hb1.cell (p := ⟨w.heap.size, 0, none⟩) hz0).trans c0
          have c1' := (hb1.cell (p := ⟨w.heap.size, 1, none⟩) hz0).trans c1
          have c2' := (hb1.cell (p := ⟨w.heap.size, 2, none⟩) hz0).trans c2
          have HZ := Lib.hid (HK.out.2.trans (hb1.mono HK.out.2.size))
          clear hb1
          go_wp2
          go_ret
          exact ⟨rfl, HZ.out⟩
      · have n1 : ((n : Int) == 0) = false := by simpa using n0
        obtain rfl : R = false := by rw [hR, decide_eq_false n0]; simp
        clear hR n0
        go_enter Tryd.func41, Tryd.ntmps41
        go_wp2_with fail
        rw [HW.out]
        refine HC.out.mono ?_
        rintro r w1 ⟨rfl, hb1⟩
        have c0' := (hb1.cell (p := ⟨w.heap.size, 0, none⟩) hz0).trans c0
        have c1' := (hb1.cell (p := ⟨w.heap.size, 1, none⟩) hz0).trans c1
        have c2' := (hb1.cell (p := ⟨w.heap.size, 2, none⟩) hz0).trans c2
        have HZ := Lib.hid (HK.out.2.trans (hb1.mono HK.out.2.size))
        clear hb1
        go_wp2
        go_ret
        exact ⟨rfl, HZ.out⟩
    · have hR : R = (decide (cc = 0) && decide (2 ≤ n) && goodE.all ks) := HS.out
      by_cases hn1 : 2 ≤ n
      · have hR2 := Lib.hid (show R = (decide (cc = 0) && goodE.all ks) by rw [hR, decide_eq_true hn1, Bool.and_true])
        clear hR
        have n1 : decide ((n : Int) < 2) = false := by simp; omega
        go_enter Tryd.func41, Tryd.ntmps41
        go_wp2_with fail
        rw [HW.out]
        refine HC.out.mono ?_
        rintro r w1 ⟨rfl, hb1⟩
        have c0' := (hb1.cell (p := ⟨w.heap.size, 0, none⟩) hz0).trans c0
        have c1' := (hb1.cell (p := ⟨w.heap.size, 1, none⟩) hz0).trans c1
        have c2' := (hb1.cell (p := ⟨w.heap.size, 2, none⟩) hz0).trans c2
        have HZ := Lib.hid (HK.out.2.trans (hb1.mono HK.out.2.size))
        have HB1 := Lib.hid hb1
        clear hb1
        go_wp2_with fail
        go_loopw [6] (fun i wr => ∃ k : Nat, i = .int .i64 k ∧ k ≤ n ∧ goodE.all (ks.take k) = true ∧ Below W0.heap.size W0 wr) (fun i _ => n - (RowKit.intOf i).toNat)
        case atStart => exact ⟨0, rfl, Nat.zero_le _, by rw [List.take_zero]; rfl, HB1.out⟩
        case round =>
          obtain ⟨k, rfl, hkn, hyes, hb⟩ := hrel
          have c1' := (hb.cell (p := ⟨w.heap.size, 1, none⟩) hz0).trans c1
          have c2' := (hb.cell (p := ⟨w.heap.size, 2, none⟩) hz0).trans c2
          by_cases hlt : k < n
          · obtain ⟨f, hf⟩ : ∃ f, ks[k]? = some f := ⟨ks[k]'(by rw [HN.out]; exact hlt), List.getElem?_eq_getElem _⟩
            have i1 : (k : Int) < (n : Int) := by omega
            obtain ⟨b, o, rfl, hbl, hr⟩ := HK.out.1.r (by rintro rfl; simp at hf)
            obtain ⟨Af, capf, d0, d1, d2, hN⟩ := row_get' hr hf
            have d0' := (hb.cell (p := ⟨b, o + k * 3, none⟩) hbl).trans d0
            have d1' := (hb.cell (p := ⟨b, o + k * 3 + 1, none⟩) hbl).trans d1
            have d2' := (hb.cell (p := ⟨b, o + k * 3 + 2, none⟩) hbl).trans d2
            have hs := good_take hf
            rw [hyes, Bool.true_and] at hs
            have hC := HI.out f _ wr ((hN.below hb).mono hb.size)
            obtain ⟨q, hq⟩ : ∃ q, goodE f = q := ⟨_, rfl⟩
            rw [hq] at hC hs
            replace hC := Lib.hid hC
            have HH := Lib.hid (And.intro hs (And.intro hb hlt))
            clear hs hb hN hr hbl hq hyes d0 d1 d2
            go_wp2_with fail
            refine hC.out.mono ?_
            rintro r w2 ⟨rfl, hb2⟩
            have HB2 := Lib.hid (HH.out.2.1.trans (hb2.mono HH.out.2.1.size))
            clear hb2
            cases q
            · obtain rfl : R = false := by rw [hR2.out, good_stop HH.out.1, Bool.and_false]
              go_wp2
              go_ret
              exact ⟨rfl, HK.out.2.trans (HB2.out.mono HK.out.2.size)⟩
            · go_wp2
              go_roundw
              case rel => exact ⟨k + 1, by go_num, by omega, HH.out.1, HB2.out⟩
              case measure => simp [RowKit.intOf]; omega
          · have hkn : k = n := by omega
            subst hkn
            have i1 : ¬ (k : Int) < (k : Int) := by omega
            have ht : ks.take k = ks := by rw [← HN.out, List.take_length]
            rw [ht] at hyes
            have HY := Lib.hid (And.intro hyes (HK.out.2.trans (hb.mono HK.out.2.size)))
            clear hb ht hyes
            by_cases hq : cc = 0
            · subst hq
              obtain rfl : R = true := by rw [hR2.out, HY.out.1]; rfl
              go_wp2
              go_ret
              exact ⟨rfl, HY.out.2⟩
            · have qc : (cc == 0) = false := by simpa using hq
              obtain rfl : R = false := by rw [hR2.out, decide_eq_false hq]; rfl
              clear hq
              go_wp2
              go_ret
              exact ⟨rfl, HY.out.2⟩
      · obtain rfl : R = false := by rw [hR, decide_eq_false hn1]; simp
        clear hR
        have n1 : ((n : Int) < 2) := by omega
        go_enter Tryd.func41, Tryd.ntmps41
        go_wp2_with fail
        rw [HW.out]
        refine HC.out.mono ?_
        rintro r w1 ⟨rfl, hb1⟩
        have c0' := (hb1.cell (p := ⟨w.heap.size, 0, none⟩) hz0).trans c0
        have c1' := (hb1.cell (p := ⟨w.heap.size, 1, none⟩) hz0).trans c1
        have c2' := (hb1.cell (p := ⟨w.heap.size, 2, none⟩) hz0).trans c2
        have HZ := Lib.hid (HK.out.2.trans (hb1.mono HK.out.2.size))
        clear hb1
        go_wp2
        go_ret
        exact ⟨rfl, HZ.out⟩
    · have hR : R = (decide (cc = 0) && decide (2 ≤ n) && goodE.all ks) := HS.out
      by_cases hn1 : 2 ≤ n
      · have hR2 := Lib.hid (show R = (decide (cc = 0) && goodE.all ks) by rw [hR, decide_eq_true hn1, Bool.and_true])
        clear hR
        have n1 : decide ((n : Int) < 2) = false := by simp; omega
        go_enter Tryd.func41, Tryd.ntmps41
        go_wp2_with fail
        rw [HW.out]
        refine HC.out.mono ?_
        rintro r w1 ⟨rfl, hb1⟩
        have c0' := (hb1.cell (p := ⟨w.heap.size, 0, none⟩) hz0).trans c0
        have c1' := (hb1.cell (p := ⟨w.heap.size, 1, none⟩) hz0).trans c1
        have c2' := (hb1.cell (p := ⟨w.heap.size, 2, none⟩) hz0).trans c2
        have HZ := Lib.hid (HK.out.2.trans (hb1.mono HK.out.2.size))
        have HB1 := Lib.hid hb1
        clear hb1
        go_wp2_with fail
        go_loopw [6] (fun i wr => ∃ k : Nat, i = .int .i64 k ∧ k ≤ n ∧ goodE.all (ks.take k) = true ∧ Below W0.heap.size W0 wr) (fun i _ => n - (RowKit.intOf i).toNat)
        case atStart => exact ⟨0, rfl, Nat.zero_le _, by rw [List.take_zero]; rfl, HB1.out⟩
        case round =>
          obtain ⟨k, rfl, hkn, hyes, hb⟩ := hrel
          have c1' := (hb.cell (p := ⟨w.heap.size, 1, none⟩) hz0).trans c1
          have c2' := (hb.cell (p := ⟨w.heap.size, 2, none⟩) hz0).trans c2
          by_cases hlt : k < n
          · obtain ⟨f, hf⟩ : ∃ f, ks[k]? = some f := ⟨ks[k]'(by rw [HN.out]; exact hlt), List.getElem?_eq_getElem _⟩
            have i1 : (k : Int) < (n : Int) := by omega
            obtain ⟨b, o, rfl, hbl, hr⟩ := HK.out.1.r (by rintro rfl; simp at hf)
            obtain ⟨Af, capf, d0, d1, d2, hN⟩ := row_get' hr hf
            have d0' := (hb.cell (p := ⟨b, o + k * 3, none⟩) hbl).trans d0
            have d1' := (hb.cell (p := ⟨b, o + k * 3 + 1, none⟩) hbl).trans d1
            have d2' := (hb.cell (p := ⟨b, o + k * 3 + 2, none⟩) hbl).trans d2
            have hs := good_take hf
            rw [hyes, Bool.true_and] at hs
            have hC := HI.out f _ wr ((hN.below hb).mono hb.size)
            obtain ⟨q, hq⟩ : ∃ q, goodE f = q := ⟨_, rfl⟩
            rw [hq] at hC hs
            replace hC := Lib.hid hC
            have HH := Lib.hid (And.intro hs (And.intro hb hlt))
            clear hs hb hN hr hbl hq hyes d0 d1 d2
            go_wp2_with fail
            refine hC.out.mono ?_
            rintro r w2 ⟨rfl, hb2⟩
            have HB2 := Lib.hid (HH.out.2.1.trans (hb2.mono HH.out.2.1.size))
            clear hb2
            cases q
            · obtain rfl : R = false := by rw [hR2.out, good_stop HH.out.1, Bool.and_false]
              go_wp2
              go_ret
              exact ⟨rfl, HK.out.2.trans (HB2.out.mono HK.out.2.size)⟩
            · go_wp2
              go_roundw
              case rel => exact ⟨k + 1, by go_num, by omega, HH.out.1, HB2.out⟩
              case measure => simp [RowKit.intOf]; omega
          · have hkn : k = n := by omega
            subst hkn
            have i1 : ¬ (k : Int) < (k : Int) := by omega
            have ht : ks.take k = ks := by rw [← HN.out, List.take_length]
            rw [ht] at hyes
            have HY := Lib.hid (And.intro hyes (HK.out.2.trans (hb.mono HK.out.2.size)))
            clear hb ht hyes
            by_cases hq : cc = 0
            · subst hq
              obtain rfl : R = true := by rw [hR2.out, HY.out.1]; rfl
              go_wp2
              go_ret
              exact ⟨rfl, HY.out.2⟩
            · have qc : (cc == 0) = false := by simpa using hq
              obtain rfl : R = false := by rw [hR2.out, decide_eq_false hq]; rfl
              clear hq
              go_wp2
              go_ret
              exact ⟨rfl, HY.out.2⟩
      · obtain rfl : R = false := by rw [hR, decide_eq_false hn1]; simp
        clear hR
        have n1 : ((n : Int) < 2) := by omega
        go_enter Tryd.func41, Tryd.ntmps41
        go_wp2_with fail
        rw [HW.out]
        refine HC.out.mono ?_
        rintro r w1 ⟨rfl, hb1⟩
        have c0' := (hb1.cell (p := ⟨w.heap.size, 0, none⟩) hz0).trans c0
        have c1' := (hb1.cell (p := ⟨w.heap.size, 1, none⟩) hz0).trans c1
        have c2' := (hb1.cell (p := ⟨w.heap.size, 2, none⟩) hz0).trans c2
        have HZ := Lib.hid (HK.out.2.trans (hb1.mono HK.out.2.size))
        clear hb1
        go_wp2
        go_ret
        exact ⟨rfl, HZ.out⟩
    · have hR : R = (decide (cc = 0) && decide (n = 1) && goodE.all ks) := HS.out
      by_cases hn1 : n = 1
      · have hR2 := Lib.hid (show R = (decide (cc = 0) && goodE.all ks) by rw [hR, decide_eq_true hn1, Bool.and_true])
        clear hR
        subst hn1
        go_enter Tryd.func41, Tryd.ntmps41
        go_wp2_with fail
        rw [HW.out]
        refine HC.out.mono ?_
        rintro r w1 ⟨rfl, hb1⟩
        have c0' := (hb1.cell (p := ⟨w.heap.size, 0, none⟩) hz0).trans c0
        have c1' := (hb1.cell (p := ⟨w.heap.size, 1, none⟩) hz0).trans c1
        have c2' := (hb1.cell (p := ⟨w.heap.size, 2, none⟩) hz0).trans c2
        have HZ := Lib.hid (HK.out.2.trans (hb1.mono HK.out.2.size))
        have HB1 := Lib.hid hb1
        clear hb1
        go_wp2_with fail
        go_loopw [6] (fun i wr => ∃ k : Nat, i = .int .i64 k ∧ k ≤ 1 ∧ goodE.all (ks.take k) = true ∧ Below W0.heap.size W0 wr) (fun i _ => 1 - (RowKit.intOf i).toNat)
        case atStart => exact ⟨0, rfl, Nat.zero_le _, by rw [List.take_zero]; rfl, HB1.out⟩
        case round =>
          obtain ⟨k, rfl, hkn, hyes, hb⟩ := hrel
          have c1' := (hb.cell (p := ⟨w.heap.size, 1, none⟩) hz0).trans c1
          have c2' := (hb.cell (p := ⟨w.heap.size, 2, none⟩) hz0).trans c2
          by_cases hlt : k < 1
          · obtain ⟨f, hf⟩ : ∃ f, ks[k]? = some f := ⟨ks[k]'(by rw [HN.out]; exact hlt), List.getElem?_eq_getElem _⟩
            have i1 : (k : Int) < (1 : Int) := by omega
            obtain ⟨b, o, rfl, hbl, hr⟩ := HK.out.1.r (by rintro rfl; simp at hf)
            obtain ⟨Af, capf, d0, d1, d2, hN⟩ := row_get' hr hf
            have d0' := (hb.cell (p := ⟨b, o + k * 3, none⟩) hbl).trans d0
            have d1' := (hb.cell (p := ⟨b, o + k * 3 + 1, none⟩) hbl).trans d1
            have d2' := (hb.cell (p := ⟨b, o + k * 3 + 2, none⟩) hbl).trans d2
            have hs := good_take hf
            rw [hyes, Bool.true_and] at hs
            have hC := HI.out f _ wr ((hN.below hb).mono hb.size)
            obtain ⟨q, hq⟩ : ∃ q, goodE f = q := ⟨_, rfl⟩
            rw [hq] at hC hs
            replace hC := Lib.hid hC
            have HH := Lib.hid (And.intro hs (And.intro hb hlt))
            clear hs hb hN hr hbl hq hyes d0 d1 d2
            go_wp2_with fail
            refine hC.out.mono ?_
            rintro r w2 ⟨rfl, hb2⟩
            have HB2 := Lib.hid (HH.out.2.1.trans (hb2.mono HH.out.2.1.size))
            clear hb2
            cases q
            · obtain rfl : R = false := by rw [hR2.out, good_stop HH.out.1, Bool.and_false]
              go_wp2
              go_ret
              exact ⟨rfl, HK.out.2.trans (HB2.out.mono HK.out.2.size)⟩
            · go_wp2
              go_roundw
              case rel => exact ⟨k + 1, by go_num, by omega, HH.out.1, HB2.out⟩
              case measure => simp [RowKit.intOf]; omega
          · have hkn : k = 1 := by omega
            subst hkn
            have ht : ks.take 1 = ks := List.take_of_length_le (by rw [HN.out]; omega)
            rw [ht] at hyes
            have HY := Lib.hid (And.intro hyes (HK.out.2.trans (hb.mono HK.out.2.size)))
            clear hb ht hyes
            by_cases hq : cc = 0
            · subst hq
              obtain rfl : R = true := by rw [hR2.out, HY.out.1]; rfl
              go_wp2
              go_ret
              exact ⟨rfl, HY.out.2⟩
            · have qc : (cc == 0) = false := by simpa using hq
              obtain rfl : R = false := by rw [hR2.out, decide_eq_false hq]; rfl
              clear hq
              go_wp2
              go_ret
              exact ⟨rfl, HY.out.2⟩
      · obtain rfl : R = false := by rw [hR, decide_eq_false hn1]; simp
        clear hR
        have n1 : ((n : Int) == 1) = false := by simp; omega
        have n1b : ((n : Int) != 1) = true := by simp; omega
        go_enter Tryd.func41, Tryd.ntmps41
        go_wp2_with fail
        rw [HW.out]
        refine HC.out.mono ?_
        rintro r w1 ⟨rfl, hb1⟩
        have c0' := (hb1.cell (p := ⟨w.heap.size, 0, none⟩) hz0).trans c0
        have c1' := (hb1.cell (p := ⟨w.heap.size, 1, none⟩) hz0).trans c1
        have c2' := (hb1.cell (p := ⟨w.heap.size, 2, none⟩) hz0).trans c2
        have HZ := Lib.hid (HK.out.2.trans (hb1.mono HK.out.2.size))
        clear hb1
        go_wp2
        go_ret
        exact ⟨rfl, HZ.out⟩
    · have hR : R = (decide (cc = 0) && decide (n = 1) && goodE.all ks) := HS.out
      by_cases hn1 : n = 1
      · have hR2 := Lib.hid (show R = (decide (cc = 0) && goodE.all ks) by rw [hR, decide_eq_true hn1, Bool.and_true])
        clear hR
        subst hn1
        go_enter Tryd.func41, Tryd.ntmps41
        go_wp2_with fail
        rw [HW.out]
        refine HC.out.mono ?_
        rintro r w1 ⟨rfl, hb1⟩
        have c0' := (hb1.cell (p := ⟨w.heap.size, 0, none⟩) hz0).trans c0
        have c1' := (hb1.cell (p := ⟨w.heap.size, 1, none⟩) hz0).trans c1
        have c2' := (hb1.cell (p := ⟨w.heap.size, 2, none⟩) hz0).trans c2
        have HZ := Lib.hid (HK.out.2.trans (hb1.mono HK.out.2.size))
        have HB1 := Lib.hid hb1
        clear hb1
        go_wp2_with fail
        go_loopw [6] (fun i wr => ∃ k : Nat, i = .int .i64 k ∧ k ≤ 1 ∧ goodE.all (ks.take k) = true ∧ Below W0.heap.size W0 wr) (fun i _ => 1 - (RowKit.intOf i).toNat)
        case atStart => exact ⟨0, rfl, Nat.zero_le _, by rw [List.take_zero]; rfl, HB1.out⟩
        case round =>
          obtain ⟨k, rfl, hkn, hyes, hb⟩ := hrel
          have c1' := (hb.cell (p := ⟨w.heap.size, 1, none⟩) hz0).trans c1
          have c2' := (hb.cell (p := ⟨w.heap.size, 2, none⟩) hz0).trans c2
          by_cases hlt : k < 1
          · obtain ⟨f, hf⟩ : ∃ f, ks[k]? = some f := ⟨ks[k]'(by rw [HN.out]; exact hlt), List.getElem?_eq_getElem _⟩
            have i1 : (k : Int) < (1 : Int) := by omega
            obtain ⟨b, o, rfl, hbl, hr⟩ := HK.out.1.r (by rintro rfl; simp at hf)
            obtain ⟨Af, capf, d0, d1, d2, hN⟩ := row_get' hr hf
            have d0' := (hb.cell (p := ⟨b, o + k * 3, none⟩) hbl).trans d0
            have d1' := (hb.cell (p := ⟨b, o + k * 3 + 1, none⟩) hbl).trans d1
            have d2' := (hb.cell (p := ⟨b, o + k * 3 + 2, none⟩) hbl).trans d2
            have hs := good_take hf
            rw [hyes, Bool.true_and] at hs
            have hC := HI.out f _ wr ((hN.below hb).mono hb.size)
            obtain ⟨q, hq⟩ : ∃ q, goodE f = q := ⟨_, rfl⟩
            rw [hq] at hC hs
            replace hC := Lib.hid hC
            have HH := Lib.hid (And.intro hs (And.intro hb hlt))
            clear hs hb hN hr hbl hq hyes d0 d1 d2
            go_wp2_with fail
            refine hC.out.mono ?_
            rintro r w2 ⟨rfl, hb2⟩
            have HB2 := Lib.hid (HH.out.2.1.trans (hb2.mono HH.out.2.1.size))
            clear hb2
            cases q
            · obtain rfl : R = false := by rw [hR2.out, good_stop HH.out.1, Bool.and_false]
              go_wp2
              go_ret
              exact ⟨rfl, HK.out.2.trans (HB2.out.mono HK.out.2.size)⟩
            · go_wp2
              go_roundw
              case rel => exact ⟨k + 1, by go_num, by omega, HH.out.1, HB2.out⟩
              case measure => simp [RowKit.intOf]; omega
          · have hkn : k = 1 := by omega
            subst hkn
            have ht : ks.take 1 = ks := List.take_of_length_le (by rw [HN.out]; omega)
            rw [ht] at hyes
            have HY := Lib.hid (And.intro hyes (HK.out.2.trans (hb.mono HK.out.2.size)))
            clear hb ht hyes
            by_cases hq : cc = 0
            · subst hq
              obtain rfl : R = true := by rw [hR2.out, HY.out.1]; rfl
              go_wp2
              go_ret
              exact ⟨rfl, HY.out.2⟩
            · have qc : (cc == 0) = false := by simpa using hq
              obtain rfl : R = false := by rw [hR2.out, decide_eq_false hq]; rfl
              clear hq
              go_wp2
              go_ret
              exact ⟨rfl, HY.out.2⟩
      · obtain rfl : R = false := by rw [hR, decide_eq_false hn1]; simp
        clear hR
        have n1 : ((n : Int) == 1) = false := by simp; omega
        have n1b : ((n : Int) != 1) = true := by simp; omega
        go_enter Tryd.func41, Tryd.ntmps41
        go_wp2_with fail
        rw [HW.out]
        refine HC.out.mono ?_
        rintro r w1 ⟨rfl, hb1⟩
        have c0' := (hb1.cell (p := ⟨w.heap.size, 0, none⟩) hz0).trans c0
        have c1' := (hb1.cell (p := ⟨w.heap.size, 1, none⟩) hz0).trans c1
        have c2' := (hb1.cell (p := ⟨w.heap.size, 2, none⟩) hz0).trans c2
        have HZ := Lib.hid (HK.out.2.trans (hb1.mono HK.out.2.size))
        clear hb1
        go_wp2
        go_ret
        exact ⟨rfl, HZ.out⟩
    · have hR : R = (decide (cc = 0) && decide (n = 1) && goodE.all ks) := HS.out
      by_cases hn1 : n = 1
      · have hR2 := Lib.hid (show R = (decide (cc = 0) && goodE.all ks) by rw [hR, decide_eq_true hn1, Bool.and_true])
        clear hR
        subst hn1
        go_enter Tryd.func41, Tryd.ntmps41
        go_wp2_with fail
        rw [HW.out]
        refine HC.out.mono ?_
        rintro r w1 ⟨rfl, hb1⟩
        have c0' := (hb1.cell (p := ⟨w.heap.size, 0, none⟩) hz0).trans c0
        have c1' := (hb1.cell (p := ⟨w.heap.size, 1, none⟩) hz0).trans c1
        have c2' := (hb1.cell (p := ⟨w.heap.size, 2, none⟩) hz0).trans c2
        have HZ := Lib.hid (HK.out.2.trans (hb1.mono HK.out.2.size))
        have HB1 := Lib.hid hb1
        clear hb1
        go_wp2_with fail
        go_loopw [6] (fun i wr => ∃ k : Nat, i = .int .i64 k ∧ k ≤ 1 ∧ goodE.all (ks.take k) = true ∧ Below W0.heap.size W0 wr) (fun i _ => 1 - (RowKit.intOf i).toNat)
        case atStart => exact ⟨0, rfl, Nat.zero_le _, by rw [List.take_zero]; rfl, HB1.out⟩
        case round =>
          obtain ⟨k, rfl, hkn, hyes, hb⟩ := hrel
          have c1' := (hb.cell (p := ⟨w.heap.size, 1, none⟩) hz0).trans c1
          have c2' := (hb.cell (p := ⟨w.heap.size, 2, none⟩) hz0).trans c2
          by_cases hlt : k < 1
          · obtain ⟨f, hf⟩ : ∃ f, ks[k]? = some f := ⟨ks[k]'(by rw [HN.out]; exact hlt), List.getElem?_eq_getElem _⟩
            have i1 : (k : Int) < (1 : Int) := by omega
            obtain ⟨b, o, rfl, hbl, hr⟩ := HK.out.1.r (by rintro rfl; simp at hf)
            obtain ⟨Af, capf, d0, d1, d2, hN⟩ := row_get' hr hf
            have d0' := (hb.cell (p := ⟨b, o + k * 3, none⟩) hbl).trans d0
            have d1' := (hb.cell (p := ⟨b, o + k * 3 + 1, none⟩) hbl).trans d1
            have d2' := (hb.cell (p := ⟨b, o + k * 3 + 2, none⟩) hbl).trans d2
            have hs := good_take hf
            rw [hyes, Bool.true_and] at hs
            have hC := HI.out f _ wr ((hN.below hb).mono hb.size)
            obtain ⟨q, hq⟩ : ∃ q, goodE f = q := ⟨_, rfl⟩
            rw [hq] at hC hs
            replace hC := Lib.hid hC
            have HH := Lib.hid (And.intro hs (And.intro hb hlt))
            clear hs hb hN hr hbl hq hyes d0 d1 d2
            go_wp2_with fail
            refine hC.out.mono ?_
            rintro r w2 ⟨rfl, hb2⟩
            have HB2 := Lib.hid (HH.out.2.1.trans (hb2.mono HH.out.2.1.size))
            clear hb2
            cases q
            · obtain rfl : R = false := by rw [hR2.out, good_stop HH.out.1, Bool.and_false]
              go_wp2
              go_ret
              exact ⟨rfl, HK.out.2.trans (HB2.out.mono HK.out.2.size)⟩
            · go_wp2
              go_roundw
              case rel => exact ⟨k + 1, by go_num, by omega, HH.out.1, HB2.out⟩
              case measure => simp [RowKit.intOf]; omega
          · have hkn : k = 1 := by omega
            subst hkn
            have ht : ks.take 1 = ks := List.take_of_length_le (by rw [HN.out]; omega)
            rw [ht] at hyes
            have HY := Lib.hid (And.intro hyes (HK.out.2.trans (hb.mono HK.out.2.size)))
            clear hb ht hyes
            by_cases hq : cc = 0
            · subst hq
              obtain rfl : R = true := by rw [hR2.out, HY.out.1]; rfl
              go_wp2
              go_ret
              exact ⟨rfl, HY.out.2⟩
            · have qc : (cc == 0) = false := by simpa using hq
              obtain rfl : R = false := by rw [hR2.out, decide_eq_false hq]; rfl
              clear hq
              go_wp2
              go_ret
              exact ⟨rfl, HY.out.2⟩
      · obtain rfl : R = false := by rw [hR, decide_eq_false hn1]; simp
        clear hR
        have n1 : ((n : Int) == 1) = false := by simp; omega
        have n1b : ((n : Int) != 1) = true := by simp; omega
        go_enter Tryd.func41, Tryd.ntmps41
        go_wp2_with fail
        rw [HW.out]
        refine HC.out.mono ?_
        rintro r w1 ⟨rfl, hb1⟩
        have c0' := (hb1.cell (p := ⟨w.heap.size, 0, none⟩) hz0).trans c0
        have c1' := (hb1.cell (p := ⟨w.heap.size, 1, none⟩) hz0).trans c1
        have c2' := (hb1.cell (p := ⟨w.heap.size, 2, none⟩) hz0).trans c2
        have HZ := Lib.hid (HK.out.2.trans (hb1.mono HK.out.2.size))
        clear hb1
        go_wp2
        go_ret
        exact ⟨rfl, HZ.out⟩
end Go.Proofs.YteamonmneoakpaaDoor

namespace Go.Proofs.YteamonmneoakpaaDoor
open Go.RowKit Go.Shelf Go.Lib

def ToLOk (w : World) (ks : List E) (r : Ending) (w' : World) : Prop := ∃ A cap, r = .returned (.slice A ks.length cap) ∧ KsP w' (fun b => w.heap.size ≤ b ∧ b < w'.heap.size) ks A cap ∧ Below w.heap.size w w'
theorem len_le_szL : ∀ l : List E, l.length ≤ szL l := by
  intro l
  induction l with
  | nil => simp
  | cons a r ih2 => have := szE_pos a; simp only [szL, szE.szL, List.length_cons] at *; omega
set_option maxHeartbeats 8000000 in
set_option maxRecDepth 100000 in
theorem toL_any (ks : List E) (hz : szL ks ≤ 100000) (A : Option Addr) (cap : Nat) (w : World) (h : KsAt w w.heap.size ks A cap) : Calls Tryd.prog 13 #[.slice A ks.length cap] w (ToLOk w ks) := by
  obtain ⟨i0, hi, hz0, hz1, hz2⟩ := info_parts info52
  have hln : ks.length ≤ 100000 := Nat.le_trans (len_le_szL ks) hz
  obtain ⟨n, hn⟩ : ∃ n, ks.length = n := ⟨_, rfl⟩
  have HN := Lib.hid hn
  have HA := Lib.hid (And.intro h hz)
  rw [hn] at hln ⊢
  clear hn h hz
  go_enter Tryd.func13, Tryd.ntmps13
  go_wp2_with fail
  go_loopw [3, 4] (fun u v wr => ∃ (j : Nat) (cs : List Value), v = .int .i64 (j : Int) ∧ j ≤ n ∧ Below w.heap.size w wr ∧ wr.ownsRow w.heap.size 71 3 u j cs ∧ Kids wr w.heap.size u ks j cs) (fun _ v _ => n - (RowKit.intOf v).toNat)
  case atStart => exact ⟨0, [], rfl, by omega, Below.refl _ _, World.ownsRow_nil _ _ _ _, rfl, fun i f hi => by omega⟩
  case round =>
    obtain ⟨j, cs, rfl, hj, hb, hown, hkids⟩ := hrel
    by_cases hlt : j < n
    · have i1 : (j : Int) < (n : Int) := by omega
      obtain ⟨f, hf⟩ : ∃ f, ks[j]? = some f := ⟨ks[j]'(by rw [HN.out]; exact hlt), List.getElem?_eq_getElem _⟩
      obtain ⟨b, o, rfl, hbl, hr⟩ := HA.out.1.r (by rintro rfl; simp at hf)
      obtain ⟨A', cap', c0, c1, c2, hNd⟩ := row_get' hr hf
      have d0 := (hb.cell (p := ⟨b, o + j * 3, none⟩) hbl).trans c0
      have d1 := (hb.cell (p := ⟨b, o + j * 3 + 1, none⟩) hbl).trans c1
      have d2 := (hb.cell (p := ⟨b, o + j * 3 + 2, none⟩) hbl).trans c2
      have hsf := szL_mem (List.mem_of_getElem? hf)
      have hC := Lib.hid (to_any _ f (Nat.le_refl _) (by have := HA.out.2; omega) (.agg #[.int .i64 f.k, .int .i64 f.c, .slice A' f.ks.length cap']) wr ((hNd.below hb).mono hb.size))
      have HK := Lib.hid (And.intro hb (And.intro hown (And.intro hkids hf)))
      clear hb hown hkids hf hr c0 c1 c2 hNd hsf
      go_wp2_with fail
      refine hC.out.mono ?_
      rintro r W5 ⟨v5, rfl, hN5, hb5⟩
      obtain ⟨_, _, A5, c5, rfl, _⟩ := NdP_iff.1 hN5
      have ho5 := ownsRow_below HK.out.2.1 hb5
      have hbw5 := HK.out.1.trans (hb5.mono HK.out.1.size)
      have NB := World.news_of_block (heap_alloc_new W5 (.cells #[.int .i64 f.k, .int .i64 f.c, .slice A5 f.ks.length c5] 71))
      have H5 := Lib.hid (And.intro hN5 (And.intro hb5 (And.intro ho5 (And.intro hbw5 NB))))
      clear hN5 hb5 ho5 hbw5 NB d0 d1 d2
      go_wp2_with (first
        | (at_builtin; refine wpList_append_lies _ rfl _ _ 30 rfl w.heap.size 71 i0 _ 3 40 Tryd.underlying30 hi hz0 hz1 hz2 rfl (by omega) _ j cs rfl (H5.out.2.2.1.alloc _) ⟨W5.heap.size, 0, none⟩ 1 1 [.int .i64 f.k, .int .i64 f.c, .slice A5 f.ks.length c5] rfl rfl H5.out.2.2.2.2 (by simp [Value.oneCell']) (by omega) (by unfold maxLen; omega) (by omega) (by have := H5.out.2.2.2.1.size; simp; omega) (W5.heap.size + 1) (by simp) ?_)
        | fail)
      intro g cap1 W7 hown7 hgrow7 hat7 hlt7
      have hgr57 : W5.grownBy W7 (Value.ownBlock _) := ⟨hgrow7.os, hgrow7.tape, hgrow7.output, by have := hgrow7.size; simp at this; omega, fun k hk hn => (hgrow7.block k (by simp; omega) hn).trans (Below.heap_alloc _ _ _ hk)⟩
      have hk7 := Kids.step (g := g) (v7 := .slice (some ⟨g, 0, none⟩) (j + 1) cap1) HK.out.2.2.1 HK.out.2.2.2 (fun b hb => (HK.out.2.1.lt b hb).2) H5.out.1 H5.out.2.1 HK.out.1.size hgr57 rfl (by rcases hat7 with h | h; exact .inl h; exact .inr (by omega))
      have hb7 : Below w.heap.size w W7 := H5.out.2.2.2.1.grown hgr57 H5.out.2.2.2.1.size (fun k hk => (H5.out.2.2.1.lt k hk).1)
      have hend : ∃ (j' : Nat) (cs' : List Value), Value.int .i64 ((j : Int) + 1) = .int .i64 (j' : Int) ∧ j' ≤ n ∧ Below w.heap.size w W7 ∧ W7.ownsRow w.heap.size 71 3 (.slice (some ⟨g, 0, none⟩) (j + 1) cap1) j' cs' ∧ Kids W7 w.heap.size (.slice (some ⟨g, 0, none⟩) (j + 1) cap1) ks j' cs' := ⟨j + 1, _, by simp, by omega, hb7, hown7, hk7⟩
      have HEND := Lib.hid hend
      clear hown7 hgrow7 hat7 hlt7 hgr57 hk7 hb7 hend
      go_wp2_with fail
      go_roundw
      case rel => exact HEND.out
      case measure => simp [RowKit.intOf]; omega
    · obtain rfl : j = n := by omega
      have i1 : ¬ (j : Int) < (j : Int) := by omega
      have hown' : wr.ownsRow w.heap.size 71 3 u3 ks.length cs := by rw [HN.out]; exact hown
      have hkids' : Kids wr w.heap.size u3 ks ks.length cs := by rw [HN.out]; exact hkids
      obtain ⟨A6, c6, rfl, hkp⟩ := hkids'.full hown'
      have HK := Lib.hid (And.intro hb hkp)
      clear hb hown hkids hown' hkids' hkp
      go_wp2_with fail
      go_ret
      exact ⟨A6, c6, rfl, HK.out.2, HK.out.1⟩
end Go.Proofs.YteamonmneoakpaaDoor

namespace Go.Proofs.YteamonmneoakpaaDoor
open Go.RowKit Go.Shelf Go.Lib

set_option maxHeartbeats 4000000 in
set_option maxRecDepth 100000 in
theorem over_any (ks : List E) (A : Option Addr) (cap : Nat) (w : World) (h : KsAt w w.heap.size ks A cap) : Calls Tryd.prog 24 #[.slice A ks.length cap, .int .i64 80] w fun r w' => r = .returned (.bool (decide (80 < szL ks))) ∧ Below w.heap.size w w' := by
  have hln : ks.length ≤ 9223372036854775807 := by have := h.l; have := h.m; unfold maxLen at this; omega
  obtain ⟨R, hR⟩ : ∃ R, decide (80 < szL ks) = R := ⟨_, rfl⟩
  rw [hR]
  have HR := Lib.hid hR
  obtain ⟨n, hn⟩ : ∃ n, ks.length = n := ⟨_, rfl⟩
  have HN := Lib.hid hn
  have HK := Lib.hid h
  rw [hn] at hln ⊢
  clear hn h hR
  go_enter Tryd.func24, Tryd.ntmps24
  go_wp2_with fail
  go_loopw [5, 6] (fun s i wr => ∃ k t : Nat, i = .int .i64 k ∧ k ≤ n ∧ s = .int .i64 (t : Int) ∧ t ≤ 200 ∧ (t ≤ 80 → t = szL (ks.take k)) ∧ (80 < t → R = true) ∧ Below w.heap.size w wr) (fun _ i _ => n - (RowKit.intOf i).toNat)
  case atStart => exact ⟨0, 0, rfl, Nat.zero_le _, rfl, by omega, fun _ => by simp [szL, szE.szL], fun h => by omega, Below.refl _ _⟩
  case round =>
    obtain ⟨k, t, rfl, hkn, rfl, ht, hte, htr, hb⟩ := hrel
    by_cases hlt : k < n
    · have i1 : (k : Int) < (n : Int) := by omega
      by_cases h80 : t ≤ 80
      · have i2 : (t : Int) ≤ 80 := by omega
        obtain ⟨f, hf⟩ : ∃ f, ks[k]? = some f := ⟨ks[k]'(by rw [HN.out]; exact hlt), List.getElem?_eq_getElem _⟩
        obtain ⟨b, o, rfl, hbl, hr⟩ := HK.out.r (by rintro rfl; simp at hf)
        obtain ⟨A', cap', c0, c1, c2, hNd⟩ := row_get' hr hf
        have d0 := (hb.cell (p := ⟨b, o + k * 3, none⟩) hbl).trans c0
        have d1 := (hb.cell (p := ⟨b, o + k * 3 + 1, none⟩) hbl).trans c1
        have d2 := (hb.cell (p := ⟨b, o + k * 3 + 2, none⟩) hbl).trans c2
        have hC := size_any _ f (Nat.le_refl _) (.agg #[.int .i64 f.k, .int .i64 f.c, .slice A' f.ks.length cap']) 80 wr ((hNd.below hb).mono hb.size) (by omega)
        have hs := szL_take hf
        have hle := szL_take_le ks (k + 1)
        have hte' := hte h80
        obtain ⟨z, hz⟩ : ∃ z, min (szE f) (80 + 1) = z := ⟨_, rfl⟩
        rw [hz] at hC
        have hC := Lib.hid hC
        have hzb : z ≤ 81 := by omega
        have hn1 : t + z ≤ 80 → t + z = szL (ks.take (k + 1)) := by intro h; omega
        have hn2 : 80 < t + z → R = true := by
          intro h
          rw [← HR.out]
          simp only [decide_eq_true_eq]
          omega
        have hw : wrap64 ((t : Int) + (z : Int)) = (t : Int) + (z : Int) := by unfold wrap64; omega
        have HH := Lib.hid (And.intro hb (And.intro hn1 (And.intro hn2 (And.intro hw hzb))))
        clear hb hn1 hn2 hs hle hte hte' htr hz c0 c1 c2 hNd hr hf
        go_wp2_with fail
        refine hC.out.mono ?_
        rintro r w2 ⟨rfl, hb2⟩
        have HB := Lib.hid (HH.out.1.trans (hb2.mono HH.out.1.size))
        clear hb2 d0 d1 d2
        go_wp2_with fail
        go_roundw
        case rel => exact ⟨k + 1, t + z, by go_num, by omega, by first | (rw [HH.out.2.2.2.1]; simp) | go_num, by have := HH.out.2.2.2.2; omega, HH.out.2.1, HH.out.2.2.1, HB.out⟩
        case measure => simp [RowKit.intOf]; omega
      · have i2 : decide ((t : Int) ≤ 80) = false := by simp; omega
        have i3 : (80 : Int) < (t : Int) := by omega
        obtain rfl : R = true := htr (by omega)
        have HB := Lib.hid hb
        clear hb hte htr
        go_wp2_with fail
        go_ret
        exact ⟨rfl, HB.out⟩
    · obtain rfl : k = n := by omega
      have i1 : decide ((k : Int) < (k : Int)) = false := by simp
      have ht2 : ks.take k = ks := by rw [← HN.out, List.take_length]
      rw [ht2] at hte
      have hfin : R = decide ((80 : Int) < (t : Int)) := by
        rw [← HR.out]
        congr 1
        apply propext
        constructor
        · intro h
          by_cases h80 : t ≤ 80
          · have := hte h80; omega
          · omega
        · intro h
          have := htr (by omega)
          rw [← HR.out] at this
          simpa using this
      have HF := Lib.hid hfin
      have HB := Lib.hid hb
      clear hb hte htr hfin ht2
      go_wp2_with fail
      go_ret
      exact ⟨by rw [HF.out]; rfl, HB.out⟩
set_option maxHeartbeats 4000000 in
set_option maxRecDepth 100000 in
theorem great_any (ks : List E) (A : Option Addr) (cap : Nat) (w : World) (h : KsAt w w.heap.size ks A cap) : Calls Tryd.prog 10 #[.slice A ks.length cap] w fun r w' => r = .returned (.bool (decide (80 < szL ks))) ∧ Below w.heap.size w w' := by
  have C := Lib.hid (over_any ks A cap w h)
  clear h
  generalize decide (80 < szL ks) = R at *
  go_enter Tryd.func10, Tryd.ntmps10
  go_wp2_with fail
  refine C.out.mono ?_
  rintro r w2 ⟨rfl, hb⟩
  have HB := Lib.hid hb
  clear hb
  go_wp2_with fail
  go_ret
  exact ⟨rfl, HB.out⟩
set_option maxHeartbeats 4000000 in
set_option maxRecDepth 100000 in
theorem allRight_any (ks : List E) (A : Option Addr) (cap : Nat) (w : World) (h : KsAt w w.heap.size ks A cap) (hz : szL ks ≤ 100000) : Calls Tryd.prog 14 #[.slice A ks.length cap] w fun r w' => r = .returned (.bool (ks.all rightE && decide (ks.length ≤ 40))) ∧ Below w.heap.size w w' := by
  have hln : ks.length ≤ 9223372036854775807 := by have := h.l; have := h.m; unfold maxLen at this; omega
  obtain ⟨R, hR⟩ : ∃ R, (ks.all rightE && decide (ks.length ≤ 40)) = R := ⟨_, rfl⟩
  rw [hR]
  have HR := Lib.hid hR
  obtain ⟨n, hn⟩ : ∃ n, ks.length = n := ⟨_, rfl⟩
  have HN := Lib.hid hn
  have HK := Lib.hid (And.intro h hz)
  rw [hn] at hln ⊢
  clear hn h hR hz
  go_enter Tryd.func14, Tryd.ntmps14
  go_wp2_with fail
  go_loopw [3] (fun i wr => ∃ k : Nat, i = .int .i64 k ∧ k ≤ n ∧ (ks.take k).all rightE = true ∧ Below w.heap.size w wr) (fun i _ => n - (RowKit.intOf i).toNat)
  case atStart => exact ⟨0, rfl, Nat.zero_le _, rfl, Below.refl _ _⟩
  case round =>
    obtain ⟨k, rfl, hkn, hall, hb⟩ := hrel
    by_cases hlt : k < n
    · obtain ⟨f, hf⟩ : ∃ f, ks[k]? = some f := ⟨ks[k]'(by rw [HN.out]; exact hlt), List.getElem?_eq_getElem _⟩
      have i1 : (k : Int) < (n : Int) := by omega
      obtain ⟨b, o, rfl, hbl, hr⟩ := HK.out.1.r (by rintro rfl; simp at hf)
      obtain ⟨A', cap', c0, c1, c2, hNd⟩ := row_get' hr hf
      have d0 := (hb.cell (p := ⟨b, o + k * 3, none⟩) hbl).trans c0
      have d1 := (hb.cell (p := ⟨b, o + k * 3 + 1, none⟩) hbl).trans c1
      have d2 := (hb.cell (p := ⟨b, o + k * 3 + 2, none⟩) hbl).trans c2
      have hsf := szL_mem (List.mem_of_getElem? hf)
      have hC := Lib.hid (refRight_any f (.agg #[.int .i64 f.k, .int .i64 f.c, .slice A' f.ks.length cap']) wr ((hNd.below hb).mono hb.size))
      have HH := Lib.hid (And.intro hf (And.intro hb hall))
      clear c0 c1 c2 hNd hr hb hall hf
      go_wp2_with fail
      refine hC.out.mono ?_
      rintro r w2 ⟨rfl, hb2⟩
      have HB := Lib.hid (HH.out.2.1.trans (hb2.mono HH.out.2.1.size))
      clear hb2 d0 d1 d2
      by_cases hr : rightE f = true
      · rw [hr]
        have ht : (ks.take (k + 1)).all rightE = true := by rw [all_take HH.out.1, HH.out.2.2, hr]; rfl
        have HT := Lib.hid ht
        clear ht hr
        go_wp2_with fail
        go_roundw
        case rel => exact ⟨k + 1, by go_num, by omega, HT.out, HB.out⟩
        case measure => simp [RowKit.intOf]; omega
      · have hr : rightE f = false := by simpa using hr
        rw [hr]
        have : R = false := by
          have ht : (ks.take (k + 1)).all rightE = false := by rw [all_take HH.out.1, hr]; simp
          rw [← HR.out, all_stop ht]; rfl
        subst this
        clear hr
        go_wp2_with fail
        go_ret
        exact ⟨rfl, HB.out⟩
    · obtain rfl : k = n := by omega
      have i1 : ¬ (k : Int) < (k : Int) := by omega
      have ht : ks.take k = ks := by rw [← HN.out, List.take_length]
      rw [ht] at hall
      have hfin : R = decide ((k : Int) ≤ 40) := by
        rw [← HR.out, hall, Bool.true_and, HN.out]
        congr 1
        apply propext
        omega
      have HF := Lib.hid hfin
      have HB := Lib.hid hb
      clear hall hb ht hfin
      go_wp2_with fail
      go_ret
      exact ⟨by rw [HF.out]; rfl, HB.out⟩
end Go.Proofs.YteamonmneoakpaaDoor

