/-
  Contracts: the document's Right, of an expression.
  Contracts: virgulelaw08.To, Over, Great, Right.
  Contracts: Exprs.Over, Great, Right.
  NfaSteps: the mathematics of the walk; the ways that end early.
  The walk of NfaSteps.
  From what the rows list (the table of math/bits) to what the contracts ask.
  An argument that is a list of expressions, as it lies in memory; a list of numbers.
-/
import Derived.Test.YtmldgfplnacecaaDoorXqk
import Derived.Test.YtmldgfplnacecaaDoorXqf
import Derived.Test.YtmldgfplnacecaaDoorXqj
import Derived.Test.YtmldgfplnacecaaDoorXqg
import Derived.Test.YtmldgfplnacecaaDoorXqe
import Derived.BigQuiet
import Derived.Deep.QuietTactic
import Derived.PinnedBridge
import Derived.Lib.LaidU8
import Derived.ProofKit
import Derived.OpenShut
import Derived.Test.YtmldgfplnacecaaDoorRows
import Derived.Test.YtmldgfplnacecaaDoorXqa
import Derived.Deep.Slices
import Derived.Test.YtmldgfplnacecaaDoorXqd
namespace Go.Proofs.YtmldgfplnacecaaDoor
open Go.RowKit Go.Shelf Go.Lib

set_option maxHeartbeats 16000000 in
theorem refRight_any (e : E) (v : Value) (w : World) (h : Nd w w.heap.size e v) :
    Calls Tryd.prog 51 #[v, .bool false] w fun r w' => r = .returned (.bool (rightE e)) ∧ Below w.heap.size w w' := by
    obtain ⟨_, _, A, cap, rfl, hk⟩ := Nd_iff.1 h
    obtain ⟨W0, hW0⟩ : ∃ W0, w.alloc (.cells #[.int .i64 e.k, .int .i64 e.c, .slice A e.ks.length cap] 48) = W0 := ⟨_, rfl⟩
    have hb0 : Below w.heap.size w W0 := by rw [← hW0]; exact below_new _ _
    have hz0 : w.heap.size < W0.heap.size := by rw [← hW0]; simp
    have c0 : W0.cell? ⟨w.heap.size, 0, none⟩ = some (.int .i64 e.k) := by rw [← hW0]; simp
    have c1 : W0.cell? ⟨w.heap.size, 1, none⟩ = some (.int .i64 e.c) := by rw [← hW0]; simp
    have c2 : W0.cell? ⟨w.heap.size, 2, none⟩ = some (.slice A e.ks.length cap) := by rw [← hW0]; simp
    have hk0 := hk.on hb0
    have hln : e.ks.length ≤ 9223372036854775807 := by have := hk.l; have := hk.m; unfold maxLen at this; omega
    have hC := size_any _ e (Nat.le_refl _) _ 2000 W0 (h.on hb0) (by omega)
    have hbig : 2000 < szE e → rightE e = false := fun hs => by
      rcases hr : rightE e with _ | _
      · rfl
      · have := right_size hr; omega
    have hsm : ¬ 2000 < szE e → rightE e = if e.k = 9 then shapedK e.k e.c e.ks.length else (decide (e.k ≠ 9) && shapedK e.k e.c e.ks.length && goodE.all e.ks) := fun hs => by
      by_cases h9 : e.k = 9
      · rw [if_pos h9]; unfold rightE; rw [if_pos h9]
      · rw [if_neg h9, rightE_good h9, goodE_eq, decide_eq_true (show szE e ≤ 2000 by omega), Bool.and_true]
    have ih' : ∀ f v w, Nd w w.heap.size f v → Calls Tryd.prog 51 #[v, .bool true] w fun r w' => r = .returned (.bool (goodE f)) ∧ Below w.heap.size w w' := fun f => refRightP_any _ f (Nat.le_refl _)
    obtain ⟨R, hR⟩ : ∃ R, rightE e = R := ⟨_, rfl⟩
    rw [hR] at hbig hsm ⊢
    obtain ⟨sv, hsv⟩ : ∃ sv, min (szE e) (2000 + 1) = sv := ⟨_, rfl⟩
    rw [hsv] at hC
    have hsv1 : 2000 < szE e → 2000 < sv := by omega
    have hsv2 : ¬ 2000 < szE e → ¬ 2000 < sv := by omega
    generalize szE e = S at *
    generalize e.k = kk at *
    generalize e.c = cc at *
    generalize e.ks = ks at *
    obtain ⟨n, hn⟩ : ∃ n, ks.length = n := ⟨_, rfl⟩
    rw [hn] at hW0 c2 hln hsm hC ⊢
    have HW := Lib.hid hW0
    have HK := Lib.hid (And.intro hk0 hb0)
    have HI := Lib.hid ih'
    have HN := Lib.hid hn
    have HC := Lib.hid hC
    clear hW0 hk hk0 hb0 ih' hn h hR hC hsv
    by_cases big : 2000 < S
    · obtain rfl : R = false := hbig big
      have i0 : (2000 : Int) < (sv : Int) := by have := hsv1 big; omega
      clear hbig hsm hsv1 hsv2 big
      go_enter Tryd.func51, Tryd.ntmps51
      go_wp2_with fail
      rw [HW.out]
      refine HC.out.mono ?_
      rintro r w1 ⟨rfl, hb1⟩
      have c0' := (hb1.cell (p := ⟨w.heap.size, 0, none⟩) hz0).trans c0
      have c1' := (hb1.cell (p := ⟨w.heap.size, 1, none⟩) hz0).trans c1
      have c2' := (hb1.cell (p := ⟨w.heap.size, 2, none⟩) hz0).trans c2
      have HZ := Lib.hid (HK.out.2.trans (hb1.mono HK.out.2.size))
      clear hb1
      go_wp2
      go_ret
      exact ⟨rfl, HZ.out⟩
    have HS := Lib.hid (hsm big)
    have i0 : decide ((2000 : Int) < (sv : Int)) = false := by have := hsv2 big; simp; omega
    clear hbig hsm hsv1 hsv2 big
    by_cases k0 : kk < 0
    · obtain rfl : R = false := by rw [HS.out, if_neg (by omega)]; unfold shapedK; rw [if_neg (by omega), if_neg (by omega), if_neg (by omega), if_neg (by omega)]; simp
      go_enter Tryd.func51, Tryd.ntmps51
      go_wp2_with fail
      rw [HW.out]
      refine HC.out.mono ?_
      rintro r w1 ⟨rfl, hb1⟩
      have c0' := (hb1.cell (p := ⟨w.heap.size, 0, none⟩) hz0).trans c0
      have c1' := (hb1.cell (p := ⟨w.heap.size, 1, none⟩) hz0).trans c1
      have c2' := (hb1.cell (p := ⟨w.heap.size, 2, none⟩) hz0).trans c2
      have HZ := Lib.hid (HK.out.2.trans (hb1.mono HK.out.2.size))
      clear hb1
      go_wp2
      go_ret
      exact ⟨rfl, HZ.out⟩
    have q0 : decide (kk < 0) = false := by simp; omega
    by_cases k1 : 9 < kk
    · obtain rfl : R = false := by rw [HS.out, if_neg (by omega)]; unfold shapedK; rw [if_neg (by omega), if_neg (by omega), if_neg (by omega), if_neg (by omega)]; simp
      clear k0
      go_enter Tryd.func51, Tryd.ntmps51
      go_wp2_with fail
      rw [HW.out]
      refine HC.out.mono ?_
      rintro r w1 ⟨rfl, hb1⟩
      have c0' := (hb1.cell (p := ⟨w.heap.size, 0, none⟩) hz0).trans c0
      have c1' := (hb1.cell (p := ⟨w.heap.size, 1, none⟩) hz0).trans c1
      have c2' := (hb1.cell (p := ⟨w.heap.size, 2, none⟩) hz0).trans c2
      have HZ := Lib.hid (HK.out.2.trans (hb1.mono HK.out.2.size))
      clear hb1
      go_wp2
      go_ret
      exact ⟨rfl, HZ.out⟩
    have q1 : decide (9 < kk) = false := by simp; omega
    by_cases k9 : kk = 9
    · subst k9
      clear k0 k1
      have hR : R = (decide (cc = 0) && decide (n = 0)) := HS.out
      by_cases n0 : n = 0
      · have hk0 : ks = [] := List.length_eq_zero_iff.1 (HN.out.trans n0)
        have e0 : goodE.all ([] : List E) = true := rfl
        subst n0
        by_cases h1 : cc = 0
        · subst h1
          obtain rfl : R = true := by rw [hR]; rfl
          clear hR hk0 e0
          go_enter Tryd.func51, Tryd.ntmps51
          go_wp2_with fail
          rw [HW.out]
          refine HC.out.mono ?_
          rintro r w1 ⟨rfl, hb1⟩
          have c0' := (hb1.cell (p := ⟨w.heap.size, 0, none⟩) hz0).trans c0
          have c1' := (hb1.cell (p := ⟨w.heap.size, 1, none⟩) hz0).trans c1
          have c2' := (hb1.cell (p := ⟨w.heap.size, 2, none⟩) hz0).trans c2
          have HZ := Lib.hid (HK.out.2.trans (hb1.mono HK.out.2.size))
          clear hb1
          go_wp2
          go_ret
          exact ⟨rfl, HZ.out⟩
        · have h1' : (cc == 0) = false := by simpa using h1
          obtain rfl : R = false := by rw [hR, decide_eq_false h1]; rfl
          clear hR hk0 e0 h1
          go_enter Tryd.func51, Tryd.ntmps51
          go_wp2_with fail
          rw [HW.out]
          refine HC.out.mono ?_
          rintro r w1 ⟨rfl, hb1⟩
          have c0' := (hb1.cell (p := ⟨w.heap.size, 0, none⟩) hz0).trans c0
          have c1' := (hb1.cell (p := ⟨w.heap.size, 1, none⟩) hz0).trans c1
          have c2' := (hb1.cell (p := ⟨w.heap.size, 2, none⟩) hz0).trans c2
          have HZ := Lib.hid (HK.out.2.trans (hb1.mono HK.out.2.size))
          clear hb1
          go_wp2
          go_ret
          exact ⟨rfl, HZ.out⟩
      · have n1 : ((n : Int) == 0) = false := by simpa using n0
        obtain rfl : R = false := by rw [hR, decide_eq_false n0]; simp
        clear hR n0
        go_enter Tryd.func51, Tryd.ntmps51
        go_wp2_with fail
        rw [HW.out]
        refine HC.out.mono ?_
        rintro r w1 ⟨rfl, hb1⟩
        have c0' := (hb1.cell (p := ⟨w.heap.size, 0, none⟩) hz0).trans c0
        have c1' := (hb1.cell (p := ⟨w.heap.size, 1, none⟩) hz0).trans c1
        have c2' := (hb1.cell (p := ⟨w.heap.size, 2, none⟩) hz0).trans c2
        have HZ := Lib.hid (HK.out.2.trans (hb1.mono HK.out.2.size))
        clear hb1
        go_wp2
        go_ret
        exact ⟨rfl, HZ.out⟩
    have q9 : (kk == 9) = false := by simpa using k9
    have hkk : kk = 0 ∨ kk = 1 ∨ kk = 2 ∨ kk = 3 ∨ kk = 4 ∨ kk = 5 ∨ kk = 6 ∨ kk = 7 ∨ kk = 8 := by omega
    clear k0 k1 k9
    rcases hkk with rfl | rfl | rfl | rfl | rfl | rfl | rfl | rfl | rfl
    · have hR : R = (isC cc && decide (n = 0) && goodE.all ks) := HS.out
      rw [isC_iff] at hR
      by_cases n0 : n = 0
      · have hk0 : ks = [] := List.length_eq_zero_iff.1 (HN.out.trans n0)
        have e0 : goodE.all ([] : List E) = true := rfl
        subst n0
        by_cases h1 : 0 ≤ cc
        · by_cases h2 : cc ≤ 35
          · obtain rfl : R = true := by rw [hR, hk0, e0, decide_eq_true h1, decide_eq_true h2]; rfl
            clear hR hk0 e0
            go_enter Tryd.func51, Tryd.ntmps51
            go_wp2_with fail
            rw [HW.out]
            refine HC.out.mono ?_
            rintro r w1 ⟨rfl, hb1⟩
            have c0' := (hb1.cell (p := ⟨w.heap.size, 0, none⟩) hz0).trans c0
            have c1' := (hb1.cell (p := ⟨w.heap.size, 1, none⟩) hz0).trans c1
            have c2' := (hb1.cell (p := ⟨w.heap.size, 2, none⟩) hz0).trans c2
            have HZ := Lib.hid (HK.out.2.trans (hb1.mono HK.out.2.size))
            clear hb1
            go_wp2
            go_ret
            exact ⟨rfl, HZ.out⟩
          · have h2' : decide (cc ≤ 35) = false := by simp; omega
            obtain rfl : R = false := by rw [hR, h2', Bool.and_false]; rfl
            clear hR hk0 e0 h2
            go_enter Tryd.func51, Tryd.ntmps51
            go_wp2_with fail
            rw [HW.out]
            refine HC.out.mono ?_
            rintro r w1 ⟨rfl, hb1⟩
            have c0' := (hb1.cell (p := ⟨w.heap.size, 0, none⟩) hz0).trans c0
            have c1' := (hb1.cell (p := ⟨w.heap.size, 1, none⟩) hz0).trans c1
            have c2' := (hb1.cell (p := ⟨w.heap.size, 2, none⟩) hz0).trans c2
            have HZ := Lib.hid (HK.out.2.trans (hb1.mono HK.out.2.size))
            clear hb1
            go_wp2
            go_ret
            exact ⟨rfl, HZ.out⟩
        · have h1' : decide (0 ≤ cc) = false := by simp; omega
          obtain rfl : R = false := by rw [hR, h1']; rfl
          clear hR hk0 e0 h1
          go_enter Tryd.func51, Tryd.ntmps51
          go_wp2_with fail
          rw [HW.out]
          refine HC.out.mono ?_
          rintro r w1 ⟨rfl, hb1⟩
          have c0' := (hb1.cell (p := ⟨w.heap.size, 0, none⟩) hz0).trans c0
          have c1' := (hb1.cell (p := ⟨w.heap.size, 1, none⟩) hz0).trans c1
          have c2' := (hb1.cell (p := ⟨w.heap.size, 2, none⟩) hz0).trans c2
          have HZ := Lib.hid (HK.out.2.trans (hb1.mono HK.out.2.size))
          clear hb1
          go_wp2
          go_ret
          exact ⟨rfl, HZ.out⟩
      · have n1 : ((n : Int) == 0) = false := by simpa using n0
        obtain rfl : R = false := by rw [hR, decide_eq_false n0]; simp
        clear hR n0
        go_enter Tryd.func51, Tryd.ntmps51
        go_wp2_with fail
        rw [HW.out]
        refine HC.out.mono ?_
        rintro r w1 ⟨rfl, hb1⟩
        have c0' := (hb1.cell (p := ⟨w.heap.size, 0, none⟩) hz0).trans c0
        have c1' := (hb1.cell (p := ⟨w.heap.size, 1, none⟩) hz0).trans c1
        have c2' := (hb1.cell (p := ⟨w.heap.size, 2, none⟩) hz0).trans c2
        have HZ := Lib.hid (HK.out.2.trans (hb1.mono HK.out.2.size))
        clear hb1
        go_wp2
        go_ret
        exact ⟨rfl, HZ.out⟩
    · have hR : R = (decide (cc = 0) && decide (n = 0) && goodE.all ks) := HS.out
      by_cases n0 : n = 0
      · have hk0 : ks = [] := List.length_eq_zero_iff.1 (HN.out.trans n0)
        have e0 : goodE.all ([] : List E) = true := rfl
        subst n0
        by_cases h1 : cc = 0
        · subst h1
          obtain rfl : R = true := by rw [hR, hk0, e0]; rfl
          clear hR hk0 e0
          go_enter Tryd.func51, Tryd.ntmps51
          go_wp2_with fail
          rw [HW.out]
          refine HC.out.mono ?_
          rintro r w1 ⟨rfl, hb1⟩
          have c0' := (hb1.cell (p := ⟨w.heap.size, 0, none⟩) hz0).trans c0
          have c1' := (hb1.cell (p := ⟨w.heap.size, 1, none⟩) hz0).trans c1
          have c2' := (hb1.cell (p := ⟨w.heap.size, 2, none⟩) hz0).trans c2
          have HZ := Lib.hid (HK.out.2.trans (hb1.mono HK.out.2.size))
          clear hb1
          go_wp2
          go_ret
          exact ⟨rfl, HZ.out⟩
        · have h1' : (cc == 0) = false := by simpa using h1
          obtain rfl : R = false := by rw [hR, decide_eq_false h1]; rfl
          clear hR hk0 e0 h1
          go_enter Tryd.func51, Tryd.ntmps51
          go_wp2_with fail
          rw [HW.out]
          refine HC.out.mono ?_
          rintro r w1 ⟨rfl, hb1⟩
          have c0' := (hb1.cell (p := ⟨w.heap.size, 0, none⟩) hz0).trans c0
          have c1' := (hb1.cell (p := ⟨w.heap.size, 1, none⟩) hz0).trans c1
          have c2' := (hb1.cell (p := ⟨w.heap.size, 2, none⟩) hz0).trans c2
          have HZ := Lib.hid (HK.out.2.trans (hb1.mono HK.out.2.size))
          clear hb1
          go_wp2
          go_ret
          exact ⟨rfl, HZ.out⟩
      · have n1 : ((n : Int) == 0) = false := by simpa using n0
        obtain rfl : R = false := by rw [hR, decide_eq_false n0]; simp
        clear hR n0
        go_enter Tryd.func51, Tryd.ntmps51
        go_wp2_with fail
        rw [HW.out]
        refine HC.out.mono ?_
        rintro r w1 ⟨rfl, hb1⟩
        have c0' := (hb1.cell (p := ⟨w.heap.size, 0, none⟩) hz0).trans c0
        have c1' := (hb1.cell (p := ⟨w.heap.size, 1, none⟩) hz0).trans c1
        have c2' := (hb1.cell (p := ⟨w.heap.size, 2, none⟩) hz0).trans c2
        have HZ := Lib.hid (HK.out.2.trans (hb1.mono HK.out.2.size))
        clear hb1
        go_wp2
        go_ret
        exact ⟨rfl, HZ.out⟩
    · have hR : R = (isC cc && decide (n = 0) && goodE.all ks) := HS.out
      rw [isC_iff] at hR
      by_cases n0 : n = 0
      · have hk0 : ks = [] := List.length_eq_zero_iff.1 (HN.out.trans n0)
        have e0 : goodE.all ([] : List E) = true := rfl
        subst n0
        by_cases h1 : 0 ≤ cc
        · by_cases h2 : cc ≤ 35
          · obtain rfl : R = true := by rw [hR, hk0, e0, decide_eq_true h1, decide_eq_true h2]; rfl
            clear hR hk0 e0
            go_enter Tryd.func51, Tryd.ntmps51
            go_wp2_with fail
            rw [HW.out]
            refine HC.out.mono ?_
            rintro r w1 ⟨rfl, hb1⟩
            have c0' := (hb1.cell (p := ⟨w.heap.size, 0, none⟩) hz0).trans c0
            have c1' := (hb1.cell (p := ⟨w.heap.size, 1, none⟩) hz0).trans c1
            have c2' := (hb1.cell (p := ⟨w.heap.size, 2, none⟩) hz0).trans c2
            have HZ := Lib.hid (HK.out.2.trans (hb1.mono HK.out.2.size))
            clear hb1
            go_wp2
            go_ret
            exact ⟨rfl, HZ.out⟩
          · have h2' : decide (cc ≤ 35) = false := by simp; omega
            obtain rfl : R = false := by rw [hR, h2', Bool.and_false]; rfl
            clear hR hk0 e0 h2
            go_enter Tryd.func51, Tryd.ntmps51
            go_wp2_with fail
            rw [HW.out]
            refine HC.out.mono ?_
            rintro r w1 ⟨rfl, hb1⟩
            have c0' := (hb1.cell (p := ⟨w.heap.size, 0, none⟩) hz0).trans c0
            have c1' := (hb1.cell (p := ⟨w.heap.size, 1, none⟩) hz0).trans c1
            have c2' := (hb1.cell (p := ⟨w.heap.size, 2, none⟩) hz0).trans c2
            have HZ := Lib.hid (HK.out.2.trans (hb1.mono HK.out.2.size))
            clear hb1
            go_wp2
            go_ret
            exact ⟨rfl, HZ.out⟩
        · have h1' : decide (0 ≤ cc) = false := by simp; omega
          obtain rfl : R = false := by rw [hR, h1']; rfl
          clear hR hk0 e0 h1
          go_enter Tryd.func51, Tryd.ntmps51
          go_wp2_with fail
          rw [HW.out]
          refine HC.out.mono ?_
          rintro r w1 ⟨rfl, hb1⟩
          have c0' := (hb1.cell (p := ⟨w.heap.size, 0, none⟩) hz0).trans c0
          have c1' := (hb1.cell (p := ⟨w.heap.size, 1, none⟩) hz0).trans c1
          have c2' := (hb1.cell (p := ⟨w.heap.size, 2, none⟩) hz0).trans c2
          have HZ := Lib.hid (HK.out.2.trans (hb1.mono HK.out.2.size))
          clear hb1
          go_wp2
          go_ret
          exact ⟨rfl, HZ.out⟩
      · have n1 : ((n : Int) == 0) = false := by simpa using n0
        obtain rfl : R = false := by rw [hR, decide_eq_false n0]; simp
        clear hR n0
        go_enter Tryd.func51, Tryd.ntmps51
        go_wp2_with fail
        rw [HW.out]
        refine HC.out.mono ?_
        rintro r w1 ⟨rfl, hb1⟩
        have c0' := (hb1.cell (p := ⟨w.heap.size, 0, none⟩) hz0).trans c0
        have c1' := (hb1.cell (p := ⟨w.heap.size, 1, none⟩) hz0).trans c1
        have c2' := (hb1.cell (p := ⟨w.heap.size, 2, none⟩) hz0).trans c2
        have HZ := Lib.hid (HK.out.2.trans (hb1.mono HK.out.2.size))
        clear hb1
        go_wp2
        go_ret
        exact ⟨rfl, HZ.out⟩
    · have hR : R = (decide (cc = 0) && decide (n = 0) && goodE.all ks) := HS.out
      by_cases n0 : n = 0
      · have hk0 : ks = [] := List.length_eq_zero_iff.1 (HN.out.trans n0)
        have e0 : goodE.all ([] : List E) = true := rfl
        subst n0
        by_cases h1 : cc = 0
        · subst h1
          obtain rfl : R = true := by rw [hR, hk0, e0]; rfl
          clear hR hk0 e0
          go_enter Tryd.func51, Tryd.ntmps51
          go_wp2_with fail
          rw [HW.out]
          refine HC.out.mono ?_
          rintro r w1 ⟨rfl, hb1⟩
          have c0' := (hb1.cell (p := ⟨w.heap.size, 0, none⟩) hz0).trans c0
          have c1' := (hb1.cell (p := ⟨w.heap.size, 1, none⟩) hz0).trans c1
          have c2' := (hb1.cell (p := ⟨w.heap.size, 2, none⟩) hz0).trans c2
          have HZ := Lib.hid (HK.out.2.trans (hb1.mono HK.out.2.size))
          clear hb1
          go_wp2
          go_ret
          exact ⟨rfl, HZ.out⟩
        · have h1' : (cc == 0) = false := by simpa using h1
          obtain rfl : R = false := by rw [hR, decide_eq_false h1]; rfl
          clear hR hk0 e0 h1
          go_enter Tryd.func51, Tryd.ntmps51
          go_wp2_with fail
          rw [HW.out]
          refine HC.out.mono ?_
          rintro r w1 ⟨rfl, hb1⟩
          have c0' := (hb1.cell (p := ⟨w.heap.size, 0, none⟩) hz0).trans c0
          have c1' := (hb1.cell (p := ⟨w.heap.size, 1, none⟩) hz0).trans c1
          have c2' := (hb1.cell (p := ⟨w.heap.size, 2, none⟩) hz0).trans c2
          have HZ := Lib.hid (HK.out.2.trans (hb1.mono HK.out.2.size))
          clear hb1
          go_wp2
          go_ret
          exact ⟨rfl, HZ.out⟩
      · have n1 : ((n : Int) == 0) = false := by simpa using n0
        obtain rfl : R = false := by rw [hR, decide_eq_false n0]; simp
        clear hR n0
        go_enter Tryd.func51, Tryd.ntmps51
        go_wp2_with fail
        rw [HW.out]
        refine HC.out.mono ?_
        rintro r w1 ⟨rfl, hb1⟩
        have c0' := (hb1.cell (p := ⟨w.heap.size, 0, none⟩) hz0).trans c0
        have c1' := (hb1.cell (p := ⟨w.heap.size, 1, none⟩) hz0).trans c1
        have c2' := (hb1.cell (p := ⟨w.heap.size, 2, none⟩) hz0).trans c2
        have HZ := Lib.hid (HK.out.2.trans (hb1.mono HK.out.2.size))
        clear hb1
        go_wp2
        go_ret
        exact ⟨rfl, HZ.out⟩
    · have hR : R = (decide (cc = 0) && decide (2 ≤ n) && goodE.all ks) := HS.out
      by_cases hn1 : 2 ≤ n
      · have hR2 := Lib.hid (show R = (decide (cc = 0) && goodE.all ks) by rw [hR, decide_eq_true hn1, Bool.and_true])
        clear hR
        have n1 : decide ((n : Int) < 2) = false := by simp; omega
        go_enter Tryd.func51, Tryd.ntmps51
        go_wp2_with fail
        rw [HW.out]
        refine HC.out.mono ?_
        rintro r w1 ⟨rfl, hb1⟩
        have c0' := (hb1.cell (p := ⟨w.heap.size, 0, none⟩) hz0).trans c0
        have c1' := (hb1.cell (p := ⟨w.heap.size, 1, none⟩) hz0).trans c1
        have c2' := (hb1.cell (p := ⟨w.heap.size, 2, none⟩) hz0).trans c2
        have HZ := Lib.hid (HK.out.2.trans (hb1.mono HK.out.2.size))
        have HB1 := Lib.hid hb1
        clear hb1
        go_wp2_with fail
        go_loopw [6] (fun i wr => ∃ k : Nat, i = .int .i64 k ∧ k ≤ n ∧ goodE.all (ks.take k) = true ∧ Below W0.heap.size W0 wr) (fun i _ => n - (RowKit.intOf i).toNat)
        case atStart => exact ⟨0, rfl, Nat.zero_le _, by rw [List.take_zero]; rfl, HB1.out⟩
        case round =>
          obtain ⟨k, rfl, hkn, hyes, hb⟩ := hrel
          have c1' := (hb.cell (p := ⟨w.heap.size, 1, none⟩) hz0).trans c1
          have c2' := (hb.cell (p := ⟨w.heap.size, 2, none⟩) hz0).trans c2
          by_cases hlt : k < n
          · obtain ⟨f, hf⟩ : ∃ f, ks[k]? = some f := ⟨ks[k]'(by rw [HN.out]; exact hlt), List.getElem?_eq_getElem _⟩
            have i1 : (k : Int) < (n : Int) := by omega
            obtain ⟨b, o, rfl, hbl, hr⟩ := HK.out.1.r (by rintro rfl; simp at hf)
            obtain ⟨Af, capf, d0, d1, d2, hN⟩ := row_get' hr hf
            have d0' := (hb.cell (p := ⟨b, o + k * 3, none⟩) hbl).trans d0
            have d1' := (hb.cell (p := ⟨b, o + k * 3 + 1, none⟩) hbl).trans d1
            have d2' := (hb.cell (p := ⟨b, o + k * 3 + 2, none⟩) hbl).trans d2
            have hs := good_take hf
            rw [hyes, Bool.true_and] at hs
            have hC := HI.out f _ wr ((hN.below hb).mono hb.size)
            obtain ⟨q, hq⟩ : ∃ q, goodE f = q := ⟨_, rfl⟩
            rw [hq] at hC hs
            replace hC := Lib.hid hC
            have HH := Lib.hid (And.intro hs (And.intro hb hlt))
            clear hs hb hN hr hbl hq hyes d0 d1 d2
            go_wp2_with fail
            refine hC.out.mono ?_
            rintro r w2 ⟨rfl, hb2⟩
            have HB2 := Lib.hid (HH.out.2.1.trans (hb2.mono HH.out.2.1.size))
            clear hb2
            cases q
            · obtain rfl : R = false := by rw [hR2.out, good_stop HH.out.1, Bool.and_false]
              go_wp2
              go_ret
              exact ⟨rfl, HK.out.2.trans (HB2.out.mono HK.out.2.size)⟩
            · go_wp2
              go_roundw
              case rel => exact ⟨k + 1, by go_num, by omega, HH.out.1, HB2.out⟩
              case measure => simp [RowKit.intOf]; omega
          · have hkn : k = n := by omega
            subst hkn
            have i1 : ¬ (k : Int) < (k : Int) := by omega
            have ht : ks.take k = ks := by rw [← HN.out, List.take_length]
            rw [ht] at hyes
            have HY := Lib.hid (And.intro hyes (HK.out.2.trans (hb.mono HK.out.2.size)))
            clear hb ht hyes
            by_cases hq : cc = 0
            · subst hq
              obtain rfl : R = true := by rw [hR2.out, HY.out.1]; rfl
              go_wp2
              go_ret
              exact ⟨rfl, HY.out.2⟩
            · have qc : (cc == 0) = false := by simpa using hq
              obtain rfl : R = false := by rw [hR2.out, decide_eq_false hq]; rfl
              clear hq
              go_wp2
              go_ret
              exact ⟨rfl, HY.out.2⟩
      · obtain rfl : R = false := by rw [hR, decide_eq_false hn1]; simp
        clear hR
        have n1 : ((n : Int) < 2) := by omega
        go_enter Tryd.func51, Tryd.ntmps51
        go_wp2_with fail
        rw [HW.out]
        refine HC.out.mono ?_
        rintro r w1 ⟨rfl, hb1⟩
        have c0' := (hb1.cell (p := ⟨w.heap.size, 0, none⟩) hz0).trans c0
        have c1' := (hb1.cell (p := ⟨w.heap.size, 1, none⟩) hz0).trans c1
        have c2' := (hb1.cell (p := ⟨w.heap.size, 2, none⟩) hz0).trans c2
        have HZ := Lib.hid (HK.out.2.trans (hb1.mono HK.out.2.size))
        clear hb1
        go_wp2
        go_ret
        exact ⟨rfl, HZ.out⟩
    · have hR : R = (decide (cc = 0) && decide (2 ≤ n) && goodE.all ks) := HS.out
      by_cases hn1 : 2 ≤ n
      · have hR2 := Lib.hid (show R = (decide (cc = 0) && goodE.all ks) by rw [hR, decide_eq_true hn1, Bool.and_true])
        clear hR
        have n1 : decide ((n : Int) < 2) = false := by simp; omega
        go_enter Tryd.func51, Tryd.ntmps51
        go_wp2_with fail
        rw [HW.out]
        refine HC.out.mono ?_
        rintro r w1 ⟨rfl, hb1⟩
        have c0' := (hb1.cell (p := ⟨w.heap.size, 0, none⟩) hz0).trans c0
        have c1' := (hb1.cell (p := ⟨w.heap.size, 1, none⟩) hz0).trans c1
        have c2' := (hb1.cell (p := ⟨w.heap.size, 2, none⟩) hz0).trans c2
        have HZ := Lib.hid (HK.out.2.trans (hb1.mono HK.out.2.size))
        have HB1 := Lib.hid hb1
        clear hb1
        go_wp2_with fail
        go_loopw [6] (fun i wr => ∃ k : Nat, i = .int .i64 k ∧ k ≤ n ∧ goodE.all (ks.take k) = true ∧ Below W0.heap.size W0 wr) (fun i _ => n - (RowKit.intOf i).toNat)
        case atStart => exact ⟨0, rfl, Nat.zero_le _, by rw [List.take_zero]; rfl, HB1.out⟩
        case round =>
          obtain ⟨k, rfl, hkn, hyes, hb⟩ := hrel
          have c1' := (hb.cell (p := ⟨w.heap.size, 1, none⟩) hz0).trans c1
          have c2' := (hb.cell (p := ⟨w.heap.size, 2, none⟩) hz0).trans c2
          by_cases hlt : k < n
          · obtain ⟨f, hf⟩ : ∃ f, ks[k]? = some f := ⟨ks[k]'(by rw [HN.out]; exact hlt), List.getElem?_eq_getElem _⟩
            have i1 : (k : Int) < (n : Int) := by omega
            obtain ⟨b, o, rfl, hbl, hr⟩ := HK.out.1.r (by rintro rfl; simp at hf)
            obtain ⟨Af, capf, d0, d1, d2, hN⟩ := row_get' hr hf
            have d0' := (hb.cell (p := ⟨b, o + k * 3, none⟩) hbl).trans d0
            have d1' := (hb.cell (p := ⟨b, o + k * 3 + 1, none⟩) hbl).trans d1
            have d2' := (hb.cell (p := ⟨b, o + k * 3 + 2, none⟩) hbl).trans d2
            have hs := good_take hf
            rw [hyes, Bool.true_and] at hs
            have hC := HI.out f _ wr ((hN.below hb).mono hb.size)
            obtain ⟨q, hq⟩ : ∃ q, goodE f = q := ⟨_, rfl⟩
            rw [hq] at hC hs
            replace hC := Lib.hid hC
            have HH := Lib.hid (And.intro hs (And.intro hb hlt))
            clear hs hb hN hr hbl hq hyes d0 d1 d2
            go_wp2_with fail
            refine hC.out.mono ?_
            rintro r w2 ⟨rfl, hb2⟩
            have HB2 := Lib.hid (HH.out.2.1.trans (hb2.mono HH.out.2.1.size))
            clear hb2
            cases q
            · obtain rfl : R = false := by rw [hR2.out, good_stop HH.out.1, Bool.and_false]
              go_wp2
              go_ret
              exact ⟨rfl, HK.out.2.trans (HB2.out.mono HK.out.2.size)⟩
            · go_wp2
              go_roundw
              case rel => exact ⟨k + 1, by go_num, by omega, HH.out.1, HB2.out⟩
              case measure => simp [RowKit.intOf]; omega
          · have hkn : k = n := by omega
            subst hkn
            have i1 : ¬ (k : Int) < (k : Int) := by omega
            have ht : ks.take k = ks := by rw [← HN.out, List.take_length]
            rw [ht] at hyes
            have HY := Lib.hid (And.intro hyes (HK.out.2.trans (hb.mono HK.out.2.size)))
            clear hb ht hyes
            by_cases hq : cc = 0
            · subst hq
              obtain rfl : R = true := by rw [hR2.out, HY.out.1]; rfl
              go_wp2
              go_ret
              exact ⟨rfl, HY.out.2⟩
            · have qc : (cc == 0) = false := by simpa using hq
              obtain rfl : R = false := by rw [hR2.out, decide_eq_false hq]; rfl
              clear hq
              go_wp2
              go_ret
              exact ⟨rfl, HY.out.2⟩
      · obtain rfl : R = false := by rw [hR, decide_eq_false hn1]; simp
        clear hR
        have n1 : ((n : Int) < 2) := by omega
        go_enter Tryd.func51, Tryd.ntmps51
        go_wp2_with fail
        rw [HW.out]
        refine HC.out.mono ?_
        rintro r w1 ⟨rfl, hb1⟩
        have c0' := (hb1.cell (p := ⟨w.heap.size, 0, none⟩) hz0).trans c0
        have c1' := (hb1.cell (p := ⟨w.heap.size, 1, none⟩) hz0).trans c1
        have c2' := (hb1.cell (p := ⟨w.heap.size, 2, none⟩) hz0).trans c2
        have HZ := Lib.hid (HK.out.2.trans (hb1.mono HK.out.2.size))
        clear hb1
        go_wp2
        go_ret
        exact ⟨rfl, HZ.out⟩
    · have hR : R = (decide (cc = 0) && decide (n = 1) && goodE.all ks) := HS.out
      by_cases hn1 : n = 1
      · have hR2 := Lib.hid (show R = (decide (cc = 0) && goodE.all ks) by rw [hR, decide_eq_true hn1, Bool.and_true])
        clear hR
        subst hn1
        go_enter Tryd.func51, Tryd.ntmps51
        go_wp2_with fail
        rw [HW.out]
        refine HC.out.mono ?_
        rintro r w1 ⟨rfl, hb1⟩
        have c0' := (hb1.cell (p := ⟨w.heap.size, 0, none⟩) hz0).trans c0
        have c1' := (hb1.cell (p := ⟨w.heap.size, 1, none⟩) hz0).trans c1
        have c2' := (hb1.cell (p := ⟨w.heap.size, 2, none⟩) hz0).trans c2
        have HZ := Lib.hid (HK.out.2.trans (hb1.mono HK.out.2.size))
        have HB1 := Lib.hid hb1
        clear hb1
        go_wp2_with fail
        go_loopw [6] (fun i wr => ∃ k : Nat, i = .int .i64 k ∧ k ≤ 1 ∧ goodE.all (ks.take k) = true ∧ Below W0.heap.size W0 wr) (fun i _ => 1 - (RowKit.intOf i).toNat)
        case atStart => exact ⟨0, rfl, Nat.zero_le _, by rw [List.take_zero]; rfl, HB1.out⟩
        case round =>
          obtain ⟨k, rfl, hkn, hyes, hb⟩ := hrel
          have c1' := (hb.cell (p := ⟨w.heap.size, 1, none⟩) hz0).trans c1
          have c2' := (hb.cell (p := ⟨w.heap.size, 2, none⟩) hz0).trans c2
          by_cases hlt : k < 1
          · obtain ⟨f, hf⟩ : ∃ f, ks[k]? = some f := ⟨ks[k]'(by rw [HN.out]; exact hlt), List.getElem?_eq_getElem _⟩
            have i1 : (k : Int) < (1 : Int) := by omega
            obtain ⟨b, o, rfl, hbl, hr⟩ := HK.out.1.r (by rintro rfl; simp at hf)
            obtain ⟨Af, capf, d0, d1, d2, hN⟩ := row_get' hr hf
            have d0' := (hb.cell (p := ⟨b, o + k * 3, none⟩) hbl).trans d0
            have d1' := (hb.cell (p := ⟨b, o + k * 3 + 1, none⟩) hbl).trans d1
            have d2' := (hb.cell (p := ⟨b, o + k * 3 + 2, none⟩) hbl).trans d2
            have hs := good_take hf
            rw [hyes, Bool.true_and] at hs
            have hC := HI.out f _ wr ((hN.below hb).mono hb.size)
            obtain ⟨q, hq⟩ : ∃ q, goodE f = q := ⟨_, rfl⟩
            rw [hq] at hC hs
            replace hC := Lib.hid hC
            have HH := Lib.hid (And.intro hs (And.intro hb hlt))
            clear hs hb hN hr hbl hq hyes d0 d1 d2
            go_wp2_with fail
            refine hC.out.mono ?_
            rintro r w2 ⟨rfl, hb2⟩
            have HB2 := Lib.hid (HH.out.2.1.trans (hb2.mono HH.out.2.1.size))
            clear hb2
            cases q
            · obtain rfl : R = false := by rw [hR2.out, good_stop HH.out.1, Bool.and_false]
              go_wp2
              go_ret
              exact ⟨rfl, HK.out.2.trans (HB2.out.mono HK.out.2.size)⟩
            · go_wp2
              go_roundw
              case rel => exact ⟨k + 1, by go_num, by omega, HH.out.1, HB2.out⟩
              case measure => simp [RowKit.intOf]; omega
          · have hkn : k = 1 := by omega
            subst hkn
            have ht : ks.take 1 = ks := List.take_of_length_le (by rw [HN.out]; omega)
            rw [ht] at hyes
            have HY := Lib.hid (And.intro hyes (HK.out.2.trans (hb.mono HK.out.2.size)))
            clear hb ht hyes
            by_cases hq : cc = 0
            · subst hq
              obtain rfl : R = true := by rw [hR2.out, HY.out.1]; rfl
              go_wp2
              go_ret
              exact ⟨rfl, HY.out.2⟩
            · have qc : (cc == 0) = false := by simpa using hq
              obtain rfl : R = false := by rw [hR2.out, decide_eq_false hq]; rfl
              clear hq
              go_wp2
              go_ret
              exact ⟨rfl, HY.out.2⟩
      · obtain rfl : R = false := by rw [hR, decide_eq_false hn1]; simp
        clear hR
        have n1 : ((n : Int) == 1) = false := by simp; omega
        have n1b : ((n : Int) != 1) = true := by simp; omega
        go_enter Tryd.func51, Tryd.ntmps51
        go_wp2_with fail
        rw [HW.out]
        refine HC.out.mono ?_
        rintro r w1 ⟨rfl, hb1⟩
        have c0' := (hb1.cell (p := ⟨w.heap.size, 0, none⟩) hz0).trans c0
        have c1' := (hb1.cell (p := ⟨w.heap.size, 1, none⟩) hz0).trans c1
        have c2' := (hb1.cell (p := ⟨w.heap.size, 2, none⟩) hz0).trans c2
        have HZ := Lib.hid (HK.out.2.trans (hb1.mono HK.out.2.size))
        clear hb1
        go_wp2
        go_ret
        exact ⟨rfl, HZ.out⟩
    · have hR : R = (decide (cc = 0) && decide (n = 1) && goodE.all ks) := HS.out
      by_cases hn1 : n = 1
      · have hR2 := Lib.hid (show R = (decide (cc = 0) && goodE.all ks) by rw [hR, decide_eq_true hn1, Bool.and_true])
        clear hR
        subst hn1
        go_enter Tryd.func51, Tryd.ntmps51
        go_wp2_with fail
        rw [HW.out]
        refine HC.out.mono ?_
        rintro r w1 ⟨rfl, hb1⟩
        have c0' := (hb1.cell (p := ⟨w.heap.size, 0, none⟩) hz0).trans c0
        have c1' := (hb1.cell (p := ⟨w.heap.size, 1, none⟩) hz0).trans c1
        have c2' := (hb1.cell (p := ⟨w.heap.size, 2, none⟩) hz0).trans c2
        have HZ := Lib.hid (HK.out.2.trans (hb1.mono HK.out.2.size))
        have HB1 := Lib.hid hb1
        clear hb1
        go_wp2_with fail
        go_loopw [6] (fun i wr => ∃ k : Nat, i = .int .i64 k ∧ k ≤ 1 ∧ goodE.all (ks.take k) = true ∧ Below W0.heap.size W0 wr) (fun i _ => 1 - (RowKit.intOf i).toNat)
        case atStart => exact ⟨0, rfl, Nat.zero_le _, by rw [List.take_zero]; rfl, HB1.out⟩
        case round =>
          obtain ⟨k, rfl, hkn, hyes, hb⟩ := hrel
          have c1' := (hb.cell (p := ⟨w.heap.size, 1, none⟩) hz0).trans c1
          have c2' := (hb.cell (p := ⟨w.heap.size, 2, none⟩) hz0).trans c2
          by_cases hlt : k < 1
          · obtain ⟨f, hf⟩ : ∃ f, ks[k]? = some f := ⟨ks[k]'(by rw [HN.out]; exact hlt), List.getElem?_eq_getElem _⟩
            have i1 : (k : Int) < (1 : Int) := by omega
            obtain ⟨b, o, rfl, hbl, hr⟩ := HK.out.1.r (by rintro rfl; simp at hf)
            obtain ⟨Af, capf, d0, d1, d2, hN⟩ := row_get' hr hf
            have d0' := (hb.cell (p := ⟨b, o + k * 3, none⟩) hbl).trans d0
            have d1' := (hb.cell (p := ⟨b, o + k * 3 + 1, none⟩) hbl).trans d1
            have d2' := (hb.cell (p := ⟨b, o + k * 3 + 2, none⟩) hbl).trans d2
            have hs := good_take hf
            rw [hyes, Bool.true_and] at hs
            have hC := HI.out f _ wr ((hN.below hb).mono hb.size)
            obtain ⟨q, hq⟩ : ∃ q, goodE f = q := ⟨_, rfl⟩
            rw [hq] at hC hs
            replace hC := Lib.hid hC
            have HH := Lib.hid (And.intro hs (And.intro hb hlt))
            clear hs hb hN hr hbl hq hyes d0 d1 d2
            go_wp2_with fail
            refine hC.out.mono ?_
            rintro r w2 ⟨rfl, hb2⟩
            have HB2 := Lib.hid (HH.out.2.1.trans (hb2.mono HH.out.2.1.size))
            clear hb2
            cases q
            · obtain rfl : R = false := by rw [hR2.out, good_stop HH.out.1, Bool.and_false]
              go_wp2
              go_ret
              exact ⟨rfl, HK.out.2.trans (HB2.out.mono HK.out.2.size)⟩
            · go_wp2
              go_roundw
              case rel => exact ⟨k + 1, by go_num, by omega, HH.out.1, HB2.out⟩
              case measure => simp [RowKit.intOf]; omega
          · have hkn : k = 1 := by omega
            subst hkn
            have ht : ks.take 1 = ks := List.take_of_length_le (by rw [HN.out]; omega)
            rw [ht] at hyes
            have HY := Lib.hid (And.intro hyes (HK.out.2.trans (hb.mono HK.out.2.size)))
            clear hb ht hyes
            by_cases hq : cc = 0
            · subst hq
              obtain rfl : R = true := by rw [hR2.out, HY.out.1]; rfl
              go_wp2
              go_ret
              exact ⟨rfl, HY.out.2⟩
            · have qc : (cc == 0) = false := by simpa using hq
              obtain rfl : R = false := by rw [hR2.out, decide_eq_false hq]; rfl
              clear hq
              go_wp2
              go_ret
              exact ⟨rfl, HY.out.2⟩
      · obtain rfl : R = false := by rw [hR, decide_eq_false hn1]; simp
        clear hR
        have n1 : ((n : Int) == 1) = false := by simp; omega
        have n1b : ((n : Int) != 1) = true := by simp; omega
        go_enter Tryd.func51, Tryd.ntmps51
        go_wp2_with fail
        rw [HW.out]
        refine HC.out.mono ?_
        rintro r w1 ⟨rfl, hb1⟩
        have c0' := (hb1.cell (p := ⟨w.heap.size, 0, none⟩) hz0).trans c0
        have c1' := (hb1.cell (p := ⟨w.heap.size, 1, none⟩) hz0).trans c1
        have c2' := (hb1.cell (p := ⟨w.heap.size, 2, none⟩) hz0).trans c2
        have HZ := Lib.hid (HK.out.2.trans (hb1.mono HK.out.2.size))
        clear hb1
        go_wp2
        go_ret
        exact ⟨rfl, HZ.out⟩
    · have hR : R = (decide (cc = 0) && decide (n = 1) && goodE.all ks) := HS.out
      by_cases hn1 : n = 1
      · have hR2 := Lib.hid (show R = (decide (cc = 0) && goodE.all ks) by rw [hR, decide_eq_true hn1, Bool.and_true])
        clear hR
        subst hn1
        go_enter Tryd.func51, Tryd.ntmps51
        go_wp2_with fail
        rw [HW.out]
        refine HC.out.mono ?_
        rintro r w1 ⟨rfl, hb1⟩
        have c0' := (hb1.cell (p := ⟨w.heap.size, 0, none⟩) hz0).trans c0
        have c1' := (hb1.cell (p := ⟨w.heap.size, 1, none⟩) hz0).trans c1
        have c2' := (hb1.cell (p := ⟨w.heap.size, 2, none⟩) hz0).trans c2
        have HZ := Lib.hid (HK.out.2.trans (hb1.mono HK.out.2.size))
        have HB1 := Lib.hid hb1
        clear hb1
        go_wp2_with fail
        go_loopw [6] (fun i wr => ∃ k : Nat, i = .int .i64 k ∧ k ≤ 1 ∧ goodE.all (ks.take k) = true ∧ Below W0.heap.size W0 wr) (fun i _ => 1 - (RowKit.intOf i).toNat)
        case atStart => exact ⟨0, rfl, Nat.zero_le _, by rw [List.take_zero]; rfl, HB1.out⟩
        case round =>
          obtain ⟨k, rfl, hkn, hyes, hb⟩ := hrel
          have c1' := (hb.cell (p := ⟨w.heap.size, 1, none⟩) hz0).trans c1
          have c2' := (hb.cell (p := ⟨w.heap.size, 2, none⟩) hz0).trans c2
          by_cases hlt : k < 1
          · obtain ⟨f, hf⟩ : ∃ f, ks[k]? = some f := ⟨ks[k]'(by rw [HN.out]; exact hlt), List.getElem?_eq_getElem _⟩
            have i1 : (k : Int) < (1 : Int) := by omega
            obtain ⟨b, o, rfl, hbl, hr⟩ := HK.out.1.r (by rintro rfl; simp at hf)
            obtain ⟨Af, capf, d0, d1, d2, hN⟩ := row_get' hr hf
            have d0' := (hb.cell (p := ⟨b, o + k * 3, none⟩) hbl).trans d0
            have d1' := (hb.cell (p := ⟨b, o + k * 3 + 1, none⟩) hbl).trans d1
            have d2' := (hb.cell (p := ⟨b, o + k * 3 + 2, none⟩) hbl).trans d2
            have hs := good_take hf
            rw [hyes, Bool.true_and] at hs
            have hC := HI.out f _ wr ((hN.below hb).mono hb.size)
            obtain ⟨q, hq⟩ : ∃ q, goodE f = q := ⟨_, rfl⟩
            rw [hq] at hC hs
            replace hC := Lib.hid hC
            have HH := Lib.hid (And.intro hs (And.intro hb hlt))
            clear hs hb hN hr hbl hq hyes d0 d1 d2
            go_wp2_with fail
            refine hC.out.mono ?_
            rintro r w2 ⟨rfl, hb2⟩
            have HB2 := Lib.hid (HH.out.2.1.trans (hb2.mono HH.out.2.1.size))
            clear hb2
            cases q
            · obtain rfl : R = false := by rw [hR2.out, good_stop HH.out.1, Bool.and_false]
              go_wp2
              go_ret
              exact ⟨rfl, HK.out.2.trans (HB2.out.mono HK.out.2.size)⟩
            · go_wp2
              go_roundw
              case rel => exact ⟨k + 1, by go_num, by omega, HH.out.1, HB2.out⟩
              case measure => simp [RowKit.intOf]; omega
          · have hkn : k = 1 := by omega
            subst hkn
            have ht : ks.take 1 = ks := List.take_of_length_le (by rw [HN.out]; omega)
            rw [ht] at hyes
            have HY := Lib.hid (And.intro hyes (HK.out.2.trans (hb.mono HK.out.2.size)))
            clear hb ht hyes
            by_cases hq : cc = 0
            · subst hq
              obtain rfl : R = true := by rw [hR2.out, HY.out.1]; rfl
              go_wp2
              go_ret
              exact ⟨rfl, HY.out.2⟩
            · have qc : (cc == 0) = false := by simpa using hq
              obtain rfl : R = false := by rw [hR2.out, decide_eq_false hq]; rfl
              clear hq
              go_wp2
              go_ret
              exact ⟨rfl, HY.out.2⟩
      · obtain rfl : R = false := by rw [hR, decide_eq_false hn1]; simp
        clear hR
        have n1 : ((n : Int) == 1) = false := by simp; omega
        have n1b : ((n : Int) != 1) = true := by simp; omega
        go_enter Tryd.func51, Tryd.ntmps51
        go_wp2_with fail
        rw [HW.out]
        refine HC.out.mono ?_
        rintro r w1 ⟨rfl, hb1⟩
        have c0' := (hb1.cell (p := ⟨w.heap.size, 0, none⟩) hz0).trans c0
        have c1' := (hb1.cell (p := ⟨w.heap.size, 1, none⟩) hz0).trans c1
        have c2' := (hb1.cell (p := ⟨w.heap.size, 2, none⟩) hz0).trans c2
        have HZ := Lib.hid (HK.out.2.trans (hb1.mono HK.out.2.size))
        clear hb1
        go_wp2
        go_ret
        exact ⟨rfl, HZ.out⟩
end Go.Proofs.YtmldgfplnacecaaDoor

namespace Go.Proofs.YtmldgfplnacecaaDoor
open Go.RowKit Go.Shelf Go.Lib

def ToLOk (w : World) (ks : List E) (r : Ending) (w' : World) : Prop := ∃ A cap, r = .returned (.slice A ks.length cap) ∧ KsP w' (fun b => w.heap.size ≤ b ∧ b < w'.heap.size) ks A cap ∧ Below w.heap.size w w'
theorem len_le_szL : ∀ l : List E, l.length ≤ szL l := by
  intro l
  induction l with
  | nil => simp
  | cons a r ih2 => have := szE_pos a; simp only [szL, szE.szL, List.length_cons] at *; omega
set_option maxHeartbeats 8000000 in
set_option maxRecDepth 100000 in
theorem toL_any (ks : List E) (hz : szL ks ≤ 100000) (A : Option Addr) (cap : Nat) (w : World) (h : KsAt w w.heap.size ks A cap) : Calls Tryd.prog 14 #[.slice A ks.length cap] w (ToLOk w ks) := by
  obtain ⟨i0, hi, hz0, hz1, hz2⟩ := info_parts info52
  have hln : ks.length ≤ 100000 := Nat.le_trans (len_le_szL ks) hz
  obtain ⟨n, hn⟩ : ∃ n, ks.length = n := ⟨_, rfl⟩
  have HN := Lib.hid hn
  have HA := Lib.hid (And.intro h hz)
  rw [hn] at hln ⊢
  clear hn h hz
  go_enter Tryd.func14, Tryd.ntmps14
  go_wp2_with fail
  go_loopw [3, 4] (fun u v wr => ∃ (j : Nat) (cs : List Value), v = .int .i64 (j : Int) ∧ j ≤ n ∧ Below w.heap.size w wr ∧ wr.ownsRow w.heap.size 91 3 u j cs ∧ Kids wr w.heap.size u ks j cs) (fun _ v _ => n - (RowKit.intOf v).toNat)
  case atStart => exact ⟨0, [], rfl, by omega, Below.refl _ _, World.ownsRow_nil _ _ _ _, rfl, fun i f hi => by omega⟩
  case round =>
    obtain ⟨j, cs, rfl, hj, hb, hown, hkids⟩ := hrel
    by_cases hlt : j < n
    · have i1 : (j : Int) < (n : Int) := by omega
      obtain ⟨f, hf⟩ : ∃ f, ks[j]? = some f := ⟨ks[j]'(by rw [HN.out]; exact hlt), List.getElem?_eq_getElem _⟩
      obtain ⟨b, o, rfl, hbl, hr⟩ := HA.out.1.r (by rintro rfl; simp at hf)
      obtain ⟨A', cap', c0, c1, c2, hNd⟩ := row_get' hr hf
      have d0 := (hb.cell (p := ⟨b, o + j * 3, none⟩) hbl).trans c0
      have d1 := (hb.cell (p := ⟨b, o + j * 3 + 1, none⟩) hbl).trans c1
      have d2 := (hb.cell (p := ⟨b, o + j * 3 + 2, none⟩) hbl).trans c2
      have hsf := szL_mem (List.mem_of_getElem? hf)
      have hC := Lib.hid (to_any _ f (Nat.le_refl _) (by have := HA.out.2; omega) (.agg #[.int .i64 f.k, .int .i64 f.c, .slice A' f.ks.length cap']) wr ((hNd.below hb).mono hb.size))
      have HK := Lib.hid (And.intro hb (And.intro hown (And.intro hkids hf)))
      clear hb hown hkids hf hr c0 c1 c2 hNd hsf
      go_wp2_with fail
      refine hC.out.mono ?_
      rintro r W5 ⟨v5, rfl, hN5, hb5⟩
      obtain ⟨_, _, A5, c5, rfl, _⟩ := NdP_iff.1 hN5
      have ho5 := ownsRow_below HK.out.2.1 hb5
      have hbw5 := HK.out.1.trans (hb5.mono HK.out.1.size)
      have NB := World.news_of_block (heap_alloc_new W5 (.cells #[.int .i64 f.k, .int .i64 f.c, .slice A5 f.ks.length c5] 91))
      have H5 := Lib.hid (And.intro hN5 (And.intro hb5 (And.intro ho5 (And.intro hbw5 NB))))
      clear hN5 hb5 ho5 hbw5 NB d0 d1 d2
      go_wp2_with (first
        | (at_builtin; refine wpList_append_lies _ rfl _ _ 30 rfl w.heap.size 91 i0 _ 3 40 Tryd.underlying30 hi hz0 hz1 hz2 rfl (by omega) _ j cs rfl (H5.out.2.2.1.alloc _) ⟨W5.heap.size, 0, none⟩ 1 1 [.int .i64 f.k, .int .i64 f.c, .slice A5 f.ks.length c5] rfl rfl H5.out.2.2.2.2 (by simp [Value.oneCell']) (by omega) (by unfold maxLen; omega) (by omega) (by have := H5.out.2.2.2.1.size; simp; omega) (W5.heap.size + 1) (by simp) ?_)
        | fail)
      intro g cap1 W7 hown7 hgrow7 hat7 hlt7
      have hgr57 : W5.grownBy W7 (Value.ownBlock _) := ⟨hgrow7.os, hgrow7.tape, hgrow7.output, by have := hgrow7.size; simp at this; omega, fun k hk hn => (hgrow7.block k (by simp; omega) hn).trans (Below.heap_alloc _ _ _ hk)⟩
      have hk7 := Kids.step (g := g) (v7 := .slice (some ⟨g, 0, none⟩) (j + 1) cap1) HK.out.2.2.1 HK.out.2.2.2 (fun b hb => (HK.out.2.1.lt b hb).2) H5.out.1 H5.out.2.1 HK.out.1.size hgr57 rfl (by rcases hat7 with h | h; exact .inl h; exact .inr (by omega))
      have hb7 : Below w.heap.size w W7 := H5.out.2.2.2.1.grown hgr57 H5.out.2.2.2.1.size (fun k hk => (H5.out.2.2.1.lt k hk).1)
      have hend : ∃ (j' : Nat) (cs' : List Value), Value.int .i64 ((j : Int) + 1) = .int .i64 (j' : Int) ∧ j' ≤ n ∧ Below w.heap.size w W7 ∧ W7.ownsRow w.heap.size 91 3 (.slice (some ⟨g, 0, none⟩) (j + 1) cap1) j' cs' ∧ Kids W7 w.heap.size (.slice (some ⟨g, 0, none⟩) (j + 1) cap1) ks j' cs' := ⟨j + 1, _, by simp, by omega, hb7, hown7, hk7⟩
      have HEND := Lib.hid hend
      clear hown7 hgrow7 hat7 hlt7 hgr57 hk7 hb7 hend
      go_wp2_with fail
      go_roundw
      case rel => exact HEND.out
      case measure => simp [RowKit.intOf]; omega
    · obtain rfl : j = n := by omega
      have i1 : ¬ (j : Int) < (j : Int) := by omega
      have hown' : wr.ownsRow w.heap.size 91 3 u3 ks.length cs := by rw [HN.out]; exact hown
      have hkids' : Kids wr w.heap.size u3 ks ks.length cs := by rw [HN.out]; exact hkids
      obtain ⟨A6, c6, rfl, hkp⟩ := hkids'.full hown'
      have HK := Lib.hid (And.intro hb hkp)
      clear hb hown hkids hown' hkids' hkp
      go_wp2_with fail
      go_ret
      exact ⟨A6, c6, rfl, HK.out.2, HK.out.1⟩
end Go.Proofs.YtmldgfplnacecaaDoor

namespace Go.Proofs.YtmldgfplnacecaaDoor
open Go.RowKit Go.Shelf Go.Lib

set_option maxHeartbeats 4000000 in
set_option maxRecDepth 100000 in
theorem over_any (ks : List E) (A : Option Addr) (cap : Nat) (w : World) (h : KsAt w w.heap.size ks A cap) : Calls Tryd.prog 25 #[.slice A ks.length cap, .int .i64 80] w fun r w' => r = .returned (.bool (decide (80 < szL ks))) ∧ Below w.heap.size w w' := by
  have hln : ks.length ≤ 9223372036854775807 := by have := h.l; have := h.m; unfold maxLen at this; omega
  obtain ⟨R, hR⟩ : ∃ R, decide (80 < szL ks) = R := ⟨_, rfl⟩
  rw [hR]
  have HR := Lib.hid hR
  obtain ⟨n, hn⟩ : ∃ n, ks.length = n := ⟨_, rfl⟩
  have HN := Lib.hid hn
  have HK := Lib.hid h
  rw [hn] at hln ⊢
  clear hn h hR
  go_enter Tryd.func25, Tryd.ntmps25
  go_wp2_with fail
  go_loopw [5, 6] (fun s i wr => ∃ k t : Nat, i = .int .i64 k ∧ k ≤ n ∧ s = .int .i64 (t : Int) ∧ t ≤ 200 ∧ (t ≤ 80 → t = szL (ks.take k)) ∧ (80 < t → R = true) ∧ Below w.heap.size w wr) (fun _ i _ => n - (RowKit.intOf i).toNat)
  case atStart => exact ⟨0, 0, rfl, Nat.zero_le _, rfl, by omega, fun _ => by simp [szL, szE.szL], fun h => by omega, Below.refl _ _⟩
  case round =>
    obtain ⟨k, t, rfl, hkn, rfl, ht, hte, htr, hb⟩ := hrel
    by_cases hlt : k < n
    · have i1 : (k : Int) < (n : Int) := by omega
      by_cases h80 : t ≤ 80
      · have i2 : (t : Int) ≤ 80 := by omega
        obtain ⟨f, hf⟩ : ∃ f, ks[k]? = some f := ⟨ks[k]'(by rw [HN.out]; exact hlt), List.getElem?_eq_getElem _⟩
        obtain ⟨b, o, rfl, hbl, hr⟩ := HK.out.r (by rintro rfl; simp at hf)
        obtain ⟨A', cap', c0, c1, c2, hNd⟩ := row_get' hr hf
        have d0 := (hb.cell (p := ⟨b, o + k * 3, none⟩) hbl).trans c0
        have d1 := (hb.cell (p := ⟨b, o + k * 3 + 1, none⟩) hbl).trans c1
        have d2 := (hb.cell (p := ⟨b, o + k * 3 + 2, none⟩) hbl).trans c2
        have hC := size_any _ f (Nat.le_refl _) (.agg #[.int .i64 f.k, .int .i64 f.c, .slice A' f.ks.length cap']) 80 wr ((hNd.below hb).mono hb.size) (by omega)
        have hs := szL_take hf
        have hle := szL_take_le ks (k + 1)
        have hte' := hte h80
        obtain ⟨z, hz⟩ : ∃ z, min (szE f) (80 + 1) = z := ⟨_, rfl⟩
        rw [hz] at hC
        have hC := Lib.hid hC
        have hzb : z ≤ 81 := by omega
        have hn1 : t + z ≤ 80 → t + z = szL (ks.take (k + 1)) := by intro h; omega
        have hn2 : 80 < t + z → R = true := by
          intro h
          rw [← HR.out]
          simp only [decide_eq_true_eq]
          omega
        have hw : wrap64 ((t : Int) + (z : Int)) = (t : Int) + (z : Int) := by unfold wrap64; omega
        have HH := Lib.hid (And.intro hb (And.intro hn1 (And.intro hn2 (And.intro hw hzb))))
        clear hb hn1 hn2 hs hle hte hte' htr hz c0 c1 c2 hNd hr hf
        go_wp2_with fail
        refine hC.out.mono ?_
        rintro r w2 ⟨rfl, hb2⟩
        have HB := Lib.hid (HH.out.1.trans (hb2.mono HH.out.1.size))
        clear hb2 d0 d1 d2
        go_wp2_with fail
        go_roundw
        case rel => exact ⟨k + 1, t + z, by go_num, by omega, by first | (rw [HH.out.2.2.2.1]; simp) | go_num, by have := HH.out.2.2.2.2; omega, HH.out.2.1, HH.out.2.2.1, HB.out⟩
        case measure => simp [RowKit.intOf]; omega
      · have i2 : decide ((t : Int) ≤ 80) = false := by simp; omega
        have i3 : (80 : Int) < (t : Int) := by omega
        obtain rfl : R = true := htr (by omega)
        have HB := Lib.hid hb
        clear hb hte htr
        go_wp2_with fail
        go_ret
        exact ⟨rfl, HB.out⟩
    · obtain rfl : k = n := by omega
      have i1 : decide ((k : Int) < (k : Int)) = false := by simp
      have ht2 : ks.take k = ks := by rw [← HN.out, List.take_length]
      rw [ht2] at hte
      have hfin : R = decide ((80 : Int) < (t : Int)) := by
        rw [← HR.out]
        congr 1
        apply propext
        constructor
        · intro h
          by_cases h80 : t ≤ 80
          · have := hte h80; omega
          · omega
        · intro h
          have := htr (by omega)
          rw [← HR.out] at this
          simpa using this
      have HF := Lib.hid hfin
      have HB := Lib.hid hb
      clear hb hte htr hfin ht2
      go_wp2_with fail
      go_ret
      exact ⟨by rw [HF.out]; rfl, HB.out⟩
set_option maxHeartbeats 4000000 in
set_option maxRecDepth 100000 in
theorem great_any (ks : List E) (A : Option Addr) (cap : Nat) (w : World) (h : KsAt w w.heap.size ks A cap) : Calls Tryd.prog 11 #[.slice A ks.length cap] w fun r w' => r = .returned (.bool (decide (80 < szL ks))) ∧ Below w.heap.size w w' := by
  have C := Lib.hid (over_any ks A cap w h)
  clear h
  generalize decide (80 < szL ks) = R at *
  go_enter Tryd.func11, Tryd.ntmps11
  go_wp2_with fail
  refine C.out.mono ?_
  rintro r w2 ⟨rfl, hb⟩
  have HB := Lib.hid hb
  clear hb
  go_wp2_with fail
  go_ret
  exact ⟨rfl, HB.out⟩
set_option maxHeartbeats 4000000 in
set_option maxRecDepth 100000 in
theorem allRight_any (ks : List E) (A : Option Addr) (cap : Nat) (w : World) (h : KsAt w w.heap.size ks A cap) (hz : szL ks ≤ 100000) : Calls Tryd.prog 15 #[.slice A ks.length cap] w fun r w' => r = .returned (.bool (ks.all rightE && decide (ks.length ≤ 40))) ∧ Below w.heap.size w w' := by
  have hln : ks.length ≤ 9223372036854775807 := by have := h.l; have := h.m; unfold maxLen at this; omega
  obtain ⟨R, hR⟩ : ∃ R, (ks.all rightE && decide (ks.length ≤ 40)) = R := ⟨_, rfl⟩
  rw [hR]
  have HR := Lib.hid hR
  obtain ⟨n, hn⟩ : ∃ n, ks.length = n := ⟨_, rfl⟩
  have HN := Lib.hid hn
  have HK := Lib.hid (And.intro h hz)
  rw [hn] at hln ⊢
  clear hn h hR hz
  go_enter Tryd.func15, Tryd.ntmps15
  go_wp2_with fail
  go_loopw [3] (fun i wr => ∃ k : Nat, i = .int .i64 k ∧ k ≤ n ∧ (ks.take k).all rightE = true ∧ Below w.heap.size w wr) (fun i _ => n - (RowKit.intOf i).toNat)
  case atStart => exact ⟨0, rfl, Nat.zero_le _, rfl, Below.refl _ _⟩
  case round =>
    obtain ⟨k, rfl, hkn, hall, hb⟩ := hrel
    by_cases hlt : k < n
    · obtain ⟨f, hf⟩ : ∃ f, ks[k]? = some f := ⟨ks[k]'(by rw [HN.out]; exact hlt), List.getElem?_eq_getElem _⟩
      have i1 : (k : Int) < (n : Int) := by omega
      obtain ⟨b, o, rfl, hbl, hr⟩ := HK.out.1.r (by rintro rfl; simp at hf)
      obtain ⟨A', cap', c0, c1, c2, hNd⟩ := row_get' hr hf
      have d0 := (hb.cell (p := ⟨b, o + k * 3, none⟩) hbl).trans c0
      have d1 := (hb.cell (p := ⟨b, o + k * 3 + 1, none⟩) hbl).trans c1
      have d2 := (hb.cell (p := ⟨b, o + k * 3 + 2, none⟩) hbl).trans c2
      have hsf := szL_mem (List.mem_of_getElem? hf)
      have hC := Lib.hid (refRight_any f (.agg #[.int .i64 f.k, .int .i64 f.c, .slice A' f.ks.length cap']) wr ((hNd.below hb).mono hb.size))
      have HH := Lib.hid (And.intro hf (And.intro hb hall))
      clear c0 c1 c2 hNd hr hb hall hf
      go_wp2_with fail
      refine hC.out.mono ?_
      rintro r w2 ⟨rfl, hb2⟩
      have HB := Lib.hid (HH.out.2.1.trans (hb2.mono HH.out.2.1.size))
      clear hb2 d0 d1 d2
      by_cases hr : rightE f = true
      · rw [hr]
        have ht : (ks.take (k + 1)).all rightE = true := by rw [all_take HH.out.1, HH.out.2.2, hr]; rfl
        have HT := Lib.hid ht
        clear ht hr
        go_wp2_with fail
        go_roundw
        case rel => exact ⟨k + 1, by go_num, by omega, HT.out, HB.out⟩
        case measure => simp [RowKit.intOf]; omega
      · have hr : rightE f = false := by simpa using hr
        rw [hr]
        have : R = false := by
          have ht : (ks.take (k + 1)).all rightE = false := by rw [all_take HH.out.1, hr]; simp
          rw [← HR.out, all_stop ht]; rfl
        subst this
        clear hr
        go_wp2_with fail
        go_ret
        exact ⟨rfl, HB.out⟩
    · obtain rfl : k = n := by omega
      have i1 : ¬ (k : Int) < (k : Int) := by omega
      have ht : ks.take k = ks := by rw [← HN.out, List.take_length]
      rw [ht] at hall
      have hfin : R = decide ((k : Int) ≤ 40) := by
        rw [← HR.out, hall, Bool.true_and, HN.out]
        congr 1
        apply propext
        omega
      have HF := Lib.hid hfin
      have HB := Lib.hid hb
      clear hall hb ht hfin
      go_wp2_with fail
      go_ret
      exact ⟨by rw [HF.out]; rfl, HB.out⟩
end Go.Proofs.YtmldgfplnacecaaDoor

namespace Go.Proofs.YtmldgfplnacecaaDoor
open Go.RowKit Go.Shelf Go.Lib Go.Great Go.Maps

/-- The set behind the first marks. -/
def stK (se : Bool) (s : St) (ms : List Int) (k : Nat) : List Int := (ms.take k).foldl (fun x m => posI (stepM se s x m)) [0]
theorem stK_zero (se : Bool) (s : St) (ms : List Int) : stK se s ms 0 = [0] := rfl
theorem stK_succ {se : Bool} {s : St} {ms : List Int} {k : Nat} {m : Int} (h : ms[k]? = some m) : stK se s ms (k + 1) = posI (stepM se s (stK se s ms k) m) := by
  unfold stK
  rw [List.take_add_one, h, Option.toList_some, List.foldl_append]
  simp only [List.foldl_cons, List.foldl_nil]
theorem lv_le_sz : ∀ l : List E, lvL l ≤ szL l := by
  intro l
  induction l with
  | nil => simp [lvL, leavesE.lvL]
  | cons a r ih =>
    have := leaves_le _ a (Nat.le_refl _)
    simp only [lvL, leavesE.lvL, szL, szE.szL] at *
    omega
theorem fault_zero6 {ks : List E} (h1 : ks.all rightE = true) (h2 : ks.length ≤ 40) (h3 : szL ks ≤ 80) : faultL ks = 0 := by
  have := lv_le_sz ks
  unfold faultL
  rw [if_neg (by omega), if_neg (by simp [h1]), if_neg (by omega)]
theorem fault_wrong {ks : List E} (h : (ks.all rightE && decide (ks.length ≤ 40)) = false) : faultL ks ≠ 0 ∧ (40 < ks.length → faultL ks = 3) ∧ (ks.length ≤ 40 → faultL ks = 1) := by
  unfold faultL
  by_cases h40 : 40 < ks.length
  · rw [if_pos h40]; exact ⟨by decide, fun _ => rfl, fun e => by omega⟩
  · rw [if_neg h40]
    have : ks.all rightE = false := by
      rw [show decide (ks.length ≤ 40) = true by simp; omega, Bool.and_true] at h
      exact h
    rw [if_pos this]
    exact ⟨by decide, fun e => by omega, fun _ => rfl⟩
theorem plc0 (N : Nat) : Plc [0] N := fun x hx => by simp at hx; omega
theorem stK_plc {a : Mka} {t : St} {i : Nat} {se : Bool} (h : MkaOk a t i) (ms : List Int) : ∀ k, k ≤ ms.length → Plc (stK se t ms k) a.l.lv.length
  | 0, _ => plc0 _
  | k + 1, hk => by
    obtain ⟨m, hm⟩ : ∃ m, ms[k]? = some m := ⟨_, List.getElem?_eq_getElem (show k < ms.length by omega)⟩
    rw [stK_succ hm]
    exact step_plc h _ m (stK_plc h ms k (by omega))
structure SArg (w : World) (ks : List E) (ms : List Int) (Ak Am : Option Addr) (ck cm : Nat) : Prop where
  k : KsAt w w.heap.size ks Ak ck
  m : IS w w.heap.size ms Am cm
  t : TZ w
theorem SArg.below {w w' : World} {ks : List E} {ms : List Int} {Ak Am : Option Addr} {ck cm : Nat} (h : SArg w ks ms Ak Am ck cm) (hb : Below w.heap.size w w') : SArg w' ks ms Ak Am ck cm := ⟨h.k.on hb, h.m.on hb, h.t.below hb h.t.lt⟩
def TrOk (w : World) (r : Ending) (w' : World) : Prop := r = .returned (.bool true) ∧ Below w.heap.size w w'
set_option maxHeartbeats 8000000 in
set_option maxRecDepth 100000 in
theorem steps_big (se : Bool) (ks : List E) (ms : List Int) (Ak Am : Option Addr) (ck cm : Nat) (w : World) (h : SArg w ks ms Ak Am ck cm) (hbig : 80 < szL ks ∨ 12 < ms.length) :
    Calls Tryd.prog 3 #[.bool se, .slice Ak ks.length ck, .slice Am ms.length cm] w (TrOk w) := by
  have C := great_any ks Ak ck w h.k
  have hm63 : ms.length ≤ 9223372036854775807 := by have := h.m.l; have := h.m.m; unfold maxLen at this; omega
  obtain ⟨nm, hnm⟩ : ∃ n, ms.length = n := ⟨_, rfl⟩
  rw [hnm] at hbig hm63 ⊢
  have H := Lib.hid h
  clear h hnm
  cases hg : decide (80 < szL ks) with
  | true =>
    rw [hg] at C
    have HC := Lib.hid C
    clear C hg hbig
    go_enter Tryd.func3, Tryd.ntmps3
    go_wp2_with fail
    refine HC.out.mono ?_
    rintro r w2 ⟨rfl, hb2⟩
    have a2 := H.out.below hb2
    have C2 := Lib.hid (awake_any w2 a2.t)
    have H2 := Lib.hid hb2
    clear a2 hb2
    go_wp2_with fail
    refine C2.out.mono ?_
    rintro r w3 ⟨rfl, hb3⟩
    have H3 := Lib.hid (H2.out.trans (hb3.mono H2.out.size))
    clear hb3
    go_wp2_with fail
    go_ret
    exact ⟨rfl, H3.out⟩
  | false =>
    rw [hg] at C
    have HC := Lib.hid C
    have h12 : 12 < nm := by
      simp at hg
      omega
    have i1 : (12 : Int) < (nm : Int) := by omega
    have j1 : decide ((12 : Int) < (nm : Int)) = true := by simpa using i1
    clear C hg hbig
    go_enter Tryd.func3, Tryd.ntmps3
    go_wp2_with fail
    refine HC.out.mono ?_
    rintro r w2 ⟨rfl, hb2⟩
    have a2 := H.out.below hb2
    have C2 := Lib.hid (awake_any w2 a2.t)
    have H2 := Lib.hid hb2
    clear a2 hb2
    go_wp2_with fail
    refine C2.out.mono ?_
    rintro r w3 ⟨rfl, hb3⟩
    have H3 := Lib.hid (H2.out.trans (hb3.mono H2.out.size))
    clear hb3
    go_wp2_with fail
    go_ret
    exact ⟨rfl, H3.out⟩
set_option maxHeartbeats 8000000 in
set_option maxRecDepth 100000 in
theorem steps_wrong (se : Bool) (ks : List E) (ms : List Int) (Ak Am : Option Addr) (ck cm : Nat) (w : World) (h : SArg w ks ms Ak Am ck cm) (h80 : szL ks ≤ 80) (h12 : ms.length ≤ 12) (hr : (ks.all rightE && decide (ks.length ≤ 40)) = false) :
    Calls Tryd.prog 3 #[.bool se, .slice Ak ks.length ck, .slice Am ms.length cm] w (TrOk w) := by
  have C := great_any ks Ak ck w h.k
  rw [show decide (80 < szL ks) = false by simp; omega] at C
  obtain ⟨nm, hnm⟩ : ∃ n, ms.length = n := ⟨_, rfl⟩
  rw [hnm] at h12 ⊢
  have i1 : ¬ (12 : Int) < (nm : Int) := by omega
  have j1 : decide ((12 : Int) < (nm : Int)) = false := by simpa using i1
  have HC := Lib.hid C
  have H := Lib.hid (And.intro h (And.intro h80 hr))
  obtain ⟨f0, f3, f1⟩ := fault_wrong hr
  have hnk : ks.length ≤ 9223372036854775807 := by have := h.k.l; have := h.k.m; unfold maxLen at this; omega
  obtain ⟨ff, hff⟩ : ∃ f, faultL ks = f := ⟨_, rfl⟩
  rw [hff] at f0 f3 f1
  have HF := Lib.hid hff
  have HE := Lib.hid (And.intro f0 (And.intro f3 f1))
  clear h hnm C h80 hr hff f0 f3 f1
  go_enter Tryd.func3, Tryd.ntmps3
  go_wp2_with fail
  refine HC.out.mono ?_
  rintro r w2 ⟨rfl, hb2⟩
  have a2 := H.out.1.below hb2
  have C2 := Lib.hid (awake_any w2 a2.t)
  have H2 := Lib.hid hb2
  clear a2 hb2
  go_wp2_with fail
  refine C2.out.mono ?_
  rintro r w3 ⟨rfl, hb3⟩
  have b3 := H2.out.trans (hb3.mono H2.out.size)
  have C3 := toL_any ks (by have := H.out.2.1; omega) Ak ck w3 (H.out.1.k.on b3)
  have HC3 := Lib.hid C3
  have H3 := Lib.hid b3
  clear hb3 b3 C3
  go_wp2_with fail
  refine HC3.out.mono ?_
  rintro r w4 ⟨A4, c4, rfl, hks4, hb4⟩
  have b4 := H3.out.trans (hb4.mono H3.out.size)
  have C4 := new_bad se ks A4 c4 w4 (hks4.ks (fun b hb => hb.2) (fun e v hN => NdP.nd (fun b hb => hb.2) _ e v (Nat.le_refl _) hN)) (by rw [HF.out]; exact HE.out.1)
  rw [HF.out] at C4
  have HC4 := Lib.hid C4
  have H4 := Lib.hid b4
  clear hks4 hb4 b4 C4
  go_wp2_with fail
  refine HC4.out.mono ?_
  rintro r w5 ⟨rfl, hb5⟩
  have b5 := H4.out.trans (hb5.mono H4.out.size)
  have C5 := allRight_any ks Ak ck w5 (H.out.1.k.on b5) (by have := H.out.2.1; omega)
  rw [H.out.2.2] at C5
  have HC5 := Lib.hid C5
  have H5 := Lib.hid b5
  clear hb5 b5 C5
  go_wp2_with fail
  refine HC5.out.mono ?_
  rintro r w6 ⟨rfl, hb6⟩
  have H6 := Lib.hid (H5.out.trans (hb6.mono H5.out.size))
  clear hb6
  by_cases h40 : 40 < ks.length
  · obtain rfl := HE.out.2.1 h40
    have j2 : (40 : Int) < (ks.length : Int) := by omega
    go_wp2_with fail
    go_ret
    exact ⟨rfl, H6.out⟩
  · obtain rfl := HE.out.2.2 (by omega)
    have j2 : ¬ (40 : Int) < (ks.length : Int) := by omega
    have j3 : decide ((40 : Int) < (ks.length : Int)) = false := by simpa using j2
    go_wp2_with fail
    go_ret
    exact ⟨rfl, H6.out⟩
end Go.Proofs.YtmldgfplnacecaaDoor

namespace Go.Proofs.YtmldgfplnacecaaDoor
open Go.RowKit Go.Shelf Go.Lib Go.Great Go.Maps

/-- Both sets, as they lie behind the first marks. -/
def StRel (W0 : World) (X : List Int) (u v : Value) (wr : World) : Prop := ∃ A c A' c', u = .slice A X.length c ∧ v = .slice A' X.length c' ∧ IS wr wr.heap.size X A c ∧ IS wr wr.heap.size X A' c' ∧ Below W0.heap.size W0 wr
set_option maxHeartbeats 16000000 in
set_option maxRecDepth 100000 in
theorem steps_main (se : Bool) (ks : List E) (ms : List Int) (Ak Am : Option Addr) (ck cm : Nat) (w : World) (h : SArg w ks ms Ak Am ck cm) (h80 : szL ks ≤ 80) (h12 : ms.length ≤ 12) (hr : ks.all rightE = true) (h40 : ks.length ≤ 40) :
    Calls Tryd.prog 3 #[.bool se, .slice Ak ks.length ck, .slice Am ms.length cm] w (TrOk w) := by
  have C := great_any ks Ak ck w h.k
  rw [show decide (80 < szL ks) = false by simp; omega] at C
  have hlv : lvL ks ≤ 80 := Nat.le_trans (lv_le_sz ks) h80
  have hok := makeN_ok ks hr (by unfold lvL at hlv; omega)
  obtain ⟨hcl, hcn⟩ := makeN_count ks hr (by unfold lvL at hlv; omega)
  have hln : (makeL ks 0 mka0).l.lv.length ≤ 80 := by unfold lvL at hlv; omega
  have hla := hok.la se (by omega) (by omega)
  have hpl := fun k hk => stK_plc (se := se) hok ms k hk
  have hcq : ((((mkN ks).count : Nat) : Int) != ((makeL ks 0 mka0).l.lv.length : Int) + 1) = false := by rw [hcl, hcn]; simp
  obtain ⟨nm, hnm⟩ : ∃ n, ms.length = n := ⟨_, rfl⟩
  rw [hnm] at h12 hpl ⊢
  have i1 : ¬ (12 : Int) < (nm : Int) := by omega
  have j1 : decide ((12 : Int) < (nm : Int)) = false := by simpa using i1
  have HC := Lib.hid C
  have H := Lib.hid (And.intro h (And.intro h80 (And.intro hr (And.intro h40 hnm))))
  have HM := Lib.hid (And.intro hok (And.intro hln (And.intro hla (And.intro hpl hlv))))
  have HQ := Lib.hid hcq
  clear h hnm C h80 hr h40 hok hln hla hpl hcl hcn hlv hcq
  go_enter Tryd.func3, Tryd.ntmps3
  go_wp2_with fail
  refine HC.out.mono ?_
  rintro r w2 ⟨rfl, hb2⟩
  have a2 := H.out.1.below hb2
  have C2 := Lib.hid (awake_any w2 a2.t)
  have H2 := Lib.hid hb2
  clear a2 hb2
  go_wp2_with fail
  refine C2.out.mono ?_
  rintro r w3 ⟨rfl, hb3⟩
  have b3 := H2.out.trans (hb3.mono H2.out.size)
  have C4 := Lib.hid (toL_any ks (by have := H.out.2.1; omega) Ak ck w3 (H.out.1.k.on b3))
  have H4 := Lib.hid b3
  clear hb3 b3
  go_wp2_with fail
  refine C4.out.mono ?_
  rintro r w5 ⟨A5, c5, rfl, hks5, hb5⟩
  have b5 := H4.out.trans (hb5.mono H4.out.size)
  have C5 := Lib.hid (new_any se ks A5 c5 w5 (hks5.ks (fun b hb => hb.2) (fun e v hN => NdP.nd (fun b hb => hb.2) _ e v (Nat.le_refl _) hN)) (fault_zero6 H.out.2.2.1 H.out.2.2.2.1 H.out.2.1) (H.out.1.t.below b5 H.out.1.t.lt))
  have H5 := Lib.hid b5
  clear hks5 hb5 b5
  go_wp2_with fail
  refine C5.out.mono ?_
  rintro r w6 ⟨q, nn, rfl, _, hn6, hb6⟩
  have b6 := H5.out.trans (hb6.mono H5.out.size)
  have C6 := allRight_any ks Ak ck w6 (H.out.1.k.on b6) (by have := H.out.2.1; omega)
  rw [H.out.2.2.1, show decide (ks.length ≤ 40) = true by simpa using H.out.2.2.2.1] at C6
  have HC6 := Lib.hid C6
  have H6 := Lib.hid (And.intro hn6 b6)
  clear hn6 hb6 b6 C6
  go_wp2_with fail
  refine HC6.out.mono ?_
  rintro r w7 ⟨rfl, hb7⟩
  have b7 := H6.out.2.trans (hb7.mono H6.out.2.size)
  have C7 := Lib.hid (makeR_any se ks Ak ck w7 (H.out.1.k.on b7) H.out.2.2.1 H.out.2.1 HM.out.2.2.2.2 (by have := H.out.2.2.2.1; omega))
  have H7 := Lib.hid (And.intro (H6.out.1.below hb7) b7)
  clear hb7 b7
  go_wp2_with fail
  refine C7.out.mono ?_
  rintro r w8 ⟨rfl, ra8, hb8⟩
  have b8 := H7.out.2.trans (hb8.mono H7.out.2.size)
  have H8 := Lib.hid (And.intro (H7.out.1.below hb8) (And.intro b8 ra8))
  obtain ⟨G, hG⟩ : ∃ g, w7.heap.size = g := ⟨_, rfl⟩
  rw [hG] at H8
  rw [hG]
  clear hb8 b8 ra8 hG
  go_wp2_with fail
  refine (begin_any q.b w8).mono ?_
  rintro r w9 ⟨rfl, hw9⟩
  obtain ⟨W10, hW10⟩ : ∃ W, w9.alloc (.cells #[.int .i64 0] 3) = W := ⟨_, rfl⟩
  have b9 : Below w8.heap.size w8 w9 := by rw [hw9]; exact below_new _ _
  have b910 : Below w9.heap.size w9 W10 := by rw [← hW10]; exact below_new _ _
  have b810 := b9.trans (b910.mono b9.size)
  have i9 : IS w9 w9.heap.size [0] (some ⟨w8.heap.size, 0, none⟩) 1 := by rw [hw9]; exact is_begin w8
  have i10 : IS W10 W10.heap.size [0] (some ⟨w9.heap.size, 0, none⟩) 1 := by rw [← hW10]; exact is_begin w9
  have n10 := H8.out.1.below b810
  have ra10 := H8.out.2.2.on b810
  have bw10 := H8.out.2.1.trans (b810.mono H8.out.2.1.size)
  obtain ⟨Al, cl, e1, _⟩ := ra10.c1
  obtain ⟨nl, hnl⟩ : ∃ n, (makeL ks 0 mka0).l.lv.length = n := ⟨_, rfl⟩
  have hnl2 : (raOf se (makeL ks 0 mka0)).lv.length = nl := hnl
  rw [hnl2] at e1
  have hcq := HQ.out
  rw [hnl] at hcq
  have hnl80 : nl ≤ 80 := by rw [← hnl]; exact HM.out.2.1
  have CF := Lib.hid (fun nq => count_nfa (n10.below (below_drewN (Below.refl W10.heap.size W10) nq)))
  have R0 : StRel W10 (stK se (mkN ks) ms 0) (.slice (some ⟨w8.heap.size, 0, none⟩) 1 1) (.slice (some ⟨w9.heap.size, 0, none⟩) 1 1) W10 := ⟨_, _, _, _, rfl, rfl, i9.on b910, i10, Below.refl _ _⟩
  have HR0 := Lib.hid R0
  have H10 := Lib.hid (And.intro n10 (And.intro ra10 bw10))
  have HW := Lib.hid hW10
  have hGl : G < W10.heap.size := ra10.lt
  clear b9 b910 b810 i9 i10 n10 ra10 bw10 R0 hw9 hnl hnl2 hW10
  go_wp2_with fail
  rw [HW.out]
  go_quiet (first | (go_at_call 18; with_reducible refine Calls.quiet_of_same (CF.out _)))
  rename_i nq _
  have HR1 : StRel W10 (stK se (mkN ks) ms 0) (.slice (some ⟨w8.heap.size, 0, none⟩) 1 1) (.slice (some ⟨w9.heap.size, 0, none⟩) 1 1) (W10.drewN nq) := by
    obtain ⟨A, c, A', c', e1, e2, i1, i2, hb⟩ := HR0.out
    have bd := below_drewN (Below.refl W10.heap.size W10) nq
    exact ⟨A, c, A', c', e1, e2, i1.on bd, i2.on bd, bd⟩
  have HR1 := Lib.hid HR1
  clear hcq e1
  go_wp2_with fail
  go_loopw [11, 12, 13] (fun u11 u12 u13 wr => ∃ k : Nat, u13 = .int .i64 (k : Int) ∧ k ≤ nm ∧ StRel W10 (stK se (mkN ks) ms k) u11 u12 wr) (fun _ _ u13 _ => nm - (RowKit.intOf u13).toNat)
  case atStart => exact ⟨0, rfl, by omega, HR1.out⟩
  case round =>
    obtain ⟨k, rfl, hk, A, c, A', c', rfl, rfl, i1, i2, hb⟩ := hrel
    obtain ⟨X, hX⟩ : ∃ X, stK se (mkN ks) ms k = X := ⟨_, rfl⟩
    have hpk := HM.out.2.2.2.1 k hk
    rw [hX] at hpk
    have hta := (fun m => walk_same se HM.out.1 (by have := HM.out.2.1; omega) X m hpk)
    have htl := (hta 0).2.2
    rw [hX] at i1 i2 ⊢
    have bw := H10.out.2.2.trans (hb.mono H10.out.2.2.size)
    have CI := is_any X X A A' c c' wr i1 i2
    rw [show decide (X = X) = true by simp] at CI
    have HCI := Lib.hid CI
    have HT := Lib.hid (And.intro htl (fun m => (hta m).1))
    have HX := Lib.hid (And.intro hX hpk)
    have HB := Lib.hid (And.intro i1 (And.intro i2 (And.intro hb bw)))
    have hXl : X.length ≤ 9223372036854775807 := by have := i1.l; have := i1.m; unfold maxLen at this; omega
    clear CI htl hta hX hpk i1 i2 hb bw
    by_cases hlt : k < nm
    · have i5 : (k : Int) < (nm : Int) := by omega
      go_wp2_with fail
      refine HCI.out.mono ?_
      rintro r w11 ⟨rfl, hb11⟩
      have b11 := HB.out.2.2.1.trans (hb11.mono HB.out.2.2.1.size)
      have C20 := Lib.hid (tells_any (H10.out.1.below b11) X A c (HB.out.1.on hb11))
      have H11 := Lib.hid (And.intro hb11 b11)
      clear hb11 b11
      go_wp2_with fail
      refine C20.out.mono ?_
      rintro r w12 ⟨rfl, e12⟩
      obtain rfl := e12.symm
      have C21 := tellsR_any _ G X A' c' w11 (H10.out.2.1.on H11.out.2) (HB.out.2.1.on H11.out.1) HM.out.2.2.1
      rw [HT.out.1] at C21
      obtain ⟨t, ht⟩ : ∃ t, tellsU (mkN ks) X = t := ⟨_, rfl⟩
      have htt : ((t : Int) != (t : Int)) = false := by simp
      rw [ht] at C21
      rw [ht]
      have HC21 := Lib.hid C21
      clear C21
      go_wp2_with fail
      refine HC21.out.mono ?_
      rintro r w13 ⟨rfl, hb13⟩
      have hb3 := H11.out.1.trans (hb13.mono H11.out.1.size)
      have b13 := HB.out.2.2.1.trans (hb3.mono HB.out.2.2.1.size)
      have bw13 := HB.out.2.2.2.trans (hb3.mono HB.out.2.2.2.size)
      obtain ⟨m, hm⟩ : ∃ m, ms[k]? = some m := ⟨ms[k]'(by have := H.out.2.2.2.2; omega), List.getElem?_eq_getElem _⟩
      have his := H.out.1.m
      obtain ⟨bm, om, rfl, hbl, hc⟩ := his.r (by rintro rfl; simp at hm)
      have d0 := (bw13.cell (p := ⟨bm, om + k, none⟩) hbl).trans (hc k m hm)
      have h64 := his.i m (List.mem_of_getElem? hm)
      have C22 := Lib.hid (step_any (H10.out.1.below b13) (H.out.1.t.below bw13 H.out.1.t.lt) X A c (HB.out.1.on hb3) m h64)
      have H13 := Lib.hid (And.intro hb3 (And.intro b13 (And.intro bw13 (And.intro hm (And.intro hbl (hc k m hm))))))
      have H64 := Lib.hid h64
      clear hb13 hb3 b13 bw13 hm his hc h64
      go_wp2_with fail
      refine C22.out.mono ?_
      rintro r w14 ⟨v14, rfl, ho14, hb14⟩
      have hb4 := H13.out.1.trans (hb14.mono H13.out.1.size)
      have b14 := H13.out.2.1.trans (hb14.mono H13.out.2.1.size)
      have bw14 := H13.out.2.2.1.trans (hb14.mono H13.out.2.2.1.size)
      have d0 := (bw14.cell (p := ⟨bm, om + k, none⟩) H13.out.2.2.2.2.1).trans H13.out.2.2.2.2.2
      have C23 := Lib.hid (stepR_any _ G X A' c' m w14 (H10.out.2.1.on b14) (HB.out.2.1.on hb4) H64.out (by have := HM.out.2.1; show (makeL ks 0 mka0).l.lv.length ≤ 1000; omega))
      have H14 := Lib.hid (And.intro b14 ho14)
      clear hb14 hb4 b14 bw14 ho14
      go_wp2_with fail
      refine C23.out.mono ?_
      rintro r w15 ⟨v15, rfl, ho15, hb15⟩
      have hend : ∃ k1 : Nat, Value.int .i64 ((k : Int) + 1) = .int .i64 (k1 : Int) ∧ k1 ≤ nm ∧ StRel W10 (stK se (mkN ks) ms k1) v14 v15 w15 := by
        refine ⟨k + 1, by simp, by omega, ?_⟩
        obtain ⟨A1, c1, rfl, j1⟩ := H14.out.2.is
        rw [HT.out.2 m] at ho15
        obtain ⟨A2, c2, rfl, j2, _⟩ := ho15.is (fun x hx => by have := posI_nn x hx; unfold i64; omega)
        rw [stK_succ H13.out.2.2.2.1, HX.out.1]
        exact ⟨A1, c1, A2, c2, rfl, rfl, j1.on hb15, j2, H14.out.1.trans (hb15.mono H14.out.1.size)⟩
      have HEND := Lib.hid hend
      clear hend ho15 hb15 d0
      go_wp2_with fail
      go_roundw
      case rel => exact HEND.out
      case measure => simp [RowKit.intOf]; omega
    · obtain rfl : k = nm := by omega
      have i5 : ¬ (k : Int) < (k : Int) := by omega
      go_wp2_with fail
      refine HCI.out.mono ?_
      rintro r w11 ⟨rfl, hb11⟩
      have b11 := HB.out.2.2.1.trans (hb11.mono HB.out.2.2.1.size)
      have C20 := Lib.hid (tells_any (H10.out.1.below b11) X A c (HB.out.1.on hb11))
      have H11 := Lib.hid (And.intro hb11 b11)
      clear hb11 b11
      go_wp2_with fail
      refine C20.out.mono ?_
      rintro r w12 ⟨rfl, e12⟩
      obtain rfl := e12.symm
      have C21 := tellsR_any _ G X A' c' w11 (H10.out.2.1.on H11.out.2) (HB.out.2.1.on H11.out.1) HM.out.2.2.1
      rw [HT.out.1] at C21
      obtain ⟨t, ht⟩ : ∃ t, tellsU (mkN ks) X = t := ⟨_, rfl⟩
      have htt : ((t : Int) == (t : Int)) = true := by simp
      rw [ht] at C21
      rw [ht]
      have HC21 := Lib.hid C21
      clear C21
      go_wp2_with fail
      refine HC21.out.mono ?_
      rintro r w13 ⟨rfl, hb13⟩
      have hb3 := H11.out.1.trans (hb13.mono H11.out.1.size)
      have bw13 := Lib.hid (HB.out.2.2.2.trans (hb3.mono HB.out.2.2.2.size))
      clear hb13 hb3
      go_wp2_with fail
      go_ret
      exact ⟨rfl, bw13.out⟩
theorem steps_any (se : Bool) (ks : List E) (ms : List Int) (Ak Am : Option Addr) (ck cm : Nat) (w : World) (h : SArg w ks ms Ak Am ck cm) :
    Calls Tryd.prog 3 #[.bool se, .slice Ak ks.length ck, .slice Am ms.length cm] w (TrOk w) := by
  by_cases h1 : 80 < szL ks ∨ 12 < ms.length
  · exact steps_big se ks ms Ak Am ck cm w h h1
  · cases hr : (ks.all rightE && decide (ks.length ≤ 40)) with
    | false => exact steps_wrong se ks ms Ak Am ck cm w h (by omega) (by omega) hr
    | true =>
      simp only [Bool.and_eq_true, decide_eq_true_eq] at hr
      exact steps_main se ks ms Ak Am ck cm w h (by omega) (by omega) hr.1 hr.2
end Go.Proofs.YtmldgfplnacecaaDoor

namespace Go.Proofs.YtmldgfplnacecaaDoor
open Go.ChangeShapes Go.WideShapes Go.ChangeAt Go.RowKit Go.Shelf
open Go.Lib

theorem own : ownKnob Tryd.prog.godebug = none := by kernel_rfl
theorem laidOut : laidOutB Tryd.prog = true := by kernel_rfl
theorem cells5 : Tryd.prog.cellsOf 5 = 1 := by kernel_rfl
def laidBits : List (String × DataW Unit) := [("math/bits.deBruijn64tab", Rows.laid_math_bits_deBruijn64tab)]
def bruijn64 : List Int := Lib.deBruijn64tab.map fun (n : Nat) => (n : Int)
theorem bruijn_eq : (Rows.laid_math_bits_deBruijn64tab : DataW Unit) = tabData .u8 bruijn64 := by kernel_rfl
theorem gBruijn : Tryd.prog.globalNamed "math/bits.deBruijn64tab" = some 0 := by kernel_rfl
theorem yBruijn : (Tryd.prog.globals[0]?).map (·.type) = some 145 := by kernel_rfl
theorem cells88 : Tryd.prog.cellsOf 145 = 64 := by kernel_rfl
theorem tz_of_reads {w : World} (h : VarReads Tryd.prog w "math/bits.deBruijn64tab" Rows.laid_math_bits_deBruijn64tab) : TZ w := by
  rw [bruijn_eq] at h
  obtain ⟨g, t, cs, fuel, p, hg, hty, hvar, hd⟩ := h
  obtain rfl := Option.some.inj (gBruijn.symm.trans hg)
  obtain rfl := Option.some.inj (yBruijn.symm.trans hty)
  have hcs := cells_of_tab Tryd.underlying145 Tryd.underlying5 cells5 cells88 hd
  intro j hj
  have h1 := World.var?_cell hg hvar j
  rw [← Array.getElem?_toList, hcs] at h1
  rw [h1]
  unfold bruijn64
  simp only [List.getElem?_map, List.getD_eq_getElem?_getD]
  rw [List.getElem?_eq_getElem hj]
  rfl
end Go.Proofs.YtmldgfplnacecaaDoor

namespace Go.Proofs.YtmldgfplnacecaaDoor
open Go.ChangeShapes Go.WideShapes Go.ChangeAt Go.RowKit Go.Shelf
open Go.Lib

instance : Inhabited E := ⟨.mk 0 0 []⟩
theorem cells48 : Tryd.prog.cellsOf 48 = 3 := by kernel_rfl
theorem cells3 : Tryd.prog.cellsOf 3 = 1 := by kernel_rfl
theorem cells22 : Tryd.prog.cellsOf 22 = 1 := by kernel_rfl
section
variable {H : Type} {enc : TypeId × Value → H} {W : World}
set_option maxRecDepth 100000 in
theorem int_cell {n : Nat} {v : Value} {x : DataW H × List MemPlace} (h : DataW.trod enc Tryd.prog W 0 (fun _ => true) true n 3 [v] = some x) : ∃ a, v = .int .i64 a ∧ i64 a := by
  obtain ⟨a, e, _, w⟩ := DataW.trod_int Tryd.underlying3 h
  have b : -9223372036854775808 ≤ a ∧ a ≤ 9223372036854775807 := by simpa [Lit.wf, IntKind.min, IntKind.max, IntKind.signed, IntKind.bits] using w
  exact ⟨a, by simpa using e, b⟩
set_option maxRecDepth 100000 in
/-- The cells of one expression. -/
theorem nd_cells : ∀ fuel, (∀ cs (x : DataW H × List MemPlace), DataW.trod enc Tryd.prog W 0 (fun _ => true) true fuel 48 cs = some x → ∃ (e : E) (A : Option Addr) (cap : Nat), cs = [.int .i64 e.k, .int .i64 e.c, .slice A e.ks.length cap] ∧ i64 e.k ∧ i64 e.c ∧ KsAt W W.heap.size e.ks A cap) ∧
    (∀ cs (x : DataW H × List MemPlace), DataW.trod enc Tryd.prog W 0 (fun _ => true) true fuel 22 cs = some x → ∃ (ks : List E) (A : Option Addr) (cap : Nat), cs = [.slice A ks.length cap] ∧ KsAt W W.heap.size ks A cap) := by
  intro fuel
  induction fuel with
  | zero => exact ⟨fun cs x h => by simp [DataW.trod] at h, fun cs x h => by simp [DataW.trod] at h⟩
  | succ n ih =>
    constructor
    · intro cs x h
      obtain ⟨xs, m, hm, _, hlen, hxl, hf⟩ := DataW.trod_struct Tryd.underlying48 h
      obtain rfl : m = n := by omega
      rw [cells48] at hlen
      have hxl : xs.length = 3 := hxl
      match cs, hlen, xs, hxl with
      | [c0, c1, c2], _, [x0, x1, x2], _ =>
        have h0 := hf 0 _ rfl
        have h1 := hf 1 _ rfl
        have h2 := hf 2 _ rfl
        simp [cells3] at h0 h1
        simp [cells22] at h2
        obtain ⟨k, rfl, hk⟩ := int_cell h0
        obtain ⟨c, rfl, hc⟩ := int_cell h1
        obtain ⟨ks, A, cap, he, hks⟩ := ih.2 _ _ h2
        simp at he
        subst he
        exact ⟨.mk k c ks, A, cap, rfl, hk, hc, hks⟩
    · intro cs x h
      rcases DataW.trod_slice Tryd.underlying22 h with ⟨rfl, _⟩ | ⟨a, len, cap, elems, rest, m, hm, rfl, _, _, hl, hcm, hlen, hel, _, _⟩
      · exact ⟨[], none, 0, rfl, ⟨by simp, by simp, by simp, fun hn => absurd rfl hn⟩⟩
      · obtain rfl : m = n := by omega
        rw [cells48] at hel
        have each : ∀ i, i < len → ∃ e : E, ∃ (A : Option Addr) (cp : Nat), W.cell? ((a.add (i * 3)).add 0) = some (.int .i64 e.k) ∧ W.cell? ((a.add (i * 3)).add 1) = some (.int .i64 e.c) ∧ W.cell? ((a.add (i * 3)).add 2) = some (.slice A e.ks.length cp) ∧ i64 e.k ∧ i64 e.c ∧ KsAt W W.heap.size e.ks A cp := by
          intro i hi
          have key := hel i hi
          rw [List.getElem?_eq_getElem (by omega)] at key
          obtain ⟨cs', h1, h2⟩ := Option.bind_eq_some_iff.1 key
          obtain ⟨e, A, cp, rfl, hk, hc, hks⟩ := ih.1 _ _ h2
          obtain ⟨_, _, hcell⟩ := World.cells?_some h1
          exact ⟨e, A, cp, by simpa using hcell 0 (by omega), by simpa using hcell 1 (by omega), by simpa using hcell 2 (by omega), hk, hc, hks⟩
        obtain ⟨f, hf⟩ := Go.Deep.choose_lt each
        have hfl : ((List.range len).map f).length = len := by simp
        refine ⟨(List.range len).map f, some a, cap, by rw [hfl], ⟨by rw [hfl]; exact hl, hcm, fun e => (by cases e), fun hn => ?_⟩⟩
        have h0 : 0 < len := by
          rcases Nat.eq_zero_or_pos len with e | e
          · subst e; exact absurd rfl hn
          · exact e
        obtain ⟨_, _, hc0, _⟩ := hf 0 h0
        obtain ⟨b, o, spot⟩ := a
        have hspot : spot = none := by simpa [Addr.add] using World.cell?_spot hc0
        subst hspot
        have hbl := cell_lt hc0
        refine ⟨b, o, rfl, by simpa [Addr.add] using hbl, row_of fun i e he => ?_⟩
        have hi : i < len := by have := (List.getElem?_eq_some_iff.1 he).1; omega
        simp [hi] at he
        subst he
        obtain ⟨A, cp, c0, c1, c2, hk, hc, hks⟩ := hf i hi
        have ad : ∀ j, ((⟨b, o, none⟩ : Addr).add (i * 3)).add j = ⟨b, o + i * 3 + j, none⟩ := fun j => by
          rw [Addr.add_mid, Addr.add_mid]
        rw [ad] at c0 c1 c2
        exact ⟨_, _, _, c0, c1, c2, Nd_iff.2 ⟨hk, hc, A, cp, rfl, hks⟩⟩
set_option maxRecDepth 100000 in
/-- An argument that is a list of expressions. -/
theorem ks_of_arg {b0 : Nat} {v : Value} {d : DataW H} {p : List MemPlace} (hv : Value.okWide Tryd.prog W .any b0 22 v) (h : DataW.Trod enc Tryd.prog W 0 (fun _ => true) true 22 v d p) :
    ∃ (ks : List E) (A : Option Addr) (cap : Nat), v = .slice A ks.length cap ∧ KsAt W W.heap.size ks A cap := by
  obtain ⟨a, len, cap, rfl⟩ := okWide_slice Tryd.underlying22 hv
  obtain ⟨fuel, hf⟩ := h
  obtain ⟨ks, A, cp, he, hk⟩ := (nd_cells fuel).2 _ _ hf
  simp [Value.cells] at he
  obtain ⟨rfl, rfl, rfl⟩ := he
  exact ⟨ks, a, cap, rfl, hk⟩
set_option maxRecDepth 100000 in
/-- An argument that is a list of numbers. -/
theorem is_of_arg {b0 : Nat} {v : Value} {d : DataW H} {p : List MemPlace} (hv : Value.okWide Tryd.prog W .any b0 23 v) (h : DataW.Trod enc Tryd.prog W 0 (fun _ => true) true 23 v d p) :
    ∃ (xs : List Int) (A : Option Addr) (cap : Nat), v = .slice A xs.length cap ∧ IS W W.heap.size xs A cap ∧ (A = none → cap = 0) := by
  obtain ⟨a, len, cap, rfl⟩ := okWide_slice Tryd.underlying23 hv
  obtain ⟨fuel, hf⟩ := h
  rcases open_ints Tryd.underlying23 Tryd.underlying3 (by kernel_rfl) hf with ⟨hcs, _⟩ | ⟨x, l, c, zs, hcs, _, hl, hm, hz, _, hcell, hwz⟩
  · simp [Value.cells] at hcs
    obtain ⟨rfl, rfl, rfl⟩ := hcs
    exact ⟨[], none, 0, rfl, ⟨by simp, by simp, fun x hx => by simp at hx, fun hn => absurd rfl hn⟩, fun _ => rfl⟩
  · simp [Value.cells] at hcs
    obtain ⟨rfl, rfl, rfl⟩ := hcs
    have hzl : zs.length = cap := by simpa using hz
    have htl : (zs.take len).length = len := by rw [List.length_take]; omega
    refine ⟨zs.take len, some x, cap, by rw [htl], ⟨by rw [htl]; exact hl, hm, fun y hy => ?_, fun hn => ?_⟩, fun e => by cases e⟩
    · have := hwz y (List.mem_of_mem_take hy)
      have b : -9223372036854775808 ≤ y ∧ y ≤ 9223372036854775807 := by simpa [Lit.wf, IntKind.min, IntKind.max, IntKind.signed, IntKind.bits] using this
      exact b
    · have h0 : 0 < len := by
        rcases Nat.eq_zero_or_pos len with e | e
        · subst e; simp at hn
        · exact e
      have hc0 := hcell 0 (by omega)
      obtain ⟨b, o, spot⟩ := x
      have hspot : spot = none := by simpa [Addr.add] using World.cell?_spot hc0
      subst hspot
      have hbl := cell_lt hc0
      refine ⟨b, o, rfl, by simpa [Addr.add] using hbl, fun i y hy => ?_⟩
      have hi : i < len := by have := (List.getElem?_eq_some_iff.1 hy).1; omega
      have := hcell i (by omega)
      rw [Addr.add_mid] at this
      rw [this]
      rw [List.getElem?_take, if_pos hi] at hy
      simp [List.getD, hy]
end
end Go.Proofs.YtmldgfplnacecaaDoor

