/-
  Contracts: the document's Right, of a part.
  Contracts: the document's Size: how many nodes an expression has, up to some and one.
  Contracts: the document's Right, of an expression.
  Contracts: the document's Wrong, rises.
  Contracts: the document's rises.
-/
import Derived.Test.YtegkogadceodlaaXsc
import Derived.Test.YtegkogadceodlaaXsa
import Derived.IntWalk
import Derived.BigQuiet
namespace Go.Proofs.Ytegkogadceodlaa
open Go.RowKit Go.Shelf Go.Lib

theorem good_append (a b : List E) : goodE.all (a ++ b) = (goodE.all a && goodE.all b) := by
  induction a with
  | nil => rfl
  | cons e r ih => show (goodE e && goodE.all (r ++ b)) = (goodE e && goodE.all r && _); rw [ih, Bool.and_assoc]
theorem good_take {ks : List E} {i : Nat} {e : E} (h : ks[i]? = some e) : goodE.all (ks.take (i + 1)) = (goodE.all (ks.take i) && goodE e) := by
  rw [List.take_add_one, h, good_append]
  show (_ && (goodE e && true)) = _
  rw [Bool.and_true]
theorem good_stop {ks : List E} {i : Nat} (h : goodE.all (ks.take i) = false) : goodE.all ks = false := by
  have := good_append (ks.take i) (ks.drop i)
  rw [List.take_append_drop, h] at this
  simpa using this
theorem isC_iff (c : Int) : isC c = (decide (0 ≤ c) && decide (c ≤ 35)) := by
  unfold isC
  congr 1
  rw [decide_eq_decide]
  omega

set_option maxHeartbeats 16000000 in
theorem refRightP_any : ∀ N e, szE e ≤ N → ∀ v w, Nd w w.heap.size e v →
    Calls Try.prog 14 #[v, .bool true] w fun r w' => r = .returned (.bool (goodE e)) ∧ Below w.heap.size w w' := by
  intro N
  induction N with
  | zero => intro e h; have := szE_pos e; omega
  | succ N ih =>
    intro e he v w h
    obtain ⟨_, _, A, cap, rfl, hk⟩ := Nd_iff.1 h
    obtain ⟨W0, hW0⟩ : ∃ W0, w.alloc (.cells #[.int .i64 e.k, .int .i64 e.c, .slice A e.ks.length cap] 24) = W0 := ⟨_, rfl⟩
    have hb0 : Below w.heap.size w W0 := by rw [← hW0]; exact below_new _ _
    have hz0 : w.heap.size < W0.heap.size := by rw [← hW0]; simp
    have c1 : W0.cell? ⟨w.heap.size, 1, none⟩ = some (.int .i64 e.c) := by rw [← hW0]; simp
    have c2 : W0.cell? ⟨w.heap.size, 2, none⟩ = some (.slice A e.ks.length cap) := by rw [← hW0]; simp
    have hk0 := hk.on hb0
    have hln : e.ks.length ≤ 9223372036854775807 := by have := hk.l; have := hk.m; unfold maxLen at this; omega
    have hS := goodE_eq e
    have hkid := fun i f (hf : e.ks[i]? = some f) => szE_kid (List.mem_of_getElem? hf)
    have ih' : ∀ f, szE f < szE e → ∀ v w, Nd w w.heap.size f v → Calls Try.prog 14 #[v, .bool true] w fun r w' => r = .returned (.bool (goodE f)) ∧ Below w.heap.size w w' := fun f hf => ih f (by omega)
    obtain ⟨R, hR⟩ : ∃ R, goodE e = R := ⟨_, rfl⟩
    rw [hR] at hS ⊢
    generalize e.k = kk at *
    generalize e.c = cc at *
    generalize e.ks = ks at *
    obtain ⟨n, hn⟩ : ∃ n, ks.length = n := ⟨_, rfl⟩
    rw [hn] at hW0 c2 hln hS ⊢
    have HW := Lib.hid hW0
    have HK := Lib.hid (And.intro hk0 hb0)
    have HI := Lib.hid ih'
    have HKD := Lib.hid hkid
    have HN := Lib.hid hn
    have HS := Lib.hid hS
    clear hW0 hk hk0 hb0 ih ih' hkid hn h he hR hS
    by_cases k0 : kk < 0
    · obtain rfl : R = false := by rw [HS.out]; unfold shapedK; rw [if_neg (by omega), if_neg (by omega), if_neg (by omega), if_neg (by omega)]; simp
      go_enter Try.func14, Try.ntmps14
      go_wp2
      rw [HW.out]
      go_ret
      exact ⟨rfl, HK.out.2⟩
    have q0 : decide (kk < 0) = false := by simp; omega
    by_cases k1 : 9 < kk
    · obtain rfl : R = false := by rw [HS.out]; unfold shapedK; rw [if_neg (by omega), if_neg (by omega), if_neg (by omega), if_neg (by omega)]; simp
      clear k0
      go_enter Try.func14, Try.ntmps14
      go_wp2
      rw [HW.out]
      go_ret
      exact ⟨rfl, HK.out.2⟩
    have q1 : decide (9 < kk) = false := by simp; omega
    by_cases k9 : kk = 9
    · subst k9
      obtain rfl : R = false := by rw [HS.out]; simp
      clear k0 k1
      go_enter Try.func14, Try.ntmps14
      go_wp2
      rw [HW.out]
      go_ret
      exact ⟨rfl, HK.out.2⟩
    have q9 : (kk == 9) = false := by simpa using k9
    have hkk : kk = 0 ∨ kk = 1 ∨ kk = 2 ∨ kk = 3 ∨ kk = 4 ∨ kk = 5 ∨ kk = 6 ∨ kk = 7 ∨ kk = 8 := by omega
    clear k0 k1 k9
    rcases hkk with rfl | rfl | rfl | rfl | rfl | rfl | rfl | rfl | rfl
    · have hR : R = (isC cc && decide (n = 0) && goodE.all ks) := HS.out
      rw [isC_iff] at hR
      by_cases n0 : n = 0
      · have hk0 : ks = [] := List.length_eq_zero_iff.1 (HN.out.trans n0)
        have e0 : goodE.all ([] : List E) = true := rfl
        subst n0
        by_cases h1 : 0 ≤ cc
        · by_cases h2 : cc ≤ 35
          · obtain rfl : R = true := by rw [hR, hk0, e0, decide_eq_true h1, decide_eq_true h2]; rfl
            clear hR hk0 e0
            go_enter Try.func14, Try.ntmps14
            go_wp2
            rw [HW.out]
            go_ret
            exact ⟨rfl, HK.out.2⟩
          · have h2' : decide (cc ≤ 35) = false := by simp; omega
            obtain rfl : R = false := by rw [hR, h2', Bool.and_false]; rfl
            clear hR hk0 e0 h2
            go_enter Try.func14, Try.ntmps14
            go_wp2
            rw [HW.out]
            go_ret
            exact ⟨rfl, HK.out.2⟩
        · have h1' : decide (0 ≤ cc) = false := by simp; omega
          obtain rfl : R = false := by rw [hR, h1']; rfl
          clear hR hk0 e0 h1
          go_enter Try.func14, Try.ntmps14
          go_wp2
          rw [HW.out]
          go_ret
          exact ⟨rfl, HK.out.2⟩
      · have n1 : ((n : Int) == 0) = false := by simpa using n0
        obtain rfl : R = false := by rw [hR, decide_eq_false n0]; simp
        clear hR n0
        go_enter Try.func14, Try.ntmps14
        go_wp2
        rw [HW.out]
        go_ret
        exact ⟨rfl, HK.out.2⟩
    · have hR : R = (decide (cc = 0) && decide (n = 0) && goodE.all ks) := HS.out
      by_cases n0 : n = 0
      · have hk0 : ks = [] := List.length_eq_zero_iff.1 (HN.out.trans n0)
        have e0 : goodE.all ([] : List E) = true := rfl
        subst n0
        by_cases h1 : cc = 0
        · subst h1
          obtain rfl : R = true := by rw [hR, hk0, e0]; rfl
          clear hR hk0 e0
          go_enter Try.func14, Try.ntmps14
          go_wp2
          rw [HW.out]
          go_ret
          exact ⟨rfl, HK.out.2⟩
        · have h1' : (cc == 0) = false := by simpa using h1
          obtain rfl : R = false := by rw [hR, decide_eq_false h1]; rfl
          clear hR hk0 e0 h1
          go_enter Try.func14, Try.ntmps14
          go_wp2
          rw [HW.out]
          go_ret
          exact ⟨rfl, HK.out.2⟩
      · have n1 : ((n : Int) == 0) = false := by simpa using n0
        obtain rfl : R = false := by rw [hR, decide_eq_false n0]; simp
        clear hR n0
        go_enter Try.func14, Try.ntmps14
        go_wp2
        rw [HW.out]
        go_ret
        exact ⟨rfl, HK.out.2⟩
    · have hR : R = (isC cc && decide (n = 0) && goodE.all ks) := HS.out
      rw [isC_iff] at hR
      by_cases n0 : n = 0
      · have hk0 : ks = [] := List.length_eq_zero_iff.1 (HN.out.trans n0)
        have e0 : goodE.all ([] : List E) = true := rfl
        subst n0
        by_cases h1 : 0 ≤ cc
        · by_cases h2 : cc ≤ 35
          · obtain rfl : R = true := by rw [hR, hk0, e0, decide_eq_true h1, decide_eq_true h2]; rfl
            clear hR hk0 e0
            go_enter Try.func14, Try.ntmps14
            go_wp2
            rw [HW.out]
            go_ret
            exact ⟨rfl, HK.out.2⟩
          · have h2' : decide (cc ≤ 35) = false := by simp; omega
            obtain rfl : R = false := by rw [hR, h2', Bool.and_false]; rfl
            clear hR hk0 e0 h2
            go_enter Try.func14, Try.ntmps14
            go_wp2
            rw [HW.out]
            go_ret
            exact ⟨rfl, HK.out.2⟩
        · have h1' : decide (0 ≤ cc) = false := by simp; omega
          obtain rfl : R = false := by rw [hR, h1']; rfl
          clear hR hk0 e0 h1
          go_enter Try.func14, Try.ntmps14
          go_wp2
          rw [HW.out]
          go_ret
          exact ⟨rfl, HK.out.2⟩
      · have n1 : ((n : Int) == 0) = false := by simpa using n0
        obtain rfl : R = false := by rw [hR, decide_eq_false n0]; simp
        clear hR n0
        go_enter Try.func14, Try.ntmps14
        go_wp2
        rw [HW.out]
        go_ret
        exact ⟨rfl, HK.out.2⟩
    · have hR : R = (decide (cc = 0) && decide (n = 0) && goodE.all ks) := HS.out
      by_cases n0 : n = 0
      · have hk0 : ks = [] := List.length_eq_zero_iff.1 (HN.out.trans n0)
        have e0 : goodE.all ([] : List E) = true := rfl
        subst n0
        by_cases h1 : cc = 0
        · subst h1
          obtain rfl : R = true := by rw [hR, hk0, e0]; rfl
          clear hR hk0 e0
          go_enter Try.func14, Try.ntmps14
          go_wp2
          rw [HW.out]
          go_ret
          exact ⟨rfl, HK.out.2⟩
        · have h1' : (cc == 0) = false := by simpa using h1
          obtain rfl : R = false := by rw [hR, decide_eq_false h1]; rfl
          clear hR hk0 e0 h1
          go_enter Try.func14, Try.ntmps14
          go_wp2
          rw [HW.out]
          go_ret
          exact ⟨rfl, HK.out.2⟩
      · have n1 : ((n : Int) == 0) = false := by simpa using n0
        obtain rfl : R = false := by rw [hR, decide_eq_false n0]; simp
        clear hR n0
        go_enter Try.func14, Try.ntmps14
        go_wp2
        rw [HW.out]
        go_ret
        exact ⟨rfl, HK.out.2⟩
    · have hR : R = (decide (cc = 0) && decide (2 ≤ n) && goodE.all ks) := HS.out
      by_cases hn1 : 2 ≤ n
      · have hR2 := Lib.hid (show R = (decide (cc = 0) && goodE.all ks) by rw [hR, decide_eq_true hn1, Bool.and_true])
        clear hR
        have n1 : decide ((n : Int) < 2) = false := by simp; omega
        go_enter Try.func14, Try.ntmps14
        go_wp2_with fail
        rw [HW.out]
        go_loopw [6] (fun i wr => ∃ k : Nat, i = .int .i64 k ∧ k ≤ n ∧ goodE.all (ks.take k) = true ∧ Below W0.heap.size W0 wr) (fun i _ => n - (RowKit.intOf i).toNat)
        case atStart => exact ⟨0, rfl, Nat.zero_le _, by rw [List.take_zero]; rfl, Below.refl _ _⟩
        case round =>
          obtain ⟨k, rfl, hkn, hyes, hb⟩ := hrel
          have c1' := (hb.cell (p := ⟨w.heap.size, 1, none⟩) hz0).trans c1
          have c2' := (hb.cell (p := ⟨w.heap.size, 2, none⟩) hz0).trans c2
          by_cases hlt : k < n
          · obtain ⟨f, hf⟩ : ∃ f, ks[k]? = some f := ⟨ks[k]'(by rw [HN.out]; exact hlt), List.getElem?_eq_getElem _⟩
            have i1 : (k : Int) < (n : Int) := by omega
            obtain ⟨b, o, rfl, hbl, hr⟩ := HK.out.1.r (by rintro rfl; simp at hf)
            obtain ⟨Af, capf, d0, d1, d2, hN⟩ := row_get' hr hf
            have d0' := (hb.cell (p := ⟨b, o + k * 3, none⟩) hbl).trans d0
            have d1' := (hb.cell (p := ⟨b, o + k * 3 + 1, none⟩) hbl).trans d1
            have d2' := (hb.cell (p := ⟨b, o + k * 3 + 2, none⟩) hbl).trans d2
            have hs := good_take hf
            rw [hyes, Bool.true_and] at hs
            have hC := HI.out f (HKD.out k f hf) _ wr ((hN.below hb).mono hb.size)
            obtain ⟨q, hq⟩ : ∃ q, goodE f = q := ⟨_, rfl⟩
            rw [hq] at hC hs
            replace hC := Lib.hid hC
            have HH := Lib.hid (And.intro hs (And.intro hb hlt))
            clear hs hb hN hr hbl hq hyes d0 d1 d2
            go_wp2_with fail
            refine hC.out.mono ?_
            rintro r w2 ⟨rfl, hb2⟩
            have HB2 := Lib.hid (HH.out.2.1.trans (hb2.mono HH.out.2.1.size))
            clear hb2
            cases q
            · obtain rfl : R = false := by rw [hR2.out, good_stop HH.out.1, Bool.and_false]
              go_wp2
              go_ret
              exact ⟨rfl, HK.out.2.trans (HB2.out.mono HK.out.2.size)⟩
            · go_wp2
              go_roundw
              case rel => exact ⟨k + 1, by go_num, by omega, HH.out.1, HB2.out⟩
              case measure => simp [RowKit.intOf]; omega
          · have hkn : k = n := by omega
            subst hkn
            have i1 : ¬ (k : Int) < (k : Int) := by omega
            have ht : ks.take k = ks := by rw [← HN.out, List.take_length]
            rw [ht] at hyes
            have HY := Lib.hid (And.intro hyes (HK.out.2.trans (hb.mono HK.out.2.size)))
            clear hb ht hyes
            by_cases hq : cc = 0
            · subst hq
              obtain rfl : R = true := by rw [hR2.out, HY.out.1]; rfl
              go_wp2
              go_ret
              exact ⟨rfl, HY.out.2⟩
            · have qc : (cc == 0) = false := by simpa using hq
              obtain rfl : R = false := by rw [hR2.out, decide_eq_false hq]; rfl
              clear hq
              go_wp2
              go_ret
              exact ⟨rfl, HY.out.2⟩
      · obtain rfl : R = false := by rw [hR, decide_eq_false hn1]; simp
        clear hR
        have n1 : ((n : Int) < 2) := by omega
        go_enter Try.func14, Try.ntmps14
        go_wp2
        rw [HW.out]
        go_ret
        exact ⟨rfl, HK.out.2⟩
    · have hR : R = (decide (cc = 0) && decide (2 ≤ n) && goodE.all ks) := HS.out
      by_cases hn1 : 2 ≤ n
      · have hR2 := Lib.hid (show R = (decide (cc = 0) && goodE.all ks) by rw [hR, decide_eq_true hn1, Bool.and_true])
        clear hR
        have n1 : decide ((n : Int) < 2) = false := by simp; omega
        go_enter Try.func14, Try.ntmps14
        go_wp2_with fail
        rw [HW.out]
        go_loopw [6] (fun i wr => ∃ k : Nat, i = .int .i64 k ∧ k ≤ n ∧ goodE.all (ks.take k) = true ∧ Below W0.heap.size W0 wr) (fun i _ => n - (RowKit.intOf i).toNat)
        case atStart => exact ⟨0, rfl, Nat.zero_le _, by rw [List.take_zero]; rfl, Below.refl _ _⟩
        case round =>
          obtain ⟨k, rfl, hkn, hyes, hb⟩ := hrel
          have c1' := (hb.cell (p := ⟨w.heap.size, 1, none⟩) hz0).trans c1
          have c2' := (hb.cell (p := ⟨w.heap.size, 2, none⟩) hz0).trans c2
          by_cases hlt : k < n
          · obtain ⟨f, hf⟩ : ∃ f, ks[k]? = some f := ⟨ks[k]'(by rw [HN.out]; exact hlt), List.getElem?_eq_getElem _⟩
            have i1 : (k : Int) < (n : Int) := by omega
            obtain ⟨b, o, rfl, hbl, hr⟩ := HK.out.1.r (by rintro rfl; simp at hf)
            obtain ⟨Af, capf, d0, d1, d2, hN⟩ := row_get' hr hf
            have d0' := (hb.cell (p := ⟨b, o + k * 3, none⟩) hbl).trans d0
            have d1' := (hb.cell (p := ⟨b, o + k * 3 + 1, none⟩) hbl).trans d1
            have d2' := (hb.cell (p := ⟨b, o + k * 3 + 2, none⟩) hbl).trans d2
            have hs := good_take hf
            rw [hyes, Bool.true_and] at hs
            have hC := HI.out f (HKD.out k f hf) _ wr ((hN.below hb).mono hb.size)
            obtain ⟨q, hq⟩ : ∃ q, goodE f = q := ⟨_, rfl⟩
            rw [hq] at hC hs
            replace hC := Lib.hid hC
            have HH := Lib.hid (And.intro hs (And.intro hb hlt))
            clear hs hb hN hr hbl hq hyes d0 d1 d2
            go_wp2_with fail
            refine hC.out.mono ?_
            rintro r w2 ⟨rfl, hb2⟩
            have HB2 := Lib.hid (HH.out.2.1.trans (hb2.mono HH.out.2.1.size))
            clear hb2
            cases q
            · obtain rfl : R = false := by rw [hR2.out, good_stop HH.out.1, Bool.and_false]
              go_wp2
              go_ret
              exact ⟨rfl, HK.out.2.trans (HB2.out.mono HK.out.2.size)⟩
            · go_wp2
              go_roundw
              case rel => exact ⟨k + 1, by go_num, by omega, HH.out.1, HB2.out⟩
              case measure => simp [RowKit.intOf]; omega
          · have hkn : k = n := by omega
            subst hkn
            have i1 : ¬ (k : Int) < (k : Int) := by omega
            have ht : ks.take k = ks := by rw [← HN.out, List.take_length]
            rw [ht] at hyes
            have HY := Lib.hid (And.intro hyes (HK.out.2.trans (hb.mono HK.out.2.size)))
            clear hb ht hyes
            by_cases hq : cc = 0
            · subst hq
              obtain rfl : R = true := by rw [hR2.out, HY.out.1]; rfl
              go_wp2
              go_ret
              exact ⟨rfl, HY.out.2⟩
            · have qc : (cc == 0) = false := by simpa using hq
              obtain rfl : R = false := by rw [hR2.out, decide_eq_false hq]; rfl
              clear hq
              go_wp2
              go_ret
              exact ⟨rfl, HY.out.2⟩
      · obtain rfl : R = false := by rw [hR, decide_eq_false hn1]; simp
        clear hR
        have n1 : ((n : Int) < 2) := by omega
        go_enter Try.func14, Try.ntmps14
        go_wp2
        rw [HW.out]
        go_ret
        exact ⟨rfl, HK.out.2⟩
    · have hR : R = (decide (cc = 0) && decide (n = 1) && goodE.all ks) := HS.out
      by_cases hn1 : n = 1
      · have hR2 := Lib.hid (show R = (decide (cc = 0) && goodE.all ks) by rw [hR, decide_eq_true hn1, Bool.and_true])
        clear hR
        subst hn1
        go_enter Try.func14, Try.ntmps14
        go_wp2_with fail
        rw [HW.out]
        go_loopw [6] (fun i wr => ∃ k : Nat, i = .int .i64 k ∧ k ≤ 1 ∧ goodE.all (ks.take k) = true ∧ Below W0.heap.size W0 wr) (fun i _ => 1 - (RowKit.intOf i).toNat)
        case atStart => exact ⟨0, rfl, Nat.zero_le _, by rw [List.take_zero]; rfl, Below.refl _ _⟩
        case round =>
          obtain ⟨k, rfl, hkn, hyes, hb⟩ := hrel
          have c1' := (hb.cell (p := ⟨w.heap.size, 1, none⟩) hz0).trans c1
          have c2' := (hb.cell (p := ⟨w.heap.size, 2, none⟩) hz0).trans c2
          by_cases hlt : k < 1
          · obtain ⟨f, hf⟩ : ∃ f, ks[k]? = some f := ⟨ks[k]'(by rw [HN.out]; exact hlt), List.getElem?_eq_getElem _⟩
            have i1 : (k : Int) < (1 : Int) := by omega
            obtain ⟨b, o, rfl, hbl, hr⟩ := HK.out.1.r (by rintro rfl; simp at hf)
            obtain ⟨Af, capf, d0, d1, d2, hN⟩ := row_get' hr hf
            have d0' := (hb.cell (p := ⟨b, o + k * 3, none⟩) hbl).trans d0
            have d1' := (hb.cell (p := ⟨b, o + k * 3 + 1, none⟩) hbl).trans d1
            have d2' := (hb.cell (p := ⟨b, o + k * 3 + 2, none⟩) hbl).trans d2
            have hs := good_take hf
            rw [hyes, Bool.true_and] at hs
            have hC := HI.out f (HKD.out k f hf) _ wr ((hN.below hb).mono hb.size)
            obtain ⟨q, hq⟩ : ∃ q, goodE f = q := ⟨_, rfl⟩
            rw [hq] at hC hs
            replace hC := Lib.hid hC
            have HH := Lib.hid (And.intro hs (And.intro hb hlt))
            clear hs hb hN hr hbl hq hyes d0 d1 d2
            go_wp2_with fail
            refine hC.out.mono ?_
            rintro r w2 ⟨rfl, hb2⟩
            have HB2 := Lib.hid (HH.out.2.1.trans (hb2.mono HH.out.2.1.size))
            clear hb2
            cases q
            · obtain rfl : R = false := by rw [hR2.out, good_stop HH.out.1, Bool.and_false]
              go_wp2
              go_ret
              exact ⟨rfl, HK.out.2.trans (HB2.out.mono HK.out.2.size)⟩
            · go_wp2
              go_roundw
              case rel => exact ⟨k + 1, by go_num, by omega, HH.out.1, HB2.out⟩
              case measure => simp [RowKit.intOf]; omega
          · have hkn : k = 1 := by omega
            subst hkn
            have ht : ks.take 1 = ks := List.take_of_length_le (by rw [HN.out]; omega)
            rw [ht] at hyes
            have HY := Lib.hid (And.intro hyes (HK.out.2.trans (hb.mono HK.out.2.size)))
            clear hb ht hyes
            by_cases hq : cc = 0
            · subst hq
              obtain rfl : R = true := by rw [hR2.out, HY.out.1]; rfl
              go_wp2
              go_ret
              exact ⟨rfl, HY.out.2⟩
            · have qc : (cc == 0) = false := by simpa using hq
              obtain rfl : R = false := by rw [hR2.out, decide_eq_false hq]; rfl
              clear hq
              go_wp2
              go_ret
              exact ⟨rfl, HY.out.2⟩
      · obtain rfl : R = false := by rw [hR, decide_eq_false hn1]; simp
        clear hR
        have n1 : ((n : Int) == 1) = false := by simp; omega
        have n1b : ((n : Int) != 1) = true := by simp; omega
        go_enter Try.func14, Try.ntmps14
        go_wp2
        rw [HW.out]
        go_ret
        exact ⟨rfl, HK.out.2⟩
    · have hR : R = (decide (cc = 0) && decide (n = 1) && goodE.all ks) := HS.out
      by_cases hn1 : n = 1
      · have hR2 := Lib.hid (show R = (decide (cc = 0) && goodE.all ks) by rw [hR, decide_eq_true hn1, Bool.and_true])
        clear hR
        subst hn1
        go_enter Try.func14, Try.ntmps14
        go_wp2_with fail
        rw [HW.out]
        go_loopw [6] (fun i wr => ∃ k : Nat, i = .int .i64 k ∧ k ≤ 1 ∧ goodE.all (ks.take k) = true ∧ Below W0.heap.size W0 wr) (fun i _ => 1 - (RowKit.intOf i).toNat)
        case atStart => exact ⟨0, rfl, Nat.zero_le _, by rw [List.take_zero]; rfl, Below.refl _ _⟩
        case round =>
          obtain ⟨k, rfl, hkn, hyes, hb⟩ := hrel
          have c1' := (hb.cell (p := ⟨w.heap.size, 1, none⟩) hz0).trans c1
          have c2' := (hb.cell (p := ⟨w.heap.size, 2, none⟩) hz0).trans c2
          by_cases hlt : k < 1
          · obtain ⟨f, hf⟩ : ∃ f, ks[k]? = some f := ⟨ks[k]'(by rw [HN.out]; exact hlt), List.getElem?_eq_getElem _⟩
            have i1 : (k : Int) < (1 : Int) := by omega
            obtain ⟨b, o, rfl, hbl, hr⟩ := HK.out.1.r (by rintro rfl; simp at hf)
            obtain ⟨Af, capf, d0, d1, d2, hN⟩ := row_get' hr hf
            have d0' := (hb.cell (p := ⟨b, o + k * 3, none⟩) hbl).trans d0
            have d1' := (hb.cell (p := ⟨b, o + k * 3 + 1, none⟩) hbl).trans d1
            have d2' := (hb.cell (p := ⟨b, o + k * 3 + 2, none⟩) hbl).trans d2
            have hs := good_take hf
            rw [hyes, Bool.true_and] at hs
            have hC := HI.out f (HKD.out k f hf) _ wr ((hN.below hb).mono hb.size)
            obtain ⟨q, hq⟩ : ∃ q, goodE f = q := ⟨_, rfl⟩
            rw [hq] at hC hs
            replace hC := Lib.hid hC
            have HH := Lib.hid (And.intro hs (And.intro hb hlt))
            clear hs hb hN hr hbl hq hyes d0 d1 d2
            go_wp2_with fail
            refine hC.out.mono ?_
            rintro r w2 ⟨rfl, hb2⟩
            have HB2 := Lib.hid (HH.out.2.1.trans (hb2.mono HH.out.2.1.size))
            clear hb2
            cases q
            · obtain rfl : R = false := by rw [hR2.out, good_stop HH.out.1, Bool.and_false]
              go_wp2
              go_ret
              exact ⟨rfl, HK.out.2.trans (HB2.out.mono HK.out.2.size)⟩
            · go_wp2
              go_roundw
              case rel => exact ⟨k + 1, by go_num, by omega, HH.out.1, HB2.out⟩
              case measure => simp [RowKit.intOf]; omega
          · have hkn : k = 1 := by omega
            subst hkn
            have ht : ks.take 1 = ks := List.take_of_length_le (by rw [HN.out]; omega)
            rw [ht] at hyes
            have HY := Lib.hid (And.intro hyes (HK.out.2.trans (hb.mono HK.out.2.size)))
            clear hb ht hyes
            by_cases hq : cc = 0
            · subst hq
              obtain rfl : R = true := by rw [hR2.out, HY.out.1]; rfl
              go_wp2
              go_ret
              exact ⟨rfl, HY.out.2⟩
            · have qc : (cc == 0) = false := by simpa using hq
              obtain rfl : R = false := by rw [hR2.out, decide_eq_false hq]; rfl
              clear hq
              go_wp2
              go_ret
              exact ⟨rfl, HY.out.2⟩
      · obtain rfl : R = false := by rw [hR, decide_eq_false hn1]; simp
        clear hR
        have n1 : ((n : Int) == 1) = false := by simp; omega
        have n1b : ((n : Int) != 1) = true := by simp; omega
        go_enter Try.func14, Try.ntmps14
        go_wp2
        rw [HW.out]
        go_ret
        exact ⟨rfl, HK.out.2⟩
    · have hR : R = (decide (cc = 0) && decide (n = 1) && goodE.all ks) := HS.out
      by_cases hn1 : n = 1
      · have hR2 := Lib.hid (show R = (decide (cc = 0) && goodE.all ks) by rw [hR, decide_eq_true hn1, Bool.and_true])
        clear hR
        subst hn1
        go_enter Try.func14, Try.ntmps14
        go_wp2_with fail
        rw [HW.out]
        go_loopw [6] (fun i wr => ∃ k : Nat, i = .int .i64 k ∧ k ≤ 1 ∧ goodE.all (ks.take k) = true ∧ Below W0.heap.size W0 wr) (fun i _ => 1 - (RowKit.intOf i).toNat)
        case atStart => exact ⟨0, rfl, Nat.zero_le _, by rw [List.take_zero]; rfl, Below.refl _ _⟩
        case round =>
          obtain ⟨k, rfl, hkn, hyes, hb⟩ := hrel
          have c1' := (hb.cell (p := ⟨w.heap.size, 1, none⟩) hz0).trans c1
          have c2' := (hb.cell (p := ⟨w.heap.size, 2, none⟩) hz0).trans c2
          by_cases hlt : k < 1
          · obtain ⟨f, hf⟩ : ∃ f, ks[k]? = some f := ⟨ks[k]'(by rw [HN.out]; exact hlt), List.getElem?_eq_getElem _⟩
            have i1 : (k : Int) < (1 : Int) := by omega
            obtain ⟨b, o, rfl, hbl, hr⟩ := HK.out.1.r (by rintro rfl; simp at hf)
            obtain ⟨Af, capf, d0, d1, d2, hN⟩ := row_get' hr hf
            have d0' := (hb.cell (p := ⟨b, o + k * 3, none⟩) hbl).trans d0
            have d1' := (hb.cell (p := ⟨b, o + k * 3 + 1, none⟩) hbl).trans d1
            have d2' := (hb.cell (p := ⟨b, o + k * 3 + 2, none⟩) hbl).trans d2
            have hs := good_take hf
            rw [hyes, Bool.true_and] at hs
            have hC := HI.out f (HKD.out k f hf) _ wr ((hN.below hb).mono hb.size)
            obtain ⟨q, hq⟩ : ∃ q, goodE f = q := ⟨_, rfl⟩
            rw [hq] at hC hs
            replace hC := Lib.hid hC
            have HH := Lib.hid (And.intro hs (And.intro hb hlt))
            clear hs hb hN hr hbl hq hyes d0 d1 d2
            go_wp2_with fail
            refine hC.out.mono ?_
            rintro r w2 ⟨rfl, hb2⟩
            have HB2 := Lib.hid (HH.out.2.1.trans (hb2.mono HH.out.2.1.size))
            clear hb2
            cases q
            · obtain rfl : R = false := by rw [hR2.out, good_stop HH.out.1, Bool.and_false]
              go_wp2
              go_ret
              exact ⟨rfl, HK.out.2.trans (HB2.out.mono HK.out.2.size)⟩
            · go_wp2
              go_roundw
              case rel => exact ⟨k + 1, by go_num, by omega, HH.out.1, HB2.out⟩
              case measure => simp [RowKit.intOf]; omega
          · have hkn : k = 1 := by omega
            subst hkn
            have ht : ks.take 1 = ks := List.take_of_length_le (by rw [HN.out]; omega)
            rw [ht] at hyes
            have HY := Lib.hid (And.intro hyes (HK.out.2.trans (hb.mono HK.out.2.size)))
            clear hb ht hyes
            by_cases hq : cc = 0
            · subst hq
              obtain rfl : R = true := by rw [hR2.out, HY.out.1]; rfl
              go_wp2
              go_ret
              exact ⟨rfl, HY.out.2⟩
            · have qc : (cc == 0) = false := by simpa using hq
              obtain rfl : R = false := by rw [hR2.out, decide_eq_false hq]; rfl
              clear hq
              go_wp2
              go_ret
              exact ⟨rfl, HY.out.2⟩
      · obtain rfl : R = false := by rw [hR, decide_eq_false hn1]; simp
        clear hR
        have n1 : ((n : Int) == 1) = false := by simp; omega
        have n1b : ((n : Int) != 1) = true := by simp; omega
        go_enter Try.func14, Try.ntmps14
        go_wp2
        rw [HW.out]
        go_ret
        exact ⟨rfl, HK.out.2⟩
end Go.Proofs.Ytegkogadceodlaa

namespace Go.Proofs.Ytegkogadceodlaa
open Go.RowKit Go.Shelf Go.Lib

set_option maxHeartbeats 2000000 in
theorem size_any : ∀ N e, szE e ≤ N → ∀ v (m : Nat) w, Nd w w.heap.size e v → m ≤ 100000 →
    Calls Try.prog 36 #[v, .int .i64 m] w fun r w' => r = .returned (.int .i64 ((min (szE e) (m + 1) : Nat) : Int)) ∧ Below w.heap.size w w' := by
  intro N
  induction N with
  | zero => intro e h; have := szE_pos e; omega
  | succ N ih =>
    intro e he v m w h hm
    obtain ⟨_, _, A, cap, rfl, hk⟩ := Nd_iff.1 h
    obtain ⟨W0, hW0⟩ : ∃ W0, w.alloc (.cells #[.int .i64 e.k, .int .i64 e.c, .slice A e.ks.length cap] 24) = W0 := ⟨_, rfl⟩
    have hb0 : Below w.heap.size w W0 := by rw [← hW0]; exact below_new _ _
    have hz0 : w.heap.size < W0.heap.size := by rw [← hW0]; simp
    have c2 : W0.cell? ⟨w.heap.size, 2, none⟩ = some (.slice A e.ks.length cap) := by rw [← hW0]; simp
    have hk0 := hk.on hb0
    have hS := szE_eq e
    have hkid := fun i f (hf : e.ks[i]? = some f) => szE_kid (List.mem_of_getElem? hf)
    have hln : e.ks.length ≤ 9223372036854775807 := by have := hk.l; have := hk.m; unfold maxLen at this; omega
    generalize e.k = kk at *
    generalize e.c = cc at *
    generalize e.ks = ks at *
    generalize szE e = S at *
    obtain ⟨n, hn⟩ : ∃ n, ks.length = n := ⟨_, rfl⟩
    obtain ⟨R, hR⟩ : ∃ R, min S (m + 1) = R := ⟨_, rfl⟩
    rw [hR]
    have HR := Lib.hid hR
    have HS := Lib.hid hS
    have HW := Lib.hid hW0
    have HK := Lib.hid (And.intro hk0 hb0)
    have HI := Lib.hid ih
    have HKD := Lib.hid hkid
    have HN := Lib.hid hn
    rw [hn] at c2 hln
    rw [hn] at HW ⊢
    clear hW0 hk hk0 hb0 ih hkid hn h hR hS
    go_enter Try.func36, Try.ntmps36
    go_wp2_with fail
    rw [HW.out]
    go_loopw [5, 6] (fun s i wr => ∃ k : Nat, i = .int .i64 k ∧ k ≤ n ∧ s = .int .i64 ((min (1 + szL (ks.take k)) (m + 1) : Nat) : Int) ∧ Below W0.heap.size W0 wr) (fun _ i _ => n - (RowKit.intOf i).toNat)
    case atStart =>
      have h0 : min (1 + szL (ks.take 0)) (m + 1) = 1 := by rw [List.take_zero]; show min (1 + 0) (m + 1) = 1; omega
      exact ⟨0, rfl, Nat.zero_le _, by rw [h0]; rfl, Below.refl _ _⟩
    case round =>
      obtain ⟨k, rfl, hkn, rfl, hb⟩ := hrel
      have c2' := (hb.cell (p := ⟨w.heap.size, 2, none⟩) hz0).trans c2
      by_cases hlt : k < n
      · obtain ⟨f, hf⟩ : ∃ f, ks[k]? = some f := ⟨ks[k]'(by rw [HN.out]; exact hlt), List.getElem?_eq_getElem _⟩
        have i1 : (k : Int) < (n : Int) := by omega
        obtain ⟨b, o, rfl, hbl, hr⟩ := HK.out.1.r (by rintro rfl; simp at hf)
        obtain ⟨x, y, z, d0, d1, d2, hN⟩ := row_get hr hf
        have d0' := (hb.cell (p := ⟨b, o + k * 3, none⟩) hbl).trans d0
        have d1' := (hb.cell (p := ⟨b, o + k * 3 + 1, none⟩) hbl).trans d1
        have d2' := (hb.cell (p := ⟨b, o + k * 3 + 2, none⟩) hbl).trans d2
        have hs := szL_take hf
        have hl := HKD.out k f hf
        obtain ⟨s, hse⟩ : ∃ s, min (1 + szL (ks.take k)) (m + 1) = s := ⟨_, rfl⟩
        rw [hse]
        by_cases hsm : s ≤ m
        · have i2 : (s : Int) ≤ (m : Int) := by omega
          have hC := HI.out f (by omega) (.agg #[x, y, z]) (m - s) wr ((hN.below hb).mono hb.size) (by omega)
          have hsub : ((m - s : Nat) : Int) = (m : Int) - (s : Int) := by omega
          rw [hsub] at hC
          have hC := Lib.hid hC
          go_wp2_with fail
          refine hC.out.mono ?_
          rintro r w2 ⟨rfl, hb2⟩
          have hbz := hb.trans (hb2.mono hb.size)
          obtain ⟨t, ht⟩ : ∃ t, min (szE f) (m - s + 1) = t := ⟨_, rfl⟩
          have htb : s + t ≤ 200001 := by omega
          have hsum : min (1 + szL (ks.take (k + 1))) (m + 1) = s + t := by rw [hs]; omega
          rw [ht]
          have hsum' := Lib.hid hsum
          have hw : wrap64 ((s : Int) + (t : Int)) = (s : Int) + (t : Int) := by unfold wrap64; omega
          clear hC hb2 hb hsum hs hl hse ht hm htb hsm he i2 hsub
          go_wp2
          go_roundw
          case rel =>
            have e2 : ((s : Int) + (t : Int)) = ((s + t : Nat) : Int) := (Int.natCast_add s t).symm
            exact ⟨k + 1, by go_num, by omega, by rw [hsum'.out, hw, e2], hbz⟩
          case measure => simp [RowKit.intOf]; omega
        · have i2 : decide ((s : Int) ≤ (m : Int)) = false := by simp; omega
          go_wp2_with fail
          go_wp2
          go_ret
          have h1 := szL_take_le ks k
          have h2 := HS.out
          obtain rfl : R = s := by rw [← HR.out]; omega
          exact ⟨rfl, HK.out.2.trans (hb.mono HK.out.2.size)⟩
      · have hkn : k = n := by omega
        subst hkn
        have i1 : ¬ (k : Int) < (k : Int) := by omega
        have ht : ks.take k = ks := by rw [← HN.out, List.take_length]
        have hq : min (1 + szL (ks.take k)) (m + 1) = R := by rw [ht, ← HS.out, HR.out]
        rw [hq]
        go_wp2
        go_ret
        exact ⟨rfl, HK.out.2.trans (hb.mono HK.out.2.size)⟩
end Go.Proofs.Ytegkogadceodlaa

namespace Go.Proofs.Ytegkogadceodlaa
open Go.RowKit Go.Shelf Go.Lib

set_option maxHeartbeats 16000000 in
theorem refRight_any (e : E) (v : Value) (w : World) (h : Nd w w.heap.size e v) :
    Calls Try.prog 14 #[v, .bool false] w fun r w' => r = .returned (.bool (rightE e)) ∧ Below w.heap.size w w' := by
    obtain ⟨_, _, A, cap, rfl, hk⟩ := Nd_iff.1 h
    obtain ⟨W0, hW0⟩ : ∃ W0, w.alloc (.cells #[.int .i64 e.k, .int .i64 e.c, .slice A e.ks.length cap] 24) = W0 := ⟨_, rfl⟩
    have hb0 : Below w.heap.size w W0 := by rw [← hW0]; exact below_new _ _
    have hz0 : w.heap.size < W0.heap.size := by rw [← hW0]; simp
    have c0 : W0.cell? ⟨w.heap.size, 0, none⟩ = some (.int .i64 e.k) := by rw [← hW0]; simp
    have c1 : W0.cell? ⟨w.heap.size, 1, none⟩ = some (.int .i64 e.c) := by rw [← hW0]; simp
    have c2 : W0.cell? ⟨w.heap.size, 2, none⟩ = some (.slice A e.ks.length cap) := by rw [← hW0]; simp
    have hk0 := hk.on hb0
    have hln : e.ks.length ≤ 9223372036854775807 := by have := hk.l; have := hk.m; unfold maxLen at this; omega
    have hC := size_any _ e (Nat.le_refl _) _ 2000 W0 (h.on hb0) (by omega)
    have hbig : 2000 < szE e → rightE e = false := fun hs => by
      rcases hr : rightE e with _ | _
      · rfl
      · have := right_size hr; omega
    have hsm : ¬ 2000 < szE e → rightE e = if e.k = 9 then shapedK e.k e.c e.ks.length else (decide (e.k ≠ 9) && shapedK e.k e.c e.ks.length && goodE.all e.ks) := fun hs => by
      by_cases h9 : e.k = 9
      · rw [if_pos h9]; unfold rightE; rw [if_pos h9]
      · rw [if_neg h9, rightE_good h9, goodE_eq, decide_eq_true (show szE e ≤ 2000 by omega), Bool.and_true]
    have ih' : ∀ f v w, Nd w w.heap.size f v → Calls Try.prog 14 #[v, .bool true] w fun r w' => r = .returned (.bool (goodE f)) ∧ Below w.heap.size w w' := fun f => refRightP_any _ f (Nat.le_refl _)
    obtain ⟨R, hR⟩ : ∃ R, rightE e = R := ⟨_, rfl⟩
    rw [hR] at hbig hsm ⊢
    obtain ⟨sv, hsv⟩ : ∃ sv, min (szE e) (2000 + 1) = sv := ⟨_, rfl⟩
    rw [hsv] at hC
    have hsv1 : 2000 < szE e → 2000 < sv := by omega
    have hsv2 : ¬ 2000 < szE e → ¬ 2000 < sv := by omega
    generalize szE e = S at *
    generalize e.k = kk at *
    generalize e.c = cc at *
    generalize e.ks = ks at *
    obtain ⟨n, hn⟩ : ∃ n, ks.length = n := ⟨_, rfl⟩
    rw [hn] at hW0 c2 hln hsm hC ⊢
    have HW := Lib.hid hW0
    have HK := Lib.hid (And.intro hk0 hb0)
    have HI := Lib.hid ih'
    have HN := Lib.hid hn
    have HC := Lib.hid hC
    clear hW0 hk hk0 hb0 ih' hn h hR hC hsv
    by_cases big : 2000 < S
    · obtain rfl : R = false := hbig big
      have i0 : (2000 : Int) < (sv : Int) := by have := hsv1 big; omega
      clear hbig hsm hsv1 hsv2 big
      go_enter Try.func14, Try.ntmps14
      go_wp2_with fail
      rw [HW.out]
      refine HC.out.mono ?_
      rintro r w1 ⟨rfl, hb1⟩
      have c0' := (hb1.cell (p := ⟨w.heap.size, 0, none⟩) hz0).trans c0
      have c1' := (hb1.cell (p := ⟨w.heap.size, 1, none⟩) hz0).trans c1
      have c2' := (hb1.cell (p := ⟨w.heap.size, 2, none⟩) hz0).trans c2
      have HZ := Lib.hid (HK.out.2.trans (hb1.mono HK.out.2.size))
      clear hb1
      go_wp2
      go_ret
      exact ⟨rfl, HZ.out⟩
    have HS := Lib.hid (hsm big)
    have i0 : decide ((2000 : Int) < (sv : Int)) = false := by have := hsv2 big; simp; omega
    clear hbig hsm hsv1 hsv2 big
    by_cases k0 : kk < 0
    · obtain rfl : R = false := by rw [HS.out, if_neg (by omega)]; unfold shapedK; rw [if_neg (by omega), if_neg (by omega), if_neg (by omega), if_neg (by omega)]; simp
      go_enter Try.func14, Try.ntmps14
      go_wp2_with fail
      rw [HW.out]
      refine HC.out.mono ?_
      rintro r w1 ⟨rfl, hb1⟩
      have c0' := (hb1.cell (p := ⟨w.heap.size, 0, none⟩) hz0).trans c0
      have c1' := (hb1.cell (p := ⟨w.heap.size, 1, none⟩) hz0).trans c1
      have c2' := (hb1.cell (p := ⟨w.heap.size, 2, none⟩) hz0).trans c2
      have HZ := Lib.hid (HK.out.2.trans (hb1.mono HK.out.2.size))
      clear hb1
      go_wp2
      go_ret
      exact ⟨rfl, HZ.out⟩
    have q0 : decide (kk < 0) = false := by simp; omega
    by_cases k1 : 9 < kk
    · obtain rfl : R = false := by rw [HS.out, if_neg (by omega)]; unfold shapedK; rw [if_neg (by omega), if_neg (by omega), if_neg (by omega), if_neg (by omega)]; simp
      clear k0
      go_enter Try.func14, Try.ntmps14
      go_wp2_with fail
      rw [HW.out]
      refine HC.out.mono ?_
      rintro r w1 ⟨rfl, hb1⟩
      have c0' := (hb1.cell (p := ⟨w.heap.size, 0, none⟩) hz0).trans c0
      have c1' := (hb1.cell (p := ⟨w.heap.size, 1, none⟩) hz0).trans c1
      have c2' := (hb1.cell (p := ⟨w.heap.size, 2, none⟩) hz0).trans c2
      have HZ := Lib.hid (HK.out.2.trans (hb1.mono HK.out.2.size))
      clear hb1
      go_wp2
      go_ret
      exact ⟨rfl, HZ.out⟩
    have q1 : decide (9 < kk) = false := by simp; omega
    by_cases k9 : kk = 9
    · subst k9
      clear k0 k1
      have hR : R = (decide (cc = 0) && decide (n = 0)) := HS.out
      by_cases n0 : n = 0
      · have hk0 : ks = [] := List.length_eq_zero_iff.1 (HN.out.trans n0)
        have e0 : goodE.all ([] : List E) = true := rfl
        subst n0
        by_cases h1 : cc = 0
        · subst h1
          obtain rfl : R = true := by rw [hR]; rfl
          clear hR hk0 e0
          go_enter Try.func14, Try.ntmps14
          go_wp2_with fail
          rw [HW.out]
          refine HC.out.mono ?_
          rintro r w1 ⟨rfl, hb1⟩
          have c0' := (hb1.cell (p := ⟨w.heap.size, 0, none⟩) hz0).trans c0
          have c1' := (hb1.cell (p := ⟨w.heap.size, 1, none⟩) hz0).trans c1
          have c2' := (hb1.cell (p := ⟨w.heap.size, 2, none⟩) hz0).trans c2
          have HZ := Lib.hid (HK.out.2.trans (hb1.mono HK.out.2.size))
          clear hb1
          go_wp2
          go_ret
          exact ⟨rfl, HZ.out⟩
        · have h1' : (cc == 0) = false := by simpa using h1
          obtain rfl : R = false := by rw [hR, decide_eq_false h1]; rfl
          clear hR hk0 e0 h1
          go_enter Try.func14, Try.ntmps14
          go_wp2_with fail
          rw [HW.out]
          refine HC.out.mono ?_
          rintro r w1 ⟨rfl, hb1⟩
          have c0' := (hb1.cell (p := ⟨w.heap.size, 0, none⟩) hz0).trans c0
          have c1' := (hb1.cell (p := ⟨w.heap.size, 1, none⟩) hz0).trans c1
          have c2' := (hb1.cell (p := ⟨w.heap.size, 2, none⟩) hz0).trans c2
          have HZ := Lib.hid (HK.out.2.trans (hb1.mono HK.out.2.size))
          clear hb1
          go_wp2
          go_ret
          exact ⟨rfl, HZ.out⟩
      · have n1 : ((n : Int) == 0) = false := by simpa using n0
        obtain rfl : R = false := by rw [hR, decide_eq_false n0]; simp
        clear hR n0
        go_enter Try.func14, Try.ntmps14
        go_wp2_with fail
        rw [HW.out]
        refine HC.out.mono ?_
        rintro r w1 ⟨rfl, hb1⟩
        have c0' := (hb1.cell (p := ⟨w.heap.size, 0, none⟩) hz0).trans c0
        have c1' := (hb1.cell (p := ⟨w.heap.size, 1, none⟩) hz0).trans c1
        have c2' := (hb1.cell (p := ⟨w.heap.size, 2, none⟩) hz0).trans c2
        have HZ := Lib.hid (HK.out.2.trans (hb1.mono HK.out.2.size))
        clear hb1
        go_wp2
        go_ret
        exact ⟨rfl, HZ.out⟩
    have q9 : (kk == 9) = false := by simpa using k9
    have hkk : kk = 0 ∨ kk = 1 ∨ kk = 2 ∨ kk = 3 ∨ kk = 4 ∨ kk = 5 ∨ kk = 6 ∨ kk = 7 ∨ kk = 8 := by omega
    clear k0 k1 k9
    rcases hkk with rfl | rfl | rfl | rfl | rfl | rfl | rfl | rfl | rfl
    · have hR : R = (isC cc && decide (n = 0) && goodE.all ks) := HS.out
      rw [isC_iff] at hR
      by_cases n0 : n = 0
      · have hk0 : ks = [] := List.length_eq_zero_iff.1 (HN.out.trans n0)
        have e0 : goodE.all ([] : List E) = true := rfl
        subst n0
        by_cases h1 : 0 ≤ cc
        · by_cases h2 : cc ≤ 35
          · obtain rfl : R = true := by rw [hR, hk0, e0, decide_eq_true h1, decide_eq_true h2]; rfl
            clear hR hk0 e0
            go_enter Try.func14, Try.ntmps14
            go_wp2_with fail
            rw [HW.out]
            refine HC.out.mono ?_
            rintro r w1 ⟨rfl, hb1⟩
            have c0' := (hb1.cell (p := ⟨w.heap.size, 0, none⟩) hz0).trans c0
            have c1' := (hb1.cell (p := ⟨w.heap.size, 1, none⟩) hz0).trans c1
            have c2' := (hb1.cell (p := ⟨w.heap.size, 2, none⟩) hz0).trans c2
            have HZ := Lib.hid (HK.out.2.trans (hb1.mono HK.out.2.size))
            clear hb1
            go_wp2
            go_ret
            exact ⟨rfl, HZ.out⟩
          · have h2' : decide (cc ≤ 35) = false := by simp; omega
            obtain rfl : R = false := by rw [hR, h2', Bool.and_false]; rfl
            clear hR hk0 e0 h2
            go_enter Try.func14, Try.ntmps14
            go_wp2_with fail
            rw [HW.out]
            refine HC.out.mono ?_
            rintro r w1 ⟨rfl, hb1⟩
            have c0' := (hb1.cell (p := ⟨w.heap.size, 0, none⟩) hz0).trans c0
            have c1' := (hb1.cell (p := ⟨w.heap.size, 1, none⟩) hz0).trans c1
            have c2' := (hb1.cell (p := ⟨w.heap.size, 2, none⟩) hz0).trans c2
            have HZ := Lib.hid (HK.out.2.trans (hb1.mono HK.out.2.size))
            clear hb1
            go_wp2
            go_ret
            exact ⟨rfl, HZ.out⟩
        · have h1' : decide (0 ≤ cc) = false := by simp; omega
          obtain rfl : R = false := by rw [hR, h1']; rfl
          clear hR hk0 e0 h1
          go_enter Try.func14, Try.ntmps14
          go_wp2_with fail
          rw [HW.out]
          refine HC.out.mono ?_
          rintro r w1 ⟨rfl, hb1⟩
          have c0' := (hb1.cell (p := ⟨w.heap.size, 0, none⟩) hz0).trans c0
          have c1' := (hb1.cell (p := ⟨w.heap.size, 1, none⟩) hz0).trans c1
          have c2' := (hb1.cell (p := ⟨w.heap.size, 2, none⟩) hz0).trans c2
          have HZ := Lib.hid (HK.out.2.trans (hb1.mono HK.out.2.size))
          clear hb1
          go_wp2
          go_ret
          exact ⟨rfl, HZ.out⟩
      · have n1 : ((n : Int) == 0) = false := by simpa using n0
        obtain rfl : R = false := by rw [hR, decide_eq_false n0]; simp
        clear hR n0
        go_enter Try.func14, Try.ntmps14
        go_wp2_with fail
        rw [HW.out]
        refine HC.out.mono ?_
        rintro r w1 ⟨rfl, hb1⟩
        have c0' := (hb1.cell (p := ⟨w.heap.size, 0, none⟩) hz0).trans c0
        have c1' := (hb1.cell (p := ⟨w.heap.size, 1, none⟩) hz0).trans c1
        have c2' := (hb1.cell (p := ⟨w.heap.size, 2, none⟩) hz0).trans c2
        have HZ := Lib.hid (HK.out.2.trans (hb1.mono HK.out.2.size))
        clear hb1
        go_wp2
        go_ret
        exact ⟨rfl, HZ.out⟩
    · have hR : R = (decide (cc = 0) && decide (n = 0) && goodE.all ks) := HS.out
      by_cases n0 : n = 0
      · have hk0 : ks = [] := List.length_eq_zero_iff.1 (HN.out.trans n0)
        have e0 : goodE.all ([] : List E) = true := rfl
        subst n0
        by_cases h1 : cc = 0
        · subst h1
          obtain rfl : R = true := by rw [hR, hk0, e0]; rfl
          clear hR hk0 e0
          go_enter Try.func14, Try.ntmps14
          go_wp2_with fail
          rw [HW.out]
          refine HC.out.mono ?_
          rintro r w1 ⟨rfl, hb1⟩
          have c0' := (hb1.cell (p := ⟨w.heap.size, 0, none⟩) hz0).trans c0
          have c1' := (hb1.cell (p := ⟨w.heap.size, 1, none⟩) hz0).trans c1
          have c2' := (hb1.cell (p := ⟨w.heap.size, 2, none⟩) hz0).trans c2
          have HZ := Lib.hid (HK.out.2.trans (hb1.mono HK.out.2.size))
          clear hb1
          go_wp2
          go_ret
          exact ⟨rfl, HZ.out⟩
        · have h1' : (cc == 0) = false := by simpa using h1
          obtain rfl : R = false := by rw [hR, decide_eq_false h1]; rfl
          clear hR hk0 e0 h1
          go_enter Try.func14, Try.ntmps14
          go_wp2_with fail
          rw [HW.out]
          refine HC.out.mono ?_
          rintro r w1 ⟨rfl, hb1⟩
          have c0' := (hb1.cell (p := ⟨w.heap.size, 0, none⟩) hz0).trans c0
          have c1' := (hb1.cell (p := ⟨w.heap.size, 1, none⟩) hz0).trans c1
          have c2' := (hb1.cell (p := ⟨w.heap.size, 2, none⟩) hz0).trans c2
          have HZ := Lib.hid (HK.out.2.trans (hb1.mono HK.out.2.size))
          clear hb1
          go_wp2
          go_ret
          exact ⟨rfl, HZ.out⟩
      · have n1 : ((n : Int) == 0) = false := by simpa using n0
        obtain rfl : R = false := by rw [hR, decide_eq_false n0]; simp
        clear hR n0
        go_enter Try.func14, Try.ntmps14
        go_wp2_with fail
        rw [HW.out]
        refine HC.out.mono ?_
        rintro r w1 ⟨rfl, hb1⟩
        have c0' := (hb1.cell (p := ⟨w.heap.size, 0, none⟩) hz0).trans c0
        have c1' := (hb1.cell (p := ⟨w.heap.size, 1, none⟩) hz0).trans c1
        have c2' := (hb1.cell (p := ⟨w.heap.size, 2, none⟩) hz0).trans c2
        have HZ := Lib.hid (HK.out.2.trans (hb1.mono HK.out.2.size))
        clear hb1
        go_wp2
        go_ret
        exact ⟨rfl, HZ.out⟩
    · have hR : R = (isC cc && decide (n = 0) && goodE.all ks) := HS.out
      rw [isC_iff] at hR
      by_cases n0 : n = 0
      · have hk0 : ks = [] := List.length_eq_zero_iff.1 (HN.out.trans n0)
        have e0 : goodE.all ([] : List E) = true := rfl
        subst n0
        by_cases h1 : 0 ≤ cc
        · by_cases h2 : cc ≤ 35
          · obtain rfl : R = true := by rw [hR, hk0, e0, decide_eq_true h1, decide_eq_true h2]; rfl
            clear hR hk0 e0
            go_enter Try.func14, Try.ntmps14
            go_wp2_with fail
            rw [HW.out]
            refine HC.out.mono ?_
            rintro r w1 ⟨rfl, hb1⟩
            have c0' := (hb1.cell (p := ⟨w.heap.size, 0, none⟩) hz0).trans c0
            have c1' := (hb1.cell (p := ⟨w.heap.size, 1, none⟩) hz0).trans c1
            have c2' := (hb1.cell (p := ⟨w.heap.size, 2, none⟩) hz0).trans c2
            have HZ := Lib.hid (HK.out.2.trans (hb1.mono HK.out.2.size))
            clear hb1
            go_wp2
            go_ret
            exact ⟨rfl, HZ.out⟩
          · have h2' : decide (cc ≤ 35) = false := by simp; omega
            obtain rfl : R = false := by rw [hR, h2', Bool.and_false]; rfl
            clear hR hk0 e0 h2
            go_enter Try.func14, Try.ntmps14
            go_wp2_with fail
            rw [HW.out]
            refine HC.out.mono ?_
            rintro r w1 ⟨rfl, hb1⟩
            have c0' := (hb1.cell (p := ⟨w.heap.size, 0, none⟩) hz0).trans c0
            have c1' := (hb1.cell (p := ⟨w.heap.size, 1, none⟩) hz0).trans c1
            have c2' := (hb1.cell (p := ⟨w.heap.size, 2, none⟩) hz0).trans c2
            have HZ := Lib.hid (HK.out.2.trans (hb1.mono HK.out.2.size))
            clear hb1
            go_wp2
            go_ret
            exact ⟨rfl, HZ.out⟩
        · have h1' : decide (0 ≤ cc) = false := by simp; omega
          obtain rfl : R = false := by rw [hR, h1']; rfl
          clear hR hk0 e0 h1
          go_enter Try.func14, Try.ntmps14
          go_wp2_with fail
          rw [HW.out]
          refine HC.out.mono ?_
          rintro r w1 ⟨rfl, hb1⟩
          have c0' := (hb1.cell (p := ⟨w.heap.size, 0, none⟩) hz0).trans c0
          have c1' := (hb1.cell (p := ⟨w.heap.size, 1, none⟩) hz0).trans c1
          have c2' := (hb1.cell (p := ⟨w.heap.size, 2, none⟩) hz0).trans c2
          have HZ := Lib.hid (HK.out.2.trans (hb1.mono HK.out.2.size))
          clear hb1
          go_wp2
          go_ret
          exact ⟨rfl, HZ.out⟩
      · have n1 : ((n : Int) == 0) = false := by simpa using n0
        obtain rfl : R = false := by rw [hR, decide_eq_false n0]; simp
        clear hR n0
        go_enter Try.func14, Try.ntmps14
        go_wp2_with fail
        rw [HW.out]
        refine HC.out.mono ?_
        rintro r w1 ⟨rfl, hb1⟩
        have c0' := (hb1.cell (p := ⟨w.heap.size, 0, none⟩) hz0).trans c0
        have c1' := (hb1.cell (p := ⟨w.heap.size, 1, none⟩) hz0).trans c1
        have c2' := (hb1.cell (p := ⟨w.heap.size, 2, none⟩) hz0).trans c2
        have HZ := Lib.hid (HK.out.2.trans (hb1.mono HK.out.2.size))
        clear hb1
        go_wp2
        go_ret
        exact ⟨rfl, HZ.out⟩
    · have hR : R = (decide (cc = 0) && decide (n = 0) && goodE.all ks) := HS.out
      by_cases n0 : n = 0
      · have hk0 : ks = [] := List.length_eq_zero_iff.1 (HN.out.trans n0)
        have e0 : goodE.all ([] : List E) = true := rfl
        subst n0
        by_cases h1 : cc = 0
        · subst h1
          obtain rfl : R = true := by rw [hR, hk0, e0]; rfl
          clear hR hk0 e0
          go_enter Try.func14, Try.ntmps14
          go_wp2_with fail
          rw [HW.out]
          refine HC.out.mono ?_
          rintro r w1 ⟨rfl, hb1⟩
          have c0' := (hb1.cell (p := ⟨w.heap.size, 0, none⟩) hz0).trans c0
          have c1' := (hb1.cell (p := ⟨w.heap.size, 1, none⟩) hz0).trans c1
          have c2' := (hb1.cell (p := ⟨w.heap.size, 2, none⟩) hz0).trans c2
          have HZ := Lib.hid (HK.out.2.trans (hb1.mono HK.out.2.size))
          clear hb1
          go_wp2
          go_ret
          exact ⟨rfl, HZ.out⟩
        · have h1' : (cc == 0) = false := by simpa using h1
          obtain rfl : R = false := by rw [hR, decide_eq_false h1]; rfl
          clear hR hk0 e0 h1
          go_enter Try.func14, Try.ntmps14
          go_wp2_with fail
          rw [HW.out]
          refine HC.out.mono ?_
          rintro r w1 ⟨rfl, hb1⟩
          have c0' := (hb1.cell (p := ⟨w.heap.size, 0, none⟩) hz0).trans c0
          have c1' := (hb1.cell (p := ⟨w.heap.size, 1, none⟩) hz0).trans c1
          have c2' := (hb1.cell (p := ⟨w.heap.size, 2, none⟩) hz0).trans c2
          have HZ := Lib.hid (HK.out.2.trans (hb1.mono HK.out.2.size))
          clear hb1
          go_wp2
          go_ret
          exact ⟨rfl, HZ.out⟩
      · have n1 : ((n : Int) == 0) = false := by simpa using n0
        obtain rfl : R = false := by rw [hR, decide_eq_false n0]; simp
        clear hR n0
        go_enter Try.func14, Try.ntmps14
        go_wp2_with fail
        rw [HW.out]
        refine HC.out.mono ?_
        rintro r w1 ⟨rfl, hb1⟩
        have c0' := (hb1.cell (p := ⟨w.heap.size, 0, none⟩) hz0).trans c0
        have c1' := (hb1.cell (p := ⟨w.heap.size, 1, none⟩) hz0).trans c1
        have c2' := (hb1.cell (p := ⟨w.heap.size, 2, none⟩) hz0).trans c2
        have HZ := Lib.hid (HK.out.2.trans (hb1.mono HK.out.2.size))
        clear hb1
        go_wp2
        go_ret
        exact ⟨rfl, HZ.out⟩
    · have hR : R = (decide (cc = 0) && decide (2 ≤ n) && goodE.all ks) := HS.out
      by_cases hn1 : 2 ≤ n
      · have hR2 := Lib.hid (show R = (decide (cc = 0) && goodE.all ks) by rw [hR, decide_eq_true hn1, Bool.and_true])
        clear hR
        have n1 : decide ((n : Int) < 2) = false := by simp; omega
        go_enter Try.func14, Try.ntmps14
        go_wp2_with fail
        rw [HW.out]
        refine HC.out.mono ?_
        rintro r w1 ⟨rfl, hb1⟩
        have c0' := (hb1.cell (p := ⟨w.heap.size, 0, none⟩) hz0).trans c0
        have c1' := (hb1.cell (p := ⟨w.heap.size, 1, none⟩) hz0).trans c1
        have c2' := (hb1.cell (p := ⟨w.heap.size, 2, none⟩) hz0).trans c2
        have HZ := Lib.hid (HK.out.2.trans (hb1.mono HK.out.2.size))
        have HB1 := Lib.hid hb1
        clear hb1
        go_wp2_with fail
        go_loopw [6] (fun i wr => ∃ k : Nat, i = .int .i64 k ∧ k ≤ n ∧ goodE.all (ks.take k) = true ∧ Below W0.heap.size W0 wr) (fun i _ => n - (RowKit.intOf i).toNat)
        case atStart => exact ⟨0, rfl, Nat.zero_le _, by rw [List.take_zero]; rfl, HB1.out⟩
        case round =>
          obtain ⟨k, rfl, hkn, hyes, hb⟩ := hrel
          have c1' := (hb.cell (p := ⟨w.heap.size, 1, none⟩) hz0).trans c1
          have c2' := (hb.cell (p := ⟨w.heap.size, 2, none⟩) hz0).trans c2
          by_cases hlt : k < n
          · obtain ⟨f, hf⟩ : ∃ f, ks[k]? = some f := ⟨ks[k]'(by rw [HN.out]; exact hlt), List.getElem?_eq_getElem _⟩
            have i1 : (k : Int) < (n : Int) := by omega
            obtain ⟨b, o, rfl, hbl, hr⟩ := HK.out.1.r (by rintro rfl; simp at hf)
            obtain ⟨Af, capf, d0, d1, d2, hN⟩ := row_get' hr hf
            have d0' := (hb.cell (p := ⟨b, o + k * 3, none⟩) hbl).trans d0
            have d1' := (hb.cell (p := ⟨b, o + k * 3 + 1, none⟩) hbl).trans d1
            have d2' := (hb.cell (p := ⟨b, o + k * 3 + 2, none⟩) hbl).trans d2
            have hs := good_take hf
            rw [hyes, Bool.true_and] at hs
            have hC := HI.out f _ wr ((hN.below hb).mono hb.size)
            obtain ⟨q, hq⟩ : ∃ q, goodE f = q := ⟨_, rfl⟩
            rw [hq] at hC hs
            replace hC := Lib.hid hC
            have HH := Lib.hid (And.intro hs (And.intro hb hlt))
            clear hs hb hN hr hbl hq hyes d0 d1 d2
            go_wp2_with fail
            refine hC.out.mono ?_
            rintro r w2 ⟨rfl, hb2⟩
            have HB2 := Lib.hid (HH.out.2.1.trans (hb2.mono HH.out.2.1.size))
            clear hb2
            cases q
            · obtain rfl : R = false := by rw [hR2.out, good_stop HH.out.1, Bool.and_false]
              go_wp2
              go_ret
              exact ⟨rfl, HK.out.2.trans (HB2.out.mono HK.out.2.size)⟩
            · go_wp2
              go_roundw
              case rel => exact ⟨k + 1, by go_num, by omega, HH.out.1, HB2.out⟩
              case measure => simp [RowKit.intOf]; omega
          · have hkn : k = n := by omega
            subst hkn
            have i1 : ¬ (k : Int) < (k : Int) := by omega
            have ht : ks.take k = ks := by rw [← HN.out, List.take_length]
            rw [ht] at hyes
            have HY := Lib.hid (And.intro hyes (HK.out.2.trans (hb.mono HK.out.2.size)))
            clear hb ht hyes
            by_cases hq : cc = 0
            · subst hq
              obtain rfl : R = true := by rw [hR2.out, HY.out.1]; rfl
              go_wp2
              go_ret
              exact ⟨rfl, HY.out.2⟩
            · have qc : (cc == 0) = false := by simpa using hq
              obtain rfl : R = false := by rw [hR2.out, decide_eq_false hq]; rfl
              clear hq
              go_wp2
              go_ret
              exact ⟨rfl, HY.out.2⟩
      · obtain rfl : R = false := by rw [hR, decide_eq_false hn1]; simp
        clear hR
        have n1 : ((n : Int) < 2) := by omega
        go_enter Try.func14, Try.ntmps14
        go_wp2_with fail
        rw [HW.out]
        refine HC.out.mono ?_
        rintro r w1 ⟨rfl, hb1⟩
        have c0' := (hb1.cell (p := ⟨w.heap.size, 0, none⟩) hz0).trans c0
        have c1' := (hb1.cell (p := ⟨w.heap.size, 1, none⟩) hz0).trans c1
        have c2' := (hb1.cell (p := ⟨w.heap.size, 2, none⟩) hz0).trans c2
        have HZ := Lib.hid (HK.out.2.trans (hb1.mono HK.out.2.size))
        clear hb1
        go_wp2
        go_ret
        exact ⟨rfl, HZ.out⟩
    · have hR : R = (decide (cc = 0) && decide (2 ≤ n) && goodE.all ks) := HS.out
      by_cases hn1 : 2 ≤ n
      · have hR2 := Lib.hid (show R = (decide (cc = 0) && goodE.all ks) by rw [hR, decide_eq_true hn1, Bool.and_true])
        clear hR
        have n1 : decide ((n : Int) < 2) = false := by simp; omega
        go_enter Try.func14, Try.ntmps14
        go_wp2_with fail
        rw [HW.out]
        refine HC.out.mono ?_
        rintro r w1 ⟨rfl, hb1⟩
        have c0' := (hb1.cell (p := ⟨w.heap.size, 0, none⟩) hz0).trans c0
        have c1' := (hb1.cell (p := ⟨w.heap.size, 1, none⟩) hz0).trans c1
        have c2' := (hb1.cell (p := ⟨w.heap.size, 2, none⟩) hz0).trans c2
        have HZ := Lib.hid (HK.out.2.trans (hb1.mono HK.out.2.size))
        have HB1 := Lib.hid hb1
        clear hb1
        go_wp2_with fail
        go_loopw [6] (fun i wr => ∃ k : Nat, i = .int .i64 k ∧ k ≤ n ∧ goodE.all (ks.take k) = true ∧ Below W0.heap.size W0 wr) (fun i _ => n - (RowKit.intOf i).toNat)
        case atStart => exact ⟨0, rfl, Nat.zero_le _, by rw [List.take_zero]; rfl, HB1.out⟩
        case round =>
          obtain ⟨k, rfl, hkn, hyes, hb⟩ := hrel
          have c1' := (hb.cell (p := ⟨w.heap.size, 1, none⟩) hz0).trans c1
          have c2' := (hb.cell (p := ⟨w.heap.size, 2, none⟩) hz0).trans c2
          by_cases hlt : k < n
          · obtain ⟨f, hf⟩ : ∃ f, ks[k]? = some f := ⟨ks[k]'(by rw [HN.out]; exact hlt), List.getElem?_eq_getElem _⟩
            have i1 : (k : Int) < (n : Int) := by omega
            obtain ⟨b, o, rfl, hbl, hr⟩ := HK.out.1.r (by rintro rfl; simp at hf)
            obtain ⟨Af, capf, d0, d1, d2, hN⟩ := row_get' hr hf
            have d0' := (hb.cell (p := ⟨b, o + k * 3, none⟩) hbl).trans d0
            have d1' := (hb.cell (p := ⟨b, o + k * 3 + 1, none⟩) hbl).trans d1
            have d2' := (hb.cell (p := ⟨b, o + k * 3 + 2, none⟩) hbl).trans d2
            have hs := good_take hf
            rw [hyes, Bool.true_and] at hs
            have hC := HI.out f _ wr ((hN.below hb).mono hb.size)
            obtain ⟨q, hq⟩ : ∃ q, goodE f = q := ⟨_, rfl⟩
            rw [hq] at hC hs
            replace hC := Lib.hid hC
            have HH := Lib.hid (And.intro hs (And.intro hb hlt))
            clear hs hb hN hr hbl hq hyes d0 d1 d2
            go_wp2_with fail
            refine hC.out.mono ?_
            rintro r w2 ⟨rfl, hb2⟩
            have HB2 := Lib.hid (HH.out.2.1.trans (hb2.mono HH.out.2.1.size))
            clear hb2
            cases q
            · obtain rfl : R = false := by rw [hR2.out, good_stop HH.out.1, Bool.and_false]
              go_wp2
              go_ret
              exact ⟨rfl, HK.out.2.trans (HB2.out.mono HK.out.2.size)⟩
            · go_wp2
              go_roundw
              case rel => exact ⟨k + 1, by go_num, by omega, HH.out.1, HB2.out⟩
              case measure => simp [RowKit.intOf]; omega
          · have hkn : k = n := by omega
            subst hkn
            have i1 : ¬ (k : Int) < (k : Int) := by omega
            have ht : ks.take k = ks := by rw [← HN.out, List.take_length]
            rw [ht] at hyes
            have HY := Lib.hid (And.intro hyes (HK.out.2.trans (hb.mono HK.out.2.size)))
            clear hb ht hyes
            by_cases hq : cc = 0
            · subst hq
              obtain rfl : R = true := by rw [hR2.out, HY.out.1]; rfl
              go_wp2
              go_ret
              exact ⟨rfl, HY.out.2⟩
            · have qc : (cc == 0) = false := by simpa using hq
              obtain rfl : R = false := by rw [hR2.out, decide_eq_false hq]; rfl
              clear hq
              go_wp2
              go_ret
              exact ⟨rfl, HY.out.2⟩
      · obtain rfl : R = false := by rw [hR, decide_eq_false hn1]; simp
        clear hR
        have n1 : ((n : Int) < 2) := by omega
        go_enter Try.func14, Try.ntmps14
        go_wp2_with fail
        rw [HW.out]
        refine HC.out.mono ?_
        rintro r w1 ⟨rfl, hb1⟩
        have c0' := (hb1.cell (p := ⟨w.heap.size, 0, none⟩) hz0).trans c0
        have c1' := (hb1.cell (p := ⟨w.heap.size, 1, none⟩) hz0).trans c1
        have c2' := (hb1.cell (p := ⟨w.heap.size, 2, none⟩) hz0).trans c2
        have HZ := Lib.hid (HK.out.2.trans (hb1.mono HK.out.2.size))
        clear hb1
        go_wp2
        go_ret
        exact ⟨rfl, HZ.out⟩
    · have hR : R = (decide (cc = 0) && decide (n = 1) && goodE.all ks) := HS.out
      by_cases hn1 : n = 1
      · have hR2 := Lib.hid (show R = (decide (cc = 0) && goodE.all ks) by rw [hR, decide_eq_true hn1, Bool.and_true])
        clear hR
        subst hn1
        go_enter Try.func14, Try.ntmps14
        go_wp2_with fail
        rw [HW.out]
        refine HC.out.mono ?_
        rintro r w1 ⟨rfl, hb1⟩
        have c0' := (hb1.cell (p := ⟨w.heap.size, 0, none⟩) hz0).trans c0
        have c1' := (hb1.cell (p := ⟨w.heap.size, 1, none⟩) hz0).trans c1
        have c2' := (hb1.cell (p := ⟨w.heap.size, 2, none⟩) hz0).trans c2
        have HZ := Lib.hid (HK.out.2.trans (hb1.mono HK.out.2.size))
        have HB1 := Lib.hid hb1
        clear hb1
        go_wp2_with fail
        go_loopw [6] (fun i wr => ∃ k : Nat, i = .int .i64 k ∧ k ≤ 1 ∧ goodE.all (ks.take k) = true ∧ Below W0.heap.size W0 wr) (fun i _ => 1 - (RowKit.intOf i).toNat)
        case atStart => exact ⟨0, rfl, Nat.zero_le _, by rw [List.take_zero]; rfl, HB1.out⟩
        case round =>
          obtain ⟨k, rfl, hkn, hyes, hb⟩ := hrel
          have c1' := (hb.cell (p := ⟨w.heap.size, 1, none⟩) hz0).trans c1
          have c2' := (hb.cell (p := ⟨w.heap.size, 2, none⟩) hz0).trans c2
          by_cases hlt : k < 1
          · obtain ⟨f, hf⟩ : ∃ f, ks[k]? = some f := ⟨ks[k]'(by rw [HN.out]; exact hlt), List.getElem?_eq_getElem _⟩
            have i1 : (k : Int) < (1 : Int) := by omega
            obtain ⟨b, o, rfl, hbl, hr⟩ := HK.out.1.r (by rintro rfl; simp at hf)
            obtain ⟨Af, capf, d0, d1, d2, hN⟩ := row_get' hr hf
            have d0' := (hb.cell (p := ⟨b, o + k * 3, none⟩) hbl).trans d0
            have d1' := (hb.cell (p := ⟨b, o + k * 3 + 1, none⟩) hbl).trans d1
            have d2' := (hb.cell (p := ⟨b, o + k * 3 + 2, none⟩) hbl).trans d2
            have hs := good_take hf
            rw [hyes, Bool.true_and] at hs
            have hC := HI.out f _ wr ((hN.below hb).mono hb.size)
            obtain ⟨q, hq⟩ : ∃ q, goodE f = q := ⟨_, rfl⟩
            rw [hq] at hC hs
            replace hC := Lib.hid hC
            have HH := Lib.hid (And.intro hs (And.intro hb hlt))
            clear hs hb hN hr hbl hq hyes d0 d1 d2
            go_wp2_with fail
            refine hC.out.mono ?_
            rintro r w2 ⟨rfl, hb2⟩
            have HB2 := Lib.hid (HH.out.2.1.trans (hb2.mono HH.out.2.1.size))
            clear hb2
            cases q
            · obtain rfl : R = false := by rw [hR2.out, good_stop HH.out.1, Bool.and_false]
              go_wp2
              go_ret
              exact ⟨rfl, HK.out.2.trans (HB2.out.mono HK.out.2.size)⟩
            · go_wp2
              go_roundw
              case rel => exact ⟨k + 1, by go_num, by omega, HH.out.1, HB2.out⟩
              case measure => simp [RowKit.intOf]; omega
          · have hkn : k = 1 := by omega
            subst hkn
            have ht : ks.take 1 = ks := List.take_of_length_le (by rw [HN.out]; omega)
            rw [ht] at hyes
            have HY := Lib.hid (And.intro hyes (HK.out.2.trans (hb.mono HK.out.2.size)))
            clear hb ht hyes
            by_cases hq : cc = 0
            · subst hq
              obtain rfl : R = true := by rw [hR2.out, HY.out.1]; rfl
              go_wp2
              go_ret
              exact ⟨rfl, HY.out.2⟩
            · have qc : (cc == 0) = false := by simpa using hq
              obtain rfl : R = false := by rw [hR2.out, decide_eq_false hq]; rfl
              clear hq
              go_wp2
              go_ret
              exact ⟨rfl, HY.out.2⟩
      · obtain rfl : R = false := by rw [hR, decide_eq_false hn1]; simp
        clear hR
        have n1 : ((n : Int) == 1) = false := by simp; omega
        have n1b : ((n : Int) != 1) = true := by simp; omega
        go_enter Try.func14, Try.ntmps14
        go_wp2_with fail
        rw [HW.out]
        refine HC.out.mono ?_
        rintro r w1 ⟨rfl, hb1⟩
        have c0' := (hb1.cell (p := ⟨w.heap.size, 0, none⟩) hz0).trans c0
        have c1' := (hb1.cell (p := ⟨w.heap.size, 1, none⟩) hz0).trans c1
        have c2' := (hb1.cell (p := ⟨w.heap.size, 2, none⟩) hz0).trans c2
        have HZ := Lib.hid (HK.out.2.trans (hb1.mono HK.out.2.size))
        clear hb1
        go_wp2
        go_ret
        exact ⟨rfl, HZ.out⟩
    · have hR : R = (decide (cc = 0) && decide (n = 1) && goodE.all ks) := HS.out
      by_cases hn1 : n = 1
      · have hR2 := Lib.hid (show R = (decide (cc = 0) && goodE.all ks) by rw [hR, decide_eq_true hn1, Bool.and_true])
        clear hR
        subst hn1
        go_enter Try.func14, Try.ntmps14
        go_wp2_with fail
        rw [HW.out]
        refine HC.out.mono ?_
        rintro r w1 ⟨rfl, hb1⟩
        have c0' := (hb1.cell (p := ⟨w.heap.size, 0, none⟩) hz0).trans c0
        have c1' := (hb1.cell (p := ⟨w.heap.size, 1, none⟩) hz0).trans c1
        have c2' := (hb1.cell (p := ⟨w.heap.size, 2, none⟩) hz0).trans c2
        have HZ := Lib.hid (HK.out.2.trans (hb1.mono HK.out.2.size))
        have HB1 := Lib.hid hb1
        clear hb1
        go_wp2_with fail
        go_loopw [6] (fun i wr => ∃ k : Nat, i = .int .i64 k ∧ k ≤ 1 ∧ goodE.all (ks.take k) = true ∧ Below W0.heap.size W0 wr) (fun i _ => 1 - (RowKit.intOf i).toNat)
        case atStart => exact ⟨0, rfl, Nat.zero_le _, by rw [List.take_zero]; rfl, HB1.out⟩
        case round =>
          obtain ⟨k, rfl, hkn, hyes, hb⟩ := hrel
          have c1' := (hb.cell (p := ⟨w.heap.size, 1, none⟩) hz0).trans c1
          have c2' := (hb.cell (p := ⟨w.heap.size, 2, none⟩) hz0).trans c2
          by_cases hlt : k < 1
          · obtain ⟨f, hf⟩ : ∃ f, ks[k]? = some f := ⟨ks[k]'(by rw [HN.out]; exact hlt), List.getElem?_eq_getElem _⟩
            have i1 : (k : Int) < (1 : Int) := by omega
            obtain ⟨b, o, rfl, hbl, hr⟩ := HK.out.1.r (by rintro rfl; simp at hf)
            obtain ⟨Af, capf, d0, d1, d2, hN⟩ := row_get' hr hf
            have d0' := (hb.cell (p := ⟨b, o + k * 3, none⟩) hbl).trans d0
            have d1' := (hb.cell (p := ⟨b, o + k * 3 + 1, none⟩) hbl).trans d1
            have d2' := (hb.cell (p := ⟨b, o + k * 3 + 2, none⟩) hbl).trans d2
            have hs := good_take hf
            rw [hyes, Bool.true_and] at hs
            have hC := HI.out f _ wr ((hN.below hb).mono hb.size)
            obtain ⟨q, hq⟩ : ∃ q, goodE f = q := ⟨_, rfl⟩
            rw [hq] at hC hs
            replace hC := Lib.hid hC
            have HH := Lib.hid (And.intro hs (And.intro hb hlt))
            clear hs hb hN hr hbl hq hyes d0 d1 d2
            go_wp2_with fail
            refine hC.out.mono ?_
            rintro r w2 ⟨rfl, hb2⟩
            have HB2 := Lib.hid (HH.out.2.1.trans (hb2.mono HH.out.2.1.size))
            clear hb2
            cases q
            · obtain rfl : R = false := by rw [hR2.out, good_stop HH.out.1, Bool.and_false]
              go_wp2
              go_ret
              exact ⟨rfl, HK.out.2.trans (HB2.out.mono HK.out.2.size)⟩
            · go_wp2
              go_roundw
              case rel => exact ⟨k + 1, by go_num, by omega, HH.out.1, HB2.out⟩
              case measure => simp [RowKit.intOf]; omega
          · have hkn : k = 1 := by omega
            subst hkn
            have ht : ks.take 1 = ks := List.take_of_length_le (by rw [HN.out]; omega)
            rw [ht] at hyes
            have HY := Lib.hid (And.intro hyes (HK.out.2.trans (hb.mono HK.out.2.size)))
            clear hb ht hyes
            by_cases hq : cc = 0
            · subst hq
              obtain rfl : R = true := by rw [hR2.out, HY.out.1]; rfl
              go_wp2
              go_ret
              exact ⟨rfl, HY.out.2⟩
            · have qc : (cc == 0) = false := by simpa using hq
              obtain rfl : R = false := by rw [hR2.out, decide_eq_false hq]; rfl
              clear hq
              go_wp2
              go_ret
              exact ⟨rfl, HY.out.2⟩
      · obtain rfl : R = false := by rw [hR, decide_eq_false hn1]; simp
        clear hR
        have n1 : ((n : Int) == 1) = false := by simp; omega
        have n1b : ((n : Int) != 1) = true := by simp; omega
        go_enter Try.func14, Try.ntmps14
        go_wp2_with fail
        rw [HW.out]
        refine HC.out.mono ?_
        rintro r w1 ⟨rfl, hb1⟩
        have c0' := (hb1.cell (p := ⟨w.heap.size, 0, none⟩) hz0).trans c0
        have c1' := (hb1.cell (p := ⟨w.heap.size, 1, none⟩) hz0).trans c1
        have c2' := (hb1.cell (p := ⟨w.heap.size, 2, none⟩) hz0).trans c2
        have HZ := Lib.hid (HK.out.2.trans (hb1.mono HK.out.2.size))
        clear hb1
        go_wp2
        go_ret
        exact ⟨rfl, HZ.out⟩
    · have hR : R = (decide (cc = 0) && decide (n = 1) && goodE.all ks) := HS.out
      by_cases hn1 : n = 1
      · have hR2 := Lib.hid (show R = (decide (cc = 0) && goodE.all ks) by rw [hR, decide_eq_true hn1, Bool.and_true])
        clear hR
        subst hn1
        go_enter Try.func14, Try.ntmps14
        go_wp2_with fail
        rw [HW.out]
        refine HC.out.mono ?_
        rintro r w1 ⟨rfl, hb1⟩
        have c0' := (hb1.cell (p := ⟨w.heap.size, 0, none⟩) hz0).trans c0
        have c1' := (hb1.cell (p := ⟨w.heap.size, 1, none⟩) hz0).trans c1
        have c2' := (hb1.cell (p := ⟨w.heap.size, 2, none⟩) hz0).trans c2
        have HZ := Lib.hid (HK.out.2.trans (hb1.mono HK.out.2.size))
        have HB1 := Lib.hid hb1
        clear hb1
        go_wp2_with fail
        go_loopw [6] (fun i wr => ∃ k : Nat, i = .int .i64 k ∧ k ≤ 1 ∧ goodE.all (ks.take k) = true ∧ Below W0.heap.size W0 wr) (fun i _ => 1 - (RowKit.intOf i).toNat)
        case atStart => exact ⟨0, rfl, Nat.zero_le _, by rw [List.take_zero]; rfl, HB1.out⟩
        case round =>
          obtain ⟨k, rfl, hkn, hyes, hb⟩ := hrel
          have c1' := (hb.cell (p := ⟨w.heap.size, 1, none⟩) hz0).trans c1
          have c2' := (hb.cell (p := ⟨w.heap.size, 2, none⟩) hz0).trans c2
          by_cases hlt : k < 1
          · obtain ⟨f, hf⟩ : ∃ f, ks[k]? = some f := ⟨ks[k]'(by rw [HN.out]; exact hlt), List.getElem?_eq_getElem _⟩
            have i1 : (k : Int) < (1 : Int) := by omega
            obtain ⟨b, o, rfl, hbl, hr⟩ := HK.out.1.r (by rintro rfl; simp at hf)
            obtain ⟨Af, capf, d0, d1, d2, hN⟩ := row_get' hr hf
            have d0' := (hb.cell (p := ⟨b, o + k * 3, none⟩) hbl).trans d0
            have d1' := (hb.cell (p := ⟨b, o + k * 3 + 1, none⟩) hbl).trans d1
            have d2' := (hb.cell (p := ⟨b, o + k * 3 + 2, none⟩) hbl).trans d2
            have hs := good_take hf
            rw [hyes, Bool.true_and] at hs
            have hC := HI.out f _ wr ((hN.below hb).mono hb.size)
            obtain ⟨q, hq⟩ : ∃ q, goodE f = q := ⟨_, rfl⟩
            rw [hq] at hC hs
            replace hC := Lib.hid hC
            have HH := Lib.hid (And.intro hs (And.intro hb hlt))
            clear hs hb hN hr hbl hq hyes d0 d1 d2
            go_wp2_with fail
            refine hC.out.mono ?_
            rintro r w2 ⟨rfl, hb2⟩
            have HB2 := Lib.hid (HH.out.2.1.trans (hb2.mono HH.out.2.1.size))
            clear hb2
            cases q
            · obtain rfl : R = false := by rw [hR2.out, good_stop HH.out.1, Bool.and_false]
              go_wp2
              go_ret
              exact ⟨rfl, HK.out.2.trans (HB2.out.mono HK.out.2.size)⟩
            · go_wp2
              go_roundw
              case rel => exact ⟨k + 1, by go_num, by omega, HH.out.1, HB2.out⟩
              case measure => simp [RowKit.intOf]; omega
          · have hkn : k = 1 := by omega
            subst hkn
            have ht : ks.take 1 = ks := List.take_of_length_le (by rw [HN.out]; omega)
            rw [ht] at hyes
            have HY := Lib.hid (And.intro hyes (HK.out.2.trans (hb.mono HK.out.2.size)))
            clear hb ht hyes
            by_cases hq : cc = 0
            · subst hq
              obtain rfl : R = true := by rw [hR2.out, HY.out.1]; rfl
              go_wp2
              go_ret
              exact ⟨rfl, HY.out.2⟩
            · have qc : (cc == 0) = false := by simpa using hq
              obtain rfl : R = false := by rw [hR2.out, decide_eq_false hq]; rfl
              clear hq
              go_wp2
              go_ret
              exact ⟨rfl, HY.out.2⟩
      · obtain rfl : R = false := by rw [hR, decide_eq_false hn1]; simp
        clear hR
        have n1 : ((n : Int) == 1) = false := by simp; omega
        have n1b : ((n : Int) != 1) = true := by simp; omega
        go_enter Try.func14, Try.ntmps14
        go_wp2_with fail
        rw [HW.out]
        refine HC.out.mono ?_
        rintro r w1 ⟨rfl, hb1⟩
        have c0' := (hb1.cell (p := ⟨w.heap.size, 0, none⟩) hz0).trans c0
        have c1' := (hb1.cell (p := ⟨w.heap.size, 1, none⟩) hz0).trans c1
        have c2' := (hb1.cell (p := ⟨w.heap.size, 2, none⟩) hz0).trans c2
        have HZ := Lib.hid (HK.out.2.trans (hb1.mono HK.out.2.size))
        clear hb1
        go_wp2
        go_ret
        exact ⟨rfl, HZ.out⟩
end Go.Proofs.Ytegkogadceodlaa

namespace Go.Proofs.Ytegkogadceodlaa
open Go.RowKit Go.Shelf Go.Lib

/-- The document's answer: what is wrong with a right side. -/
def wrongE (e : E) : Int := if noneE [3] e then (if lgRef e < 0 ∨ 4 < lgRef e then 8 else 0) else 4
set_option maxHeartbeats 4000000 in
theorem wrong_any (e : E) (hsz : szE e ≤ 100000) (hgd : goodE e = true ∨ (e.k = 9 ∧ e.ks = [])) (v : Value) (w : World) (h : Nd w w.heap.size e v) :
    Calls Try.prog 80 #[v] w fun r w' => r = .returned (.int .i64 (wrongE e)) ∧ Below w.heap.size w w' := by
  obtain ⟨_, _, A, cap, rfl, hk⟩ := Nd_iff.1 h
  obtain ⟨W0, hW0⟩ : ∃ W0, w.alloc (.cells #[.int .i64 e.k, .int .i64 e.c, .slice A e.ks.length cap] 24) = W0 := ⟨_, rfl⟩
  have hb0 : Below w.heap.size w W0 := by rw [← hW0]; exact below_new _ _
  have hbx : Cells W0 w.heap.size 24 #[.int .i64 e.k, .int .i64 e.c, .slice A e.ks.length cap] := by rw [← hW0]; exact World.alloc_heap_new _ _
  have C1 := Lib.hid (refLong_any _ e (Nat.le_refl _) hsz hgd _ W0 (h.on hb0))
  have C2 := Lib.hid (fun W (hb : Below W0.heap.size W0 W) => refHas_any 3 _ e (Nat.le_refl _) _ W ((h.on hb0).on hb))
  have hR : wrongE e = if noneE [3] e then (if lgRef e < 0 ∨ 4 < lgRef e then 8 else 0) else 4 := rfl
  obtain ⟨R, hRR⟩ : ∃ R, wrongE e = R := ⟨_, rfl⟩
  rw [hRR] at hR ⊢
  have HR := Lib.hid hR
  have HW := Lib.hid hW0
  have HB := Lib.hid (And.intro hb0 hbx)
  generalize noneE [3] e = nb at *
  generalize lgRef e = lr at *
  generalize e.k = kk at *
  generalize e.c = cc at *
  generalize e.ks.length = n at *
  clear hk h hW0 hb0 hbx hR hRR hsz hgd
  go_enter Try.func80, Try.ntmps80
  go_wp2_with fail
  rw [HW.out]
  refine C1.out.mono ?_
  rintro r w1 ⟨rfl, hb⟩
  have d := cells_below HB.out.2 hb
  have x0 := d.cell 0
  have x1 := d.cell 1
  have x2 := d.cell 2
  simp only [List.getElem?_toArray, List.getElem?_cons_zero, List.getElem?_cons_succ] at x0 x1 x2
  have D2 := Lib.hid (C2.out w1 hb)
  have HB1 := Lib.hid hb
  clear hb d
  go_wp2_with fail
  refine D2.out.mono ?_
  rintro r w2 ⟨rfl, hb⟩
  have hb2 := HB1.out.trans (hb.mono HB1.out.size)
  have HZ := Lib.hid (HB.out.1.trans (hb2.mono HB.out.1.size))
  clear hb hb2
  cases nb
  · obtain rfl : R = 4 := HR.out
    go_wp2
    go_ret
    exact ⟨rfl, HZ.out⟩
  · have hR2 : R = if lr < 0 ∨ 4 < lr then 8 else 0 := HR.out
    by_cases h1 : lr < 0
    · obtain rfl : R = 8 := by rw [hR2, if_pos (.inl h1)]
      clear hR2
      go_wp2
      go_ret
      exact ⟨rfl, HZ.out⟩
    · have i1 : decide (lr < 0) = false := by simp; omega
      by_cases h2 : 4 < lr
      · obtain rfl : R = 8 := by rw [hR2, if_pos (.inr h2)]
        clear hR2 h1
        go_wp2
        go_ret
        exact ⟨rfl, HZ.out⟩
      · have i2 : decide (4 < lr) = false := by simp; omega
        obtain rfl : R = 0 := by rw [hR2, if_neg (by omega)]
        clear hR2 h1 h2
        go_wp2
        go_ret
        exact ⟨rfl, HZ.out⟩
end Go.Proofs.Ytegkogadceodlaa

namespace Go.Proofs.Ytegkogadceodlaa
open Go.RowKit Go.Shelf Go.Lib

theorem drewN_two (w : World) (a b : Nat) : (w.drewN a).drewN b = w.drewN (a + b) := by simp [World.drewN, Nat.add_assoc]
theorem risesL_ge (xs : List Int) : ∀ (p : Int) (j : Nat) (y : Int), risesL p (xs.take (j + 1)) = true → xs[j]? = some y → p < y := by
  induction xs with
  | nil => intro p j y _ h; simp at h
  | cons a r ih =>
    intro p j y h hj
    have h' : (decide (p < a) && decide (a < 36) && risesL a (r.take j)) = true := h
    simp only [Bool.and_eq_true, decide_eq_true_eq] at h'
    cases j with
    | zero =>
      obtain rfl : a = y := by simpa using hj
      exact h'.1.1
    | succ j =>
      have := ih a j y h'.2 (by simpa using hj)
      omega
theorem rises_ge (xs : List Int) (j : Nat) (y : Int) (h : risesL (-1) (xs.take (j + 1)) = true) (hj : xs[j]? = some y) : -1 < y := risesL_ge xs (-1) j y h hj

set_option maxHeartbeats 4000000 in
theorem refRises_any (xs : List Int) (A : Option Addr) (cap : Nat) (w : World) (h : IS w w.heap.size xs A cap) :
    Calls Try.prog 79 #[.slice A xs.length cap] w fun r w' => r = .returned (.bool (rises xs)) ∧ Below w.heap.size w w' := by
  have hl := h.len
  obtain ⟨R, hR⟩ : ∃ R, rises xs = R := ⟨_, rfl⟩
  obtain ⟨n, hn⟩ : ∃ n, xs.length = n := ⟨_, rfl⟩
  rw [hn] at hl ⊢
  rw [hR]
  have HK := Lib.hid h
  have HN := Lib.hid hn
  have HR := Lib.hid hR
  clear h hn hR
  go_enter Try.func79, Try.ntmps79
  go_wp2_with fail
  go_loopw [3] (fun i wr => ∃ k : Nat, i = .int .i64 k ∧ k ≤ n ∧ risesL (-1) (xs.take k) = true ∧ ∃ m, wr = w.drewN m) (fun i _ => n - (RowKit.intOf i).toNat)
  case atStart => exact ⟨0, rfl, Nat.zero_le _, rfl, 0, rfl⟩
  case round =>
    obtain ⟨k, rfl, hkn, hyes, m, rfl⟩ := hrel
    by_cases hlt : k < n
    · obtain ⟨x, hx⟩ : ∃ x, xs[k]? = some x := ⟨xs[k]'(by rw [HN.out]; exact hlt), List.getElem?_eq_getElem _⟩
      have i1 : (k : Int) < (n : Int) := by omega
      obtain ⟨b, o, rfl, hbl, hr⟩ := HK.out.r (by rintro rfl; simp at hx)
      have d0 := hr k x hx
      have hs := risesL_take (-1) xs k x hx
      rw [hyes, Bool.true_and] at hs
      have hst := risesL_stop (-1) xs (k + 1)
      by_cases h0 : k = 0
      · subst h0
        have hla : True := trivial
        rw [List.take_zero] at hs
        have hs : risesL (-1) (xs.take (0 + 1)) = (decide ((-1 : Int) < x) && decide (x < 36)) := hs
        rw [Nat.add_zero] at d0
        by_cases h1 : x < 0
        · have hf : R = false := by rw [← HR.out]; refine hst ?_; rw [hs]; simp; omega
          subst hf
          clear hs hst hla hx hr hyes
          go_wp2_with fail
          go_quiet (fail)
          go_wp2
          go_ret
          exact ⟨rfl, below_drewN (below_drewN (Below.refl _ _) _) _⟩
        · have e1 : decide (x < 0) = false := by simp; omega
          by_cases h2 : 35 < x
          · have hf : R = false := by rw [← HR.out]; refine hst ?_; rw [hs]; simp; omega
            subst hf
            clear hs hst hla hx hr hyes h1
            go_wp2_with fail
            go_quiet (fail)
            go_wp2
            go_ret
            exact ⟨rfl, below_drewN (below_drewN (Below.refl _ _) _) _⟩
          · have e2 : decide (35 < x) = false := by simp; omega
            have hy2 : risesL (-1) (xs.take (0 + 1)) = true := by rw [hs, decide_eq_true (show (-1 : Int) < x by omega), decide_eq_true (show x < 36 by omega)]; rfl
            have HZ := Lib.hid hy2
            clear hs hst hla hx hr hyes hy2 h1 h2
            go_wp2_with fail
            go_quiet (fail)
            go_wp2
            go_roundw
            case rel => exact ⟨0 + 1, by go_num, by omega, HZ.out, _, rfl⟩
            case measure => simp [RowKit.intOf]; omega
      · obtain ⟨j, rfl⟩ : ∃ j, k = j + 1 := ⟨k - 1, by omega⟩
        obtain ⟨y, hy⟩ : ∃ y, xs[j]? = some y := ⟨xs[j]'(by rw [HN.out]; omega), List.getElem?_eq_getElem _⟩
        have d1 := hr j y hy
        have hla : (xs.take (j + 1)).getLast?.getD (-1) = y := by rw [List.take_add_one, hy]; simp
        rw [hla] at hs
        have h10 := rises_ge xs j y hyes hy
        have i0 : (0 : Int) < (j : Int) + 1 := by omega
        have i2 : (j : Int) < (n : Int) := by omega
        have i3 : (j : Int) + 1 < (n : Int) := by omega
        have i4 : ((j + 1 : Nat) : Int) = (j : Int) + 1 := by omega
        rw [i4]
        clear h0 i1
        by_cases h1 : x < 0
        · have hf : R = false := by
            rw [← HR.out]
            refine hst ?_
            rw [hs]
            simp; omega
          subst hf
          clear hs hst hla hx hr hyes hy
          go_wp2_with fail
          go_quiet (fail)
          go_wp2
          go_ret
          exact ⟨rfl, below_drewN (below_drewN (Below.refl _ _) _) _⟩
        · have e1 : decide (x < 0) = false := by simp; omega
          by_cases h2 : 35 < x
          · have hf : R = false := by rw [← HR.out]; refine hst ?_; rw [hs]; simp; omega
            subst hf
            clear hs hst hla hx hr hyes hy h1
            go_wp2_with fail
            go_quiet (fail)
            go_wp2
            go_ret
            exact ⟨rfl, below_drewN (below_drewN (Below.refl _ _) _) _⟩
          · have e2 : decide (35 < x) = false := by simp; omega
            by_cases h3 : x ≤ y
            · have hf : R = false := by rw [← HR.out]; refine hst ?_; rw [hs]; simp; omega
              subst hf
              clear hs hst hla hx hr hyes hy h1 h2
              go_wp2_with fail
              go_quiet (fail)
              go_wp2
              go_ret
              exact ⟨rfl, below_drewN (below_drewN (Below.refl _ _) _) _⟩
            · have e3 : decide (x ≤ y) = false := by simp; omega
              have hy2 : risesL (-1) (xs.take (j + 1 + 1)) = true := by rw [hs, decide_eq_true (show y < x by omega), decide_eq_true (show x < 36 by omega)]; rfl
              have HZ := Lib.hid hy2
              clear hs hst hla hx hr hyes hy2 hy h1 h2 h3 h10
              go_wp2_with fail
              go_quiet (fail)
              go_wp2
              go_roundw
              case rel => exact ⟨j + 1 + 1, by go_num, by omega, HZ.out, _, rfl⟩
              case measure => simp [RowKit.intOf]; omega
    · have hkn : k = n := by omega
      subst hkn
      have i1 : ¬ (k : Int) < (k : Int) := by omega
      have ht : xs.take k = xs := by rw [← HN.out, List.take_length]
      rw [ht] at hyes
      have hf : R = true := by rw [← HR.out]; exact hyes
      subst hf
      clear hyes ht
      go_wp2
      go_ret
      exact ⟨rfl, below_drewN (Below.refl _ _) _⟩
end Go.Proofs.Ytegkogadceodlaa

