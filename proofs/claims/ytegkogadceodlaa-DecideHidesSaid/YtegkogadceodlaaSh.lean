/-
  Contracts: expr.Node.shortest.
-/
import Derived.Test.YtegkogadceodlaaGs
namespace Go.Proofs.Ytegkogadceodlaa
open Go.RowKit Go.Shelf Go.Lib

set_option maxHeartbeats 8000000 in
theorem shortest_any : ∀ N e, szE e ≤ N → szE e ≤ 100000 → (goodE e = true ∨ e.k = 9) → ∀ v w, Nd w w.heap.size e v →
    Calls Try.prog 43 #[v] w fun r w' => r = .returned (.int .i64 ((shE e : Nat) : Int)) ∧ Below w.heap.size w w' := by
  intro N
  induction N with
  | zero => intro e h; have := szE_pos e; omega
  | succ N ih =>
    intro e he hsz hgd v w h
    obtain ⟨_, _, A, cap, rfl, hk⟩ := Nd_iff.1 h
    obtain ⟨W0, hW0⟩ : ∃ W0, w.alloc (.cells #[.int .i64 e.k, .int .i64 e.c, .slice A e.ks.length cap] 33) = W0 := ⟨_, rfl⟩
    have hb0 : Below w.heap.size w W0 := by rw [← hW0]; exact below_new _ _
    have hz0 : w.heap.size < W0.heap.size := by rw [← hW0]; simp
    have c0 : W0.cell? ⟨w.heap.size, 0, none⟩ = some (.int .i64 e.k) := by rw [← hW0]; simp
    have c2 : W0.cell? ⟨w.heap.size, 2, none⟩ = some (.slice A e.ks.length cap) := by rw [← hW0]; simp
    have hk0 := hk.on hb0
    have hS := szE_eq e
    have hL := shE_eq e
    have hkid := fun i f (hf : e.ks[i]? = some f) => szE_kid (List.mem_of_getElem? hf)
    have hln : e.ks.length ≤ 9223372036854775807 := by have := hk.l; have := hk.m; unfold maxLen at this; omega
    have hcl := hk.l
    have hgk : e.k = 4 ∨ e.k = 5 ∨ e.k = 7 → 1 ≤ e.ks.length := fun hk => good_kid (hgd.elim id fun h9 => by omega) hk
    have hgs : ∀ f ∈ e.ks, (e.k ≠ 9) → (goodE f = true ∨ f.k = 9) := fun f hf h9 => .inl (good_kids (hgd.elim id fun h => absurd h h9) f hf)
    have ih' : ∀ f, szE f < szE e → szE f ≤ 100000 → (goodE f = true ∨ f.k = 9) → ∀ v w, Nd w w.heap.size f v → Calls Try.prog 43 #[v] w fun r w' => r = .returned (.int .i64 ((shE f : Nat) : Int)) ∧ Below w.heap.size w w' := fun f hf => ih f (by omega)
    obtain ⟨R, hR⟩ : ∃ R, shE e = R := ⟨_, rfl⟩
    rw [hR] at hL ⊢
    generalize e.k = kk at *
    generalize e.c = cc at *
    generalize e.ks = ks at *
    generalize szE e = S at *
    obtain ⟨n, hn⟩ : ∃ n, ks.length = n := ⟨_, rfl⟩
    rw [hn] at hW0 hln c2 hcl hgk ⊢
    have HW := Lib.hid hW0
    have HK := Lib.hid (And.intro hk0 hb0)
    have HKW := Lib.hid hk
    have HI := Lib.hid ih'
    have HKD := Lib.hid hkid
    have HN := Lib.hid hn
    have HSZ := Lib.hid (And.intro hS hsz)
    have HGK := Lib.hid (And.intro hgk hgs)
    clear hW0 hk hk0 hb0 ih ih' hkid hn h hS hsz he hR hgk hgs hgd
    by_cases k6 : kk = 6
    · subst k6
      obtain rfl : R = 0 := by rw [hL]; rfl
      clear hL
      go_enter Try.func43, Try.ntmps43
      go_wp2
      rw [HW.out]
      go_ret
      exact ⟨rfl, HK.out.2⟩
    have q6 : (kk == 6) = false := by simpa using k6
    by_cases k8 : kk = 8
    · subst k8
      obtain rfl : R = 0 := by rw [hL]; rfl
      clear hL k6
      go_enter Try.func43, Try.ntmps43
      go_wp2
      rw [HW.out]
      go_ret
      exact ⟨rfl, HK.out.2⟩
    have q8 : (kk == 8) = false := by simpa using k8
    by_cases k9 : kk = 9
    · subst k9
      obtain rfl : R = 0 := by rw [hL]; rfl
      clear hL k6 k8
      go_enter Try.func43, Try.ntmps43
      go_wp2
      rw [HW.out]
      go_ret
      exact ⟨rfl, HK.out.2⟩
    have q9 : (kk == 9) = false := by simpa using k9
    by_cases k4 : kk = 4
    · subst k4
      have HR := Lib.hid (show shE.sum ks = R by rw [hL]; rfl)
      have hn1 := HGK.out.1 (by simp)
      have HG := Lib.hid (fun f hf => HGK.out.2 f hf (by simp))
      obtain ⟨n, rfl⟩ : ∃ m, n = m + 1 := ⟨n - 1, by omega⟩
      obtain ⟨cap, rfl⟩ : ∃ m, cap = m + 1 := ⟨cap - 1, by omega⟩
      clear hL k6 k8 k9
      go_enter Try.func43, Try.ntmps43
      obtain ⟨f0, hf0⟩ : ∃ f, ks[0]? = some f := ⟨ks[0]'(by rw [HN.out]; omega), List.getElem?_eq_getElem _⟩
      obtain ⟨b, o, rfl, hblw, hrw⟩ := HKW.out.r (by rintro rfl; simp at hf0)
      obtain ⟨b', o', e', hbl, hr⟩ := HK.out.1.r (by rintro rfl; simp at hf0)
      injection e' with e'
      injection e' with e1 e2
      subst e1
      subst e2
      have HROW := Lib.hid (And.intro hbl hr)
      obtain ⟨A0, cap0, x0, x1, x2, hNw⟩ := row_get' hrw hf0
      rw [Nat.zero_mul, Nat.add_zero] at x0 x1 x2
      have hN0 := hNw.on HK.out.2
      have hC0 := Lib.hid (HI.out f0 (HKD.out 0 f0 hf0) (by have := HKD.out 0 f0 hf0; have := HSZ.out; omega) (HG.out f0 (List.mem_of_getElem? hf0)) _ W0 hN0)
      have hfst := shfirst hf0
      have HF := Lib.hid hfst
      clear hN0 hNw hr hrw hfst
      go_wp2_with fail
      rw [HW.out]
      refine hC0.out.mono ?_
      rintro r w1 ⟨rfl, hb1⟩
      have c0' := (hb1.cell (p := ⟨w.heap.size, 0, none⟩) hz0).trans c0
      have c2' := (hb1.cell (p := ⟨w.heap.size, 2, none⟩) hz0).trans c2
      have HB1 := Lib.hid hb1
      clear hb1
      by_cases hcap : cap = 0
      · subst hcap
        obtain rfl : n = 0 := by omega
        have ht : ks.take 1 = ks := List.take_of_length_le (by rw [HN.out]; omega)
        have hfr : shE f0 = R := by rw [← HF.out.1, ht, HR.out]
        rw [hfr]
        have HY := Lib.hid (HK.out.2.trans (HB1.out.mono HK.out.2.size))
        go_wp2_with fail
        go_loopw [3, 5, 25] (fun s _ i wr => i = .int .i64 0 ∧ s = .int .i64 (R : Int) ∧ wr = w1) (fun _ _ _ _ => 0)
        case atStart => exact ⟨rfl, rfl, rfl⟩
        case round =>
          obtain ⟨rfl, rfl, rfl⟩ := hrel
          go_wp2
          go_ret
          exact ⟨rfl, HY.out⟩
      go_wp2_with fail
      go_loopw [3, 5, 25] (fun s _ i wr => ∃ k : Nat, i = .int .i64 k ∧ k ≤ n ∧ s = .int .i64 ((shE.sum (ks.take (k + 1)) : Nat) : Int) ∧ Below W0.heap.size W0 wr) (fun _ _ i _ => n - (RowKit.intOf i).toNat)
      case atStart => exact ⟨0, rfl, Nat.zero_le _, by rw [HF.out.1], HB1.out⟩
      case round =>
        obtain ⟨k, rfl, hkn, rfl, hb⟩ := hrel
        have c0'' := (hb.cell (p := ⟨w.heap.size, 0, none⟩) hz0).trans c0
        by_cases hlt : k < n
        · obtain ⟨f, hf⟩ : ∃ f, ks[k + 1]? = some f := ⟨ks[k + 1]'(by rw [HN.out]; omega), List.getElem?_eq_getElem _⟩
          have i1 : (k : Int) < (n : Int) := by omega
          obtain ⟨A', cap', d0, d1, d2, hN⟩ := row_get' HROW.out.2 hf
          rw [show o + (k + 1) * 3 = o + 3 + k * 3 by omega] at d0 d1 d2
          have d0' := (hb.cell (p := ⟨b, o + 3 + k * 3, none⟩) hbl).trans d0
          have d1' := (hb.cell (p := ⟨b, o + 3 + k * 3 + 1, none⟩) hbl).trans d1
          have d2' := (hb.cell (p := ⟨b, o + 3 + k * 3 + 2, none⟩) hbl).trans d2
          have hs := shsum_take hf
          have hl := HKD.out (k + 1) f hf
          have hq1 := shsum_le ks (k + 1 + 1)
          have hq2 := shL_le ks
          rw [hs] at hq1
          obtain ⟨wr', hwr'⟩ : ∃ W, wr.alloc (.cells #[.int .i64 f.k, .int .i64 f.c, .slice A' f.ks.length cap'] 33) = W := ⟨_, rfl⟩
          have hb' : Below W0.heap.size W0 wr' := by rw [← hwr']; exact hb.alloc hb.size _
          have hz1 : w.heap.size < wr.heap.size := by have := hb.size; omega
          have hC := HI.out f hl (by have := HSZ.out; omega) (HG.out f (List.mem_of_getElem? hf)) _ wr' ((hN.below hb').mono hb'.size)
          generalize shE.sum (ks.take (k + 1)) = s at *
          obtain ⟨t, ht⟩ : ∃ t, shE f = t := ⟨_, rfl⟩
          rw [ht] at hC hs hq1
          have hw : wrap64 ((s : Int) + (t : Int)) = (s : Int) + (t : Int) := wrap_small (by have := HSZ.out; omega)
          have hC := Lib.hid hC
          have HH := Lib.hid (And.intro hs (And.intro hb' hlt))
          have HWR := Lib.hid hwr'
          clear hs hl hq1 hq2 hb' hwr' hN hb ht d0 d1 d2
          go_wp2_with fail
          rw [HWR.out]
          refine hC.out.mono ?_
          rintro r w2 ⟨rfl, hb2⟩
          have hbz := HH.out.2.1.trans (hb2.mono HH.out.2.1.size)
          have hend : ((s + t : Nat) : Int) = ((shE.sum (ks.take (k + 1 + 1)) : Nat) : Int) := by rw [HH.out.1]
          have HEND := Lib.hid (And.intro hend hbz)
          clear hb2 hbz hend
          go_wp2
          go_roundw
          case rel => exact ⟨k + 1, by go_num, by omega, (by rw [← HEND.out.1, hw]; go_num), HEND.out.2⟩
          case measure => simp [RowKit.intOf]; omega
        · have hkn : k = n := by omega
          subst hkn
          have i1 : ¬ (k : Int) < (k : Int) := by omega
          have ht : ks.take (k + 1) = ks := by rw [← HN.out, List.take_length]
          rw [ht, HR.out]
          have HY := Lib.hid (HK.out.2.trans (hb.mono HK.out.2.size))
          clear hb ht
          go_wp2
          go_ret
          exact ⟨rfl, HY.out⟩
    have q4 : (kk == 4) = false := by simpa using k4
    by_cases k5 : kk = 5
    · subst k5
      have HR := Lib.hid (show shE.least ks = R by rw [hL]; rfl)
      have hn1 := HGK.out.1 (by simp)
      have HG := Lib.hid (fun f hf => HGK.out.2 f hf (by simp))
      obtain ⟨n, rfl⟩ : ∃ m, n = m + 1 := ⟨n - 1, by omega⟩
      obtain ⟨cap, rfl⟩ : ∃ m, cap = m + 1 := ⟨cap - 1, by omega⟩
      clear hL k6 k8 k9 k4
      go_enter Try.func43, Try.ntmps43
      obtain ⟨f0, hf0⟩ : ∃ f, ks[0]? = some f := ⟨ks[0]'(by rw [HN.out]; omega), List.getElem?_eq_getElem _⟩
      obtain ⟨b, o, rfl, hblw, hrw⟩ := HKW.out.r (by rintro rfl; simp at hf0)
      obtain ⟨b', o', e', hbl, hr⟩ := HK.out.1.r (by rintro rfl; simp at hf0)
      injection e' with e'
      injection e' with e1 e2
      subst e1
      subst e2
      have HROW := Lib.hid (And.intro hbl hr)
      obtain ⟨A0, cap0, x0, x1, x2, hNw⟩ := row_get' hrw hf0
      rw [Nat.zero_mul, Nat.add_zero] at x0 x1 x2
      have hN0 := hNw.on HK.out.2
      have hC0 := Lib.hid (HI.out f0 (HKD.out 0 f0 hf0) (by have := HKD.out 0 f0 hf0; have := HSZ.out; omega) (HG.out f0 (List.mem_of_getElem? hf0)) _ W0 hN0)
      have hfst := shfirst hf0
      have HF := Lib.hid hfst
      clear hN0 hNw hr hrw hfst
      go_wp2_with fail
      rw [HW.out]
      refine hC0.out.mono ?_
      rintro r w1 ⟨rfl, hb1⟩
      have c0' := (hb1.cell (p := ⟨w.heap.size, 0, none⟩) hz0).trans c0
      have c2' := (hb1.cell (p := ⟨w.heap.size, 2, none⟩) hz0).trans c2
      have HB1 := Lib.hid hb1
      clear hb1
      by_cases hcap : cap = 0
      · subst hcap
        obtain rfl : n = 0 := by omega
        have ht : ks.take 1 = ks := List.take_of_length_le (by rw [HN.out]; omega)
        have hfr : shE f0 = R := by rw [← HF.out.2, ht, HR.out]
        rw [hfr]
        have HY := Lib.hid (HK.out.2.trans (HB1.out.mono HK.out.2.size))
        go_wp2_with fail
        go_loopw [3, 5, 25] (fun s _ i wr => i = .int .i64 0 ∧ s = .int .i64 (R : Int) ∧ wr = w1) (fun _ _ _ _ => 0)
        case atStart => exact ⟨rfl, rfl, rfl⟩
        case round =>
          obtain ⟨rfl, rfl, rfl⟩ := hrel
          go_wp2
          go_ret
          exact ⟨rfl, HY.out⟩
      go_wp2_with fail
      go_loopw [3, 5, 25] (fun s _ i wr => ∃ k : Nat, i = .int .i64 k ∧ k ≤ n ∧ s = .int .i64 ((shE.least (ks.take (k + 1)) : Nat) : Int) ∧ Below W0.heap.size W0 wr) (fun _ _ i _ => n - (RowKit.intOf i).toNat)
      case atStart => exact ⟨0, rfl, Nat.zero_le _, by rw [HF.out.2], HB1.out⟩
      case round =>
        obtain ⟨k, rfl, hkn, rfl, hb⟩ := hrel
        have c0'' := (hb.cell (p := ⟨w.heap.size, 0, none⟩) hz0).trans c0
        by_cases hlt : k < n
        · obtain ⟨f, hf⟩ : ∃ f, ks[k + 1]? = some f := ⟨ks[k + 1]'(by rw [HN.out]; omega), List.getElem?_eq_getElem _⟩
          have i1 : (k : Int) < (n : Int) := by omega
          obtain ⟨A', cap', d0, d1, d2, hN⟩ := row_get' HROW.out.2 hf
          rw [show o + (k + 1) * 3 = o + 3 + k * 3 by omega] at d0 d1 d2
          have d0' := (hb.cell (p := ⟨b, o + 3 + k * 3, none⟩) hbl).trans d0
          have d1' := (hb.cell (p := ⟨b, o + 3 + k * 3 + 1, none⟩) hbl).trans d1
          have d2' := (hb.cell (p := ⟨b, o + 3 + k * 3 + 2, none⟩) hbl).trans d2
          have hs := shleast_take hf
          have hl := HKD.out (k + 1) f hf
          obtain ⟨wr', hwr'⟩ : ∃ W, wr.alloc (.cells #[.int .i64 f.k, .int .i64 f.c, .slice A' f.ks.length cap'] 33) = W := ⟨_, rfl⟩
          have hb' : Below W0.heap.size W0 wr' := by rw [← hwr']; exact hb.alloc hb.size _
          have hz1 : w.heap.size < wr.heap.size := by have := hb.size; omega
          have hC := HI.out f hl (by have := HSZ.out; omega) (HG.out f (List.mem_of_getElem? hf)) _ wr' ((hN.below hb').mono hb'.size)
          generalize shE.least (ks.take (k + 1)) = s at *
          obtain ⟨t, ht⟩ : ∃ t, shE f = t := ⟨_, rfl⟩
          rw [ht] at hC hs
          have hC := Lib.hid hC
          have HH := Lib.hid (And.intro hs (And.intro hb' hlt))
          have HWR := Lib.hid hwr'
          clear hs hl hb' hwr' hN hb ht d0 d1 d2
          go_wp2_with fail
          rw [HWR.out]
          refine hC.out.mono ?_
          rintro r w2 ⟨rfl, hb2⟩
          have hbz := HH.out.2.1.trans (hb2.mono HH.out.2.1.size)
          have hend : ((min s t : Nat) : Int) = ((shE.least (ks.take (k + 1 + 1)) : Nat) : Int) := by rw [HH.out.1]
          have HEND := Lib.hid (And.intro hend hbz)
          clear hb2 hbz hend
          go_wp2
          go_roundw
          case rel => exact ⟨k + 1, by go_num, by omega, (by rw [← HEND.out.1]; go_num), HEND.out.2⟩
          case measure => simp [RowKit.intOf]; omega
        · have hkn : k = n := by omega
          subst hkn
          have i1 : ¬ (k : Int) < (k : Int) := by omega
          have ht : ks.take (k + 1) = ks := by rw [← HN.out, List.take_length]
          rw [ht, HR.out]
          have HY := Lib.hid (HK.out.2.trans (hb.mono HK.out.2.size))
          clear hb ht
          go_wp2
          go_ret
          exact ⟨rfl, HY.out⟩
    have q5 : (kk == 5) = false := by simpa using k5
    by_cases k7 : kk = 7
    · subst k7
      have HR := Lib.hid (show shE.least ks = R by rw [hL]; rfl)
      have hn1 := HGK.out.1 (by simp)
      have HG := Lib.hid (fun f hf => HGK.out.2 f hf (by simp))
      obtain ⟨n, rfl⟩ : ∃ m, n = m + 1 := ⟨n - 1, by omega⟩
      obtain ⟨cap, rfl⟩ : ∃ m, cap = m + 1 := ⟨cap - 1, by omega⟩
      clear hL k6 k8 k9 k4 k5
      go_enter Try.func43, Try.ntmps43
      obtain ⟨f0, hf0⟩ : ∃ f, ks[0]? = some f := ⟨ks[0]'(by rw [HN.out]; omega), List.getElem?_eq_getElem _⟩
      obtain ⟨b, o, rfl, hblw, hrw⟩ := HKW.out.r (by rintro rfl; simp at hf0)
      obtain ⟨b', o', e', hbl, hr⟩ := HK.out.1.r (by rintro rfl; simp at hf0)
      injection e' with e'
      injection e' with e1 e2
      subst e1
      subst e2
      have HROW := Lib.hid (And.intro hbl hr)
      obtain ⟨A0, cap0, x0, x1, x2, hNw⟩ := row_get' hrw hf0
      rw [Nat.zero_mul, Nat.add_zero] at x0 x1 x2
      have hN0 := hNw.on HK.out.2
      have hC0 := Lib.hid (HI.out f0 (HKD.out 0 f0 hf0) (by have := HKD.out 0 f0 hf0; have := HSZ.out; omega) (HG.out f0 (List.mem_of_getElem? hf0)) _ W0 hN0)
      have hfst := shfirst hf0
      have HF := Lib.hid hfst
      clear hN0 hNw hr hrw hfst
      go_wp2_with fail
      rw [HW.out]
      refine hC0.out.mono ?_
      rintro r w1 ⟨rfl, hb1⟩
      have c0' := (hb1.cell (p := ⟨w.heap.size, 0, none⟩) hz0).trans c0
      have c2' := (hb1.cell (p := ⟨w.heap.size, 2, none⟩) hz0).trans c2
      have HB1 := Lib.hid hb1
      clear hb1
      by_cases hcap : cap = 0
      · subst hcap
        obtain rfl : n = 0 := by omega
        have ht : ks.take 1 = ks := List.take_of_length_le (by rw [HN.out]; omega)
        have hfr : shE f0 = R := by rw [← HF.out.2, ht, HR.out]
        rw [hfr]
        have HY := Lib.hid (HK.out.2.trans (HB1.out.mono HK.out.2.size))
        go_wp2_with fail
        go_loopw [3, 5, 25] (fun s _ i wr => i = .int .i64 0 ∧ s = .int .i64 (R : Int) ∧ wr = w1) (fun _ _ _ _ => 0)
        case atStart => exact ⟨rfl, rfl, rfl⟩
        case round =>
          obtain ⟨rfl, rfl, rfl⟩ := hrel
          go_wp2
          go_ret
          exact ⟨rfl, HY.out⟩
      go_wp2_with fail
      go_loopw [3, 5, 25] (fun s _ i wr => ∃ k : Nat, i = .int .i64 k ∧ k ≤ n ∧ s = .int .i64 ((shE.least (ks.take (k + 1)) : Nat) : Int) ∧ Below W0.heap.size W0 wr) (fun _ _ i _ => n - (RowKit.intOf i).toNat)
      case atStart => exact ⟨0, rfl, Nat.zero_le _, by rw [HF.out.2], HB1.out⟩
      case round =>
        obtain ⟨k, rfl, hkn, rfl, hb⟩ := hrel
        have c0'' := (hb.cell (p := ⟨w.heap.size, 0, none⟩) hz0).trans c0
        by_cases hlt : k < n
        · obtain ⟨f, hf⟩ : ∃ f, ks[k + 1]? = some f := ⟨ks[k + 1]'(by rw [HN.out]; omega), List.getElem?_eq_getElem _⟩
          have i1 : (k : Int) < (n : Int) := by omega
          obtain ⟨A', cap', d0, d1, d2, hN⟩ := row_get' HROW.out.2 hf
          rw [show o + (k + 1) * 3 = o + 3 + k * 3 by omega] at d0 d1 d2
          have d0' := (hb.cell (p := ⟨b, o + 3 + k * 3, none⟩) hbl).trans d0
          have d1' := (hb.cell (p := ⟨b, o + 3 + k * 3 + 1, none⟩) hbl).trans d1
          have d2' := (hb.cell (p := ⟨b, o + 3 + k * 3 + 2, none⟩) hbl).trans d2
          have hs := shleast_take hf
          have hl := HKD.out (k + 1) f hf
          obtain ⟨wr', hwr'⟩ : ∃ W, wr.alloc (.cells #[.int .i64 f.k, .int .i64 f.c, .slice A' f.ks.length cap'] 33) = W := ⟨_, rfl⟩
          have hb' : Below W0.heap.size W0 wr' := by rw [← hwr']; exact hb.alloc hb.size _
          have hz1 : w.heap.size < wr.heap.size := by have := hb.size; omega
          have hC := HI.out f hl (by have := HSZ.out; omega) (HG.out f (List.mem_of_getElem? hf)) _ wr' ((hN.below hb').mono hb'.size)
          generalize shE.least (ks.take (k + 1)) = s at *
          obtain ⟨t, ht⟩ : ∃ t, shE f = t := ⟨_, rfl⟩
          rw [ht] at hC hs
          have hC := Lib.hid hC
          have HH := Lib.hid (And.intro hs (And.intro hb' hlt))
          have HWR := Lib.hid hwr'
          clear hs hl hb' hwr' hN hb ht d0 d1 d2
          go_wp2_with fail
          rw [HWR.out]
          refine hC.out.mono ?_
          rintro r w2 ⟨rfl, hb2⟩
          have hbz := HH.out.2.1.trans (hb2.mono HH.out.2.1.size)
          have hend : ((min s t : Nat) : Int) = ((shE.least (ks.take (k + 1 + 1)) : Nat) : Int) := by rw [HH.out.1]
          have HEND := Lib.hid (And.intro hend hbz)
          clear hb2 hbz hend
          go_wp2
          go_roundw
          case rel => exact ⟨k + 1, by go_num, by omega, (by rw [← HEND.out.1]; go_num), HEND.out.2⟩
          case measure => simp [RowKit.intOf]; omega
        · have hkn : k = n := by omega
          subst hkn
          have i1 : ¬ (k : Int) < (k : Int) := by omega
          have ht : ks.take (k + 1) = ks := by rw [← HN.out, List.take_length]
          rw [ht, HR.out]
          have HY := Lib.hid (HK.out.2.trans (hb.mono HK.out.2.size))
          clear hb ht
          go_wp2
          go_ret
          exact ⟨rfl, HY.out⟩
    have q7 : (kk == 7) = false := by simpa using k7
    obtain rfl : R = 1 := by rw [hL, if_neg (fun h => h.elim k6 fun h => h.elim k8 k9), if_neg k4, if_neg (fun h => h.elim k5 k7)]
    clear hL k6 k8 k9 k4 k5 k7
    go_enter Try.func43, Try.ntmps43
    go_wp2
    rw [HW.out]
    go_ret
    exact ⟨rfl, HK.out.2⟩
end Go.Proofs.Ytegkogadceodlaa
