/-
  Contracts: expr.Node.longest.
-/
import Derived.Test.YtegkogadceodlaaGd
namespace Go.Proofs.Ytegkogadceodlaa
open Go.RowKit Go.Shelf Go.Lib

theorem wrap_small {n : Int} (h : 0 ≤ n ∧ n ≤ 4611686018427387904) : wrap64 n = n := by unfold wrap64; omega
set_option maxHeartbeats 8000000 in
theorem longest_any : ∀ N e, szE e ≤ N → szE e ≤ 100000 → ∀ v w, Nd w w.heap.size e v →
    Calls Try.prog 42 #[v] w fun r w' => r = .returned (.int .i64 ((lgE e : Nat) : Int)) ∧ Below w.heap.size w w' := by
  intro N
  induction N with
  | zero => intro e h; have := szE_pos e; omega
  | succ N ih =>
    intro e he hsz v w h
    obtain ⟨_, _, A, cap, rfl, hk⟩ := Nd_iff.1 h
    obtain ⟨W0, hW0⟩ : ∃ W0, w.alloc (.cells #[.int .i64 e.k, .int .i64 e.c, .slice A e.ks.length cap] 33) = W0 := ⟨_, rfl⟩
    have hb0 : Below w.heap.size w W0 := by rw [← hW0]; exact below_new _ _
    have hz0 : w.heap.size < W0.heap.size := by rw [← hW0]; simp
    have c0 : W0.cell? ⟨w.heap.size, 0, none⟩ = some (.int .i64 e.k) := by rw [← hW0]; simp
    have hk0 := hk.on hb0
    have hS := szE_eq e
    have hL := lgE_eq e
    have hkid := fun i f (hf : e.ks[i]? = some f) => szE_kid (List.mem_of_getElem? hf)
    have hln : e.ks.length ≤ 9223372036854775807 := by have := hk.l; have := hk.m; unfold maxLen at this; omega
    have ih' : ∀ f, szE f < szE e → szE f ≤ 100000 → ∀ v w, Nd w w.heap.size f v → Calls Try.prog 42 #[v] w fun r w' => r = .returned (.int .i64 ((lgE f : Nat) : Int)) ∧ Below w.heap.size w w' := fun f hf => ih f (by omega)
    obtain ⟨R, hR⟩ : ∃ R, lgE e = R := ⟨_, rfl⟩
    rw [hR] at hL ⊢
    generalize e.k = kk at *
    generalize e.c = cc at *
    generalize e.ks = ks at *
    generalize szE e = S at *
    obtain ⟨n, hn⟩ : ∃ n, ks.length = n := ⟨_, rfl⟩
    rw [hn] at hW0 hln ⊢
    have HW := Lib.hid hW0
    have HK := Lib.hid (And.intro hk0 hb0)
    have HI := Lib.hid ih'
    have HKD := Lib.hid hkid
    have HN := Lib.hid hn
    have HSZ := Lib.hid (And.intro hS hsz)
    clear hW0 hk hk0 hb0 ih ih' hkid hn h hS hsz he hR
    by_cases k9 : kk = 9
    · subst k9
      obtain rfl : R = 0 := by rw [hL]; rfl
      clear hL
      go_enter Try.func42, Try.ntmps42
      go_wp2
      rw [HW.out]
      go_ret
      exact ⟨rfl, HK.out.2⟩
    have q9 : (kk == 9) = false := by simpa using k9
    by_cases k4 : kk = 4
    · subst k4
      have HR := Lib.hid (show lgE.sum ks = R by rw [hL]; rfl)
      clear hL k9
      go_enter Try.func42, Try.ntmps42
      go_wp2_with fail
      rw [HW.out]
      go_loopw [3, 5, 17] (fun s _ i wr => ∃ k : Nat, i = .int .i64 k ∧ k ≤ n ∧ s = .int .i64 ((lgE.sum (ks.take k) : Nat) : Int) ∧ Below W0.heap.size W0 wr) (fun _ _ i _ => n - (RowKit.intOf i).toNat)
      case atStart => exact ⟨0, rfl, Nat.zero_le _, by rw [List.take_zero]; rfl, Below.refl _ _⟩
      case round =>
        obtain ⟨k, rfl, hkn, rfl, hb⟩ := hrel
        have c0' := (hb.cell (p := ⟨w.heap.size, 0, none⟩) hz0).trans c0
        by_cases hlt : k < n
        · obtain ⟨f, hf⟩ : ∃ f, ks[k]? = some f := ⟨ks[k]'(by rw [HN.out]; exact hlt), List.getElem?_eq_getElem _⟩
          have i1 : (k : Int) < (n : Int) := by omega
          obtain ⟨b, o, rfl, hbl, hr⟩ := HK.out.1.r (by rintro rfl; simp at hf)
          obtain ⟨A', cap', d0, d1, d2, hN⟩ := row_get' hr hf
          have d0' := (hb.cell (p := ⟨b, o + k * 3, none⟩) hbl).trans d0
          have d1' := (hb.cell (p := ⟨b, o + k * 3 + 1, none⟩) hbl).trans d1
          have d2' := (hb.cell (p := ⟨b, o + k * 3 + 2, none⟩) hbl).trans d2
          have hs := lgsum_take hf
          have hl := HKD.out k f hf
          have hq1 := (fun a b => (lgsum_le a b).1) ks (k + 1)
          have hq2 := lgL_le ks
          rw [hs] at hq1
          obtain ⟨wr', hwr'⟩ : ∃ W, wr.alloc (.cells #[.int .i64 f.k, .int .i64 f.c, .slice A' f.ks.length cap'] 33) = W := ⟨_, rfl⟩
          have hb' : Below W0.heap.size W0 wr' := by rw [← hwr']; exact hb.alloc hb.size _
          have hz1 : w.heap.size < wr.heap.size := by have := hb.size; omega
          have hC := HI.out f (by omega) (by have := HSZ.out; omega) _ wr' ((hN.below hb').mono hb'.size)
          generalize lgE.sum (ks.take k) = s at *
          obtain ⟨t, ht⟩ : ∃ t, lgE f = t := ⟨_, rfl⟩
          rw [ht] at hC hs hq1
          have hw : wrap64 ((s : Int) + (t : Int)) = (s : Int) + (t : Int) := wrap_small (by have := HSZ.out; omega)
          have hC := Lib.hid hC
          have HH := Lib.hid (And.intro hs (And.intro hb' hlt))
          have HWR := Lib.hid hwr'
          clear hs hl hq1 hq2 hb' hwr' hN hr hbl hb ht d0 d1 d2
          go_wp2_with fail
          rw [HWR.out]
          refine hC.out.mono ?_
          rintro r w2 ⟨rfl, hb2⟩
          have hbz := HH.out.2.1.trans (hb2.mono HH.out.2.1.size)
          have hend : ((s + t : Nat) : Int) = ((lgE.sum (ks.take (k + 1)) : Nat) : Int) := by rw [HH.out.1]
          have HEND := Lib.hid (And.intro hend hbz)
          clear hb2 hbz hend
          go_wp2
          go_roundw
          case rel => exact ⟨k + 1, by go_num, by omega, (by rw [← HEND.out.1, hw]; go_num), HEND.out.2⟩
          case measure => simp [RowKit.intOf]; omega
        · have hkn : k = n := by omega
          subst hkn
          have i1 : ¬ (k : Int) < (k : Int) := by omega
          have ht : ks.take k = ks := by rw [← HN.out, List.take_length]
          rw [ht, HR.out]
          have HY := Lib.hid (HK.out.2.trans (hb.mono HK.out.2.size))
          clear hb ht
          go_wp2
          go_ret
          exact ⟨rfl, HY.out⟩
    have q4 : (kk == 4) = false := by simpa using k4
    by_cases k5 : kk = 5
    · subst k5
      have HR := Lib.hid (show lgE.most ks = R by rw [hL]; rfl)
      clear hL k9 k4
      go_enter Try.func42, Try.ntmps42
      go_wp2_with fail
      rw [HW.out]
      go_loopw [3, 5, 17] (fun s _ i wr => ∃ k : Nat, i = .int .i64 k ∧ k ≤ n ∧ s = .int .i64 ((lgE.most (ks.take k) : Nat) : Int) ∧ Below W0.heap.size W0 wr) (fun _ _ i _ => n - (RowKit.intOf i).toNat)
      case atStart => exact ⟨0, rfl, Nat.zero_le _, by rw [List.take_zero]; rfl, Below.refl _ _⟩
      case round =>
        obtain ⟨k, rfl, hkn, rfl, hb⟩ := hrel
        have c0' := (hb.cell (p := ⟨w.heap.size, 0, none⟩) hz0).trans c0
        by_cases hlt : k < n
        · obtain ⟨f, hf⟩ : ∃ f, ks[k]? = some f := ⟨ks[k]'(by rw [HN.out]; exact hlt), List.getElem?_eq_getElem _⟩
          have i1 : (k : Int) < (n : Int) := by omega
          obtain ⟨b, o, rfl, hbl, hr⟩ := HK.out.1.r (by rintro rfl; simp at hf)
          obtain ⟨A', cap', d0, d1, d2, hN⟩ := row_get' hr hf
          have d0' := (hb.cell (p := ⟨b, o + k * 3, none⟩) hbl).trans d0
          have d1' := (hb.cell (p := ⟨b, o + k * 3 + 1, none⟩) hbl).trans d1
          have d2' := (hb.cell (p := ⟨b, o + k * 3 + 2, none⟩) hbl).trans d2
          have hs := lgmost_take hf
          have hl := HKD.out k f hf
          have hq1 := (fun a b => (lgsum_le a b).2) ks (k + 1)
          have hq2 := lgL_le ks
          rw [hs] at hq1
          obtain ⟨wr', hwr'⟩ : ∃ W, wr.alloc (.cells #[.int .i64 f.k, .int .i64 f.c, .slice A' f.ks.length cap'] 33) = W := ⟨_, rfl⟩
          have hb' : Below W0.heap.size W0 wr' := by rw [← hwr']; exact hb.alloc hb.size _
          have hz1 : w.heap.size < wr.heap.size := by have := hb.size; omega
          have hC := HI.out f (by omega) (by have := HSZ.out; omega) _ wr' ((hN.below hb').mono hb'.size)
          generalize lgE.most (ks.take k) = s at *
          obtain ⟨t, ht⟩ : ∃ t, lgE f = t := ⟨_, rfl⟩
          rw [ht] at hC hs hq1
          have hw : wrap64 ((s : Int) + (t : Int)) = (s : Int) + (t : Int) := wrap_small (by have := HSZ.out; omega)
          have hC := Lib.hid hC
          have HH := Lib.hid (And.intro hs (And.intro hb' hlt))
          have HWR := Lib.hid hwr'
          clear hs hl hq1 hq2 hb' hwr' hN hr hbl hb ht d0 d1 d2
          go_wp2_with fail
          rw [HWR.out]
          refine hC.out.mono ?_
          rintro r w2 ⟨rfl, hb2⟩
          have hbz := HH.out.2.1.trans (hb2.mono HH.out.2.1.size)
          have hend : ((max s t : Nat) : Int) = ((lgE.most (ks.take (k + 1)) : Nat) : Int) := by rw [HH.out.1]
          have HEND := Lib.hid (And.intro hend hbz)
          clear hb2 hbz hend
          go_wp2
          go_roundw
          case rel => exact ⟨k + 1, by go_num, by omega, (by rw [← HEND.out.1]; go_num), HEND.out.2⟩
          case measure => simp [RowKit.intOf]; omega
        · have hkn : k = n := by omega
          subst hkn
          have i1 : ¬ (k : Int) < (k : Int) := by omega
          have ht : ks.take k = ks := by rw [← HN.out, List.take_length]
          rw [ht, HR.out]
          have HY := Lib.hid (HK.out.2.trans (hb.mono HK.out.2.size))
          clear hb ht
          go_wp2
          go_ret
          exact ⟨rfl, HY.out⟩
    have q5 : (kk == 5) = false := by simpa using k5
    by_cases k8 : kk = 8
    · subst k8
      have HR := Lib.hid (show lgE.most ks = R by rw [hL]; rfl)
      clear hL k9 k4 k5
      go_enter Try.func42, Try.ntmps42
      go_wp2_with fail
      rw [HW.out]
      go_loopw [3, 5, 17] (fun s _ i wr => ∃ k : Nat, i = .int .i64 k ∧ k ≤ n ∧ s = .int .i64 ((lgE.most (ks.take k) : Nat) : Int) ∧ Below W0.heap.size W0 wr) (fun _ _ i _ => n - (RowKit.intOf i).toNat)
      case atStart => exact ⟨0, rfl, Nat.zero_le _, by rw [List.take_zero]; rfl, Below.refl _ _⟩
      case round =>
        obtain ⟨k, rfl, hkn, rfl, hb⟩ := hrel
        have c0' := (hb.cell (p := ⟨w.heap.size, 0, none⟩) hz0).trans c0
        by_cases hlt : k < n
        · obtain ⟨f, hf⟩ : ∃ f, ks[k]? = some f := ⟨ks[k]'(by rw [HN.out]; exact hlt), List.getElem?_eq_getElem _⟩
          have i1 : (k : Int) < (n : Int) := by omega
          obtain ⟨b, o, rfl, hbl, hr⟩ := HK.out.1.r (by rintro rfl; simp at hf)
          obtain ⟨A', cap', d0, d1, d2, hN⟩ := row_get' hr hf
          have d0' := (hb.cell (p := ⟨b, o + k * 3, none⟩) hbl).trans d0
          have d1' := (hb.cell (p := ⟨b, o + k * 3 + 1, none⟩) hbl).trans d1
          have d2' := (hb.cell (p := ⟨b, o + k * 3 + 2, none⟩) hbl).trans d2
          have hs := lgmost_take hf
          have hl := HKD.out k f hf
          have hq1 := (fun a b => (lgsum_le a b).2) ks (k + 1)
          have hq2 := lgL_le ks
          rw [hs] at hq1
          obtain ⟨wr', hwr'⟩ : ∃ W, wr.alloc (.cells #[.int .i64 f.k, .int .i64 f.c, .slice A' f.ks.length cap'] 33) = W := ⟨_, rfl⟩
          have hb' : Below W0.heap.size W0 wr' := by rw [← hwr']; exact hb.alloc hb.size _
          have hz1 : w.heap.size < wr.heap.size := by have := hb.size; omega
          have hC := HI.out f (by omega) (by have := HSZ.out; omega) _ wr' ((hN.below hb').mono hb'.size)
          generalize lgE.most (ks.take k) = s at *
          obtain ⟨t, ht⟩ : ∃ t, lgE f = t := ⟨_, rfl⟩
          rw [ht] at hC hs hq1
          have hw : wrap64 ((s : Int) + (t : Int)) = (s : Int) + (t : Int) := wrap_small (by have := HSZ.out; omega)
          have hC := Lib.hid hC
          have HH := Lib.hid (And.intro hs (And.intro hb' hlt))
          have HWR := Lib.hid hwr'
          clear hs hl hq1 hq2 hb' hwr' hN hr hbl hb ht d0 d1 d2
          go_wp2_with fail
          rw [HWR.out]
          refine hC.out.mono ?_
          rintro r w2 ⟨rfl, hb2⟩
          have hbz := HH.out.2.1.trans (hb2.mono HH.out.2.1.size)
          have hend : ((max s t : Nat) : Int) = ((lgE.most (ks.take (k + 1)) : Nat) : Int) := by rw [HH.out.1]
          have HEND := Lib.hid (And.intro hend hbz)
          clear hb2 hbz hend
          go_wp2
          go_roundw
          case rel => exact ⟨k + 1, by go_num, by omega, (by rw [← HEND.out.1]; go_num), HEND.out.2⟩
          case measure => simp [RowKit.intOf]; omega
        · have hkn : k = n := by omega
          subst hkn
          have i1 : ¬ (k : Int) < (k : Int) := by omega
          have ht : ks.take k = ks := by rw [← HN.out, List.take_length]
          rw [ht, HR.out]
          have HY := Lib.hid (HK.out.2.trans (hb.mono HK.out.2.size))
          clear hb ht
          go_wp2
          go_ret
          exact ⟨rfl, HY.out⟩
    have q8 : (kk == 8) = false := by simpa using k8
    obtain rfl : R = 1 := by rw [hL, if_neg k9, if_neg k4, if_neg (fun h => h.elim k5 k8)]
    clear hL k9 k4 k5 k8
    go_enter Try.func42, Try.ntmps42
    go_wp2
    rw [HW.out]
    go_ret
    exact ⟨rfl, HK.out.2⟩
end Go.Proofs.Ytegkogadceodlaa
