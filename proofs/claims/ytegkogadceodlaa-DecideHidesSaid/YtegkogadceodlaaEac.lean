/-
  Contracts: expr.Node.each at the function that Right yields to; expr.Right.
-/
import Derived.Test.YtegkogadceodlaaVis
namespace Go.Proofs.Ytegkogadceodlaa
open Go.RowKit Go.Shelf Go.Lib

theorem visR_le : ∀ N e m, szE e ≤ N → (visG nxR e m).1 = true → m + 1 ≤ (visG nxR e m).2 ∧ (visG nxR e m).2 ≤ 2000 := by
  intro N
  induction N with
  | zero => intro e m h; have := szE_pos e; omega
  | succ N ih =>
    intro e m he h
    have hl : ∀ (ks : List E) (m : Nat), (∀ f ∈ ks, szE f ≤ N) → m ≤ 2000 → (visL nxR ks m).1 = true → m ≤ (visL nxR ks m).2 ∧ (visL nxR ks m).2 ≤ 2000 := by
      intro ks
      induction ks with
      | nil => intro m _ hm _; exact ⟨Nat.le_refl _, hm⟩
      | cons f r ihr =>
        intro m hf hm h
        have e1 : visL nxR (f :: r) m = if (visG nxR f m).1 then visL nxR r (visG nxR f m).2 else (false, (visG nxR f m).2) := by
          show visG.kids nxR (f :: r) m = _
          rw [visG.kids]
          rcases visG nxR f m with ⟨_ | _, s'⟩ <;> rfl
        rw [e1] at h ⊢
        by_cases hb : (visG nxR f m).1 = true
        · rw [if_pos hb] at h ⊢
          have h1 := ih f m (hf f List.mem_cons_self) hb
          have h2 := ihr _ (fun x hx => hf x (List.mem_cons_of_mem _ hx)) h1.2 h
          exact ⟨by omega, h2.2⟩
        · rw [if_neg hb] at h
          cases h
    rw [visG_eq] at h ⊢
    by_cases hb : (nxR e m).1 = true
    · rw [if_pos hb] at h ⊢
      have hm : m + 1 ≤ 2000 := by
        unfold nxR at hb
        simp only [Bool.and_eq_true, decide_eq_true_eq] at hb
        exact hb.1.1
      exact hl e.ks (m + 1) (fun f hf => by have := szE_kid hf; omega) hm h
    · rw [if_neg hb] at h
      cases h

theorem visL_le (ks : List E) : ∀ m, m ≤ 2000 → (visL nxR ks m).1 = true → (visL nxR ks m).2 ≤ 2000 := by
  induction ks with
  | nil => intro m hm _; exact hm
  | cons f r ihr =>
    intro m hm h
    have e1 : visL nxR (f :: r) m = if (visG nxR f m).1 then visL nxR r (visG nxR f m).2 else (false, (visG nxR f m).2) := by
      show visG.kids nxR (f :: r) m = _
      rw [visG.kids]
      rcases visG nxR f m with ⟨_ | _, s'⟩ <;> rfl
    rw [e1] at h ⊢
    by_cases hb : (visG nxR f m).1 = true
    · rw [if_pos hb] at h ⊢
      exact ihr _ (visR_le _ f m (Nat.le_refl _) hb).2 h
    · rw [if_neg hb] at h
      cases h

set_option maxHeartbeats 4000000 in
theorem each_right : ∀ N e, szE e ≤ N → ∀ v B g (m : Nat) w, Nd w B e v → B ≤ g → Boxed w g 3 (.int .i64 m) → m ≤ 2000 →
    Calls Try.prog 59 #[v, .func (.func 60) #[] #[.pointer (some ⟨g, 0, none⟩)]] w fun r w' => r = .returned (.bool (visG nxR e m).1) ∧ w.grownBy w' (some g) ∧ Boxed w' g 3 (.int .i64 ((visG nxR e m).2 : Nat)) := by
  intro N
  induction N with
  | zero => intro e h; have := szE_pos e; omega
  | succ N ih =>
    intro e he v B g m w h hB hg hm
    obtain ⟨_, _, A, cap, rfl, hk⟩ := Nd_iff.1 h
    obtain ⟨W0, hW0⟩ : ∃ W0, w.alloc (.cells #[.int .i64 e.k, .int .i64 e.c, .slice A e.ks.length cap] 33) = W0 := ⟨_, rfl⟩
    have hgr0 : w.grownBy W0 (some g) := by rw [← hW0]; exact World.grownBy_alloc _ _ _
    have hg0 : Boxed W0 g 3 (.int .i64 m) := by rw [← hW0]; exact hg.alloc _
    have hbx : Cells W0 w.heap.size 33 #[.int .i64 e.k, .int .i64 e.c, .slice A e.ks.length cap] := by rw [← hW0]; exact World.alloc_heap_new _ _
    have hln : e.ks.length ≤ 9223372036854775807 := by have := hk.l; have := hk.m; unfold maxLen at this; omega
    have C := right1_any e.k e.c A e.ks.length cap g m W0 hln hg0 hm
    have hS : visG nxR e m = _ := visG_eq nxR e m
    have hkid := fun i f (hf : e.ks[i]? = some f) => szE_kid (List.mem_of_getElem? hf)
    have hgl : g < w.heap.size := hg.lt
    have hnx : (nxR e m).2 = m + 1 := rfl
    have hnx1 : (decide (m + 1 ≤ 2000) && decide (e.k ≠ 9) && shapedK e.k e.c e.ks.length) = (nxR e m).1 := rfl
    rw [hnx1] at C
    rw [hnx] at hS
    obtain ⟨Z, hZ⟩ : ∃ Z, visG nxR e m = Z := ⟨_, rfl⟩
    rw [hZ] at hS ⊢
    have hm1 : (nxR e m).1 = true → m + 1 ≤ 2000 := fun hb => by
      unfold nxR at hb
      simp only [Bool.and_eq_true, decide_eq_true_eq] at hb
      exact hb.1.1
    generalize (nxR e m).1 = nb at *
    generalize e.k = kk at *
    generalize e.c = cc at *
    generalize e.ks = ks at *
    obtain ⟨n, hn⟩ : ∃ n, ks.length = n := ⟨_, rfl⟩
    rw [hn] at hW0 C hbx hln ⊢
    have HW := Lib.hid hW0
    have HC := Lib.hid C
    have HK := Lib.hid (And.intro hk (And.intro hgr0 (And.intro hbx (And.intro hB hm))))
    have HI := Lib.hid ih
    have HKD := Lib.hid hkid
    have HN := Lib.hid hn
    have HS := Lib.hid (And.intro hS (And.intro hm1 (And.intro hgl he)))
    clear hW0 hk hgr0 hbx hB hm ih hkid hn h C hg0 hg hS hm1 hgl hZ he hnx hnx1
    cases nb
    · have hZ : Z = (false, m + 1) := by rw [HS.out.1]; rfl
      subst hZ
      go_enter Try.func59, Try.ntmps59
      go_wp2_with fail
      rw [HW.out]
      refine HC.out.mono ?_
      rintro r w1 ⟨rfl, hgr1, hb1⟩
      have HZ := Lib.hid (And.intro (grown_trans HK.out.2.1 hgr1) hb1)
      clear hgr1 hb1
      go_wp2
      go_ret
      exact ⟨rfl, HZ.out⟩
    · have hZ : Z = visL nxR ks (m + 1) := by rw [HS.out.1]; rfl
      have HZ0 := Lib.hid hZ
      clear hZ
      go_enter Try.func59, Try.ntmps59
      go_wp2_with fail
      rw [HW.out]
      refine HC.out.mono ?_
      rintro r w1 ⟨rfl, hgr1, hb1⟩
      have hbx1 : Cells w1 w.heap.size 33 #[.int .i64 kk, .int .i64 cc, .slice A n cap] := (hgr1.block _ HK.out.2.2.1.lt (by have := HS.out.2.2.1; simp; omega)).trans HK.out.2.2.1
      have c2 := hbx1.cell 2
      have HZ := Lib.hid (And.intro (grown_trans HK.out.2.1 hgr1) (And.intro hb1 hbx1))
      clear hgr1 hb1 hbx1
      go_wp2_with fail
      go_loopw [6, 14] (fun _ i wr => ∃ k : Nat, i = .int .i64 k ∧ k ≤ n ∧ (visL nxR (ks.take k) (m + 1)).1 = true ∧ Boxed wr g 3 (.int .i64 ((visL nxR (ks.take k) (m + 1)).2 : Nat)) ∧ w.grownBy wr (some g)) (fun _ i _ => n - (RowKit.intOf i).toNat)
      case atStart => exact ⟨0, rfl, Nat.zero_le _, rfl, by rw [List.take_zero]; exact HZ.out.2.1, HZ.out.1⟩
      case round =>
        obtain ⟨k, rfl, hkn, hyes, hbk, hgk⟩ := hrel
        by_cases hlt : k < n
        · obtain ⟨f, hf⟩ : ∃ f, ks[k]? = some f := ⟨ks[k]'(by rw [HN.out]; exact hlt), List.getElem?_eq_getElem _⟩
          have i1 : (k : Int) < (n : Int) := by omega
          obtain ⟨b, o, rfl, hbl, hr⟩ := HK.out.1.r (by rintro rfl; simp at hf)
          obtain ⟨A', cap', d0, d1, d2, hN⟩ := row_get' hr hf
          have hne : some b ≠ some g := by have := HK.out.2.2.2.1; simp; omega
          have d0' := hgk.cell d0 hne
          have d1' := hgk.cell d1 hne
          have d2' := hgk.cell d2 hne
          have hs := visL_take nxR ks k f (m + 1) hf
          rw [if_pos hyes] at hs
          have hl := HKD.out k f hf
          have hm' := visL_le (ks.take k) (m + 1) (HS.out.2.1 trivial) hyes
          generalize (visL nxR (ks.take k) (m + 1)).2 = m' at *
          obtain ⟨wr', hwr'⟩ : ∃ W, wr.alloc (.cells #[.int .i64 f.k, .int .i64 f.c, .slice A' f.ks.length cap'] 33) = W := ⟨_, rfl⟩
          have hg2 : w.grownBy wr' (some g) := by rw [← hwr']; exact grown_trans hgk (World.grownBy_alloc _ _ _)
          have hC := HI.out f (by have := HS.out.2.2.2; omega) (.agg #[.int .i64 f.k, .int .i64 f.c, .slice A' f.ks.length cap']) B g m' wr' (hN.grown hg2 HK.out.2.2.2.1) HK.out.2.2.2.1 (by rw [← hwr']; exact hbk.alloc _) hm'
          obtain ⟨q, hq⟩ : ∃ q, visG nxR f m' = q := ⟨_, rfl⟩
          rw [hq] at hC hs
          have hC := Lib.hid hC
          have HH := Lib.hid (And.intro hs (And.intro hg2 hlt))
          have HWR := Lib.hid hwr'
          clear hs hl hm' hg2 hwr' hN hr hbl hbk hgk hyes hq
          go_wp2_with fail
          rw [HWR.out]
          refine hC.out.mono ?_
          rintro r w2 ⟨rfl, hg3, hb3⟩
          have HY := Lib.hid (And.intro (grown_trans HH.out.2.1 hg3) hb3)
          have hs := HH.out.1
          clear hg3 hb3
          obtain ⟨qb, qm⟩ := q
          cases qb
          · have hz : Z = (false, qm) := by rw [HZ0.out]; exact visL_stop nxR ks (k + 1) (m + 1) qm hs
            subst hz
            go_wp2
            go_ret
            exact ⟨rfl, HY.out⟩
          · have hend : (visL nxR (ks.take (k + 1)) (m + 1)).1 = true ∧ Boxed w2 g 3 (.int .i64 ((visL nxR (ks.take (k + 1)) (m + 1)).2 : Nat)) ∧ w.grownBy w2 (some g) := by rw [hs]; exact ⟨rfl, HY.out.2, HY.out.1⟩
            have HEND := Lib.hid hend
            clear hend hs
            go_wp2
            go_roundw
            case rel => exact ⟨k + 1, by go_num, by omega, HEND.out⟩
            case measure => simp [RowKit.intOf]; omega
        · have hkn : k = n := by omega
          subst hkn
          have i1 : ¬ (k : Int) < (k : Int) := by omega
          have ht : ks.take k = ks := by rw [← HN.out, List.take_length]
          rw [ht, ← HZ0.out] at hyes hbk
          obtain ⟨zb, zm⟩ := Z
          obtain rfl : zb = true := hyes
          have HY := Lib.hid (And.intro hgk hbk)
          clear hgk hbk ht
          go_wp2
          go_ret
          exact ⟨rfl, HY.out⟩
end Go.Proofs.Ytegkogadceodlaa
