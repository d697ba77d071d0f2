/-
  Contracts: the document's Longest.
-/
import Derived.Test.YtegkogadceodlaaRha
namespace Go.Proofs.Ytegkogadceodlaa
open Go.RowKit Go.Shelf Go.Lib

/-- The document's answer: how long the longest list is; -1: there is none. -/
def lgRef (e : E) : Int := if noneE [6, 7] e then (lgE e : Nat) else -1
theorem good_kind {e : E} (h : goodE e = true ∨ (e.k = 9 ∧ e.ks = [])) : 0 ≤ e.k ∧ e.k ≤ 9 ∧ (e.k < 4 ∨ e.k = 9 → e.ks = []) := by
  rcases h with h | ⟨h1, h2⟩
  · rw [goodE_eq] at h
    simp only [Bool.and_eq_true] at h
    have h2 := h.1.2
    unfold shapedK at h2
    split at h2
    · simp at h2
      exact ⟨by omega, by omega, fun _ => h2.2⟩
    · split at h2
      · simp at h2
        exact ⟨by omega, by omega, fun _ => h2.2⟩
      · split at h2
        · exact ⟨by omega, by omega, fun _ => by omega⟩
        · split at h2
          · exact ⟨by omega, by omega, fun _ => by omega⟩
          · cases h2
  · exact ⟨by omega, by omega, fun _ => h2⟩

set_option maxHeartbeats 8000000 in
theorem refLong_any : ∀ N e, szE e ≤ N → szE e ≤ 100000 → (goodE e = true ∨ (e.k = 9 ∧ e.ks = [])) → ∀ v w, Nd w w.heap.size e v →
    Calls Try.prog 98 #[v] w fun r w' => r = .returned (.int .i64 (lgRef e)) ∧ Below w.heap.size w w' := by
  intro N
  induction N with
  | zero => intro e h; have := szE_pos e; omega
  | succ N ih =>
    intro e he hsz hgd v w h
    obtain ⟨_, _, A, cap, rfl, hk⟩ := Nd_iff.1 h
    obtain ⟨W0, hW0⟩ : ∃ W0, w.alloc (.cells #[.int .i64 e.k, .int .i64 e.c, .slice A e.ks.length cap] 24) = W0 := ⟨_, rfl⟩
    have hb0 : Below w.heap.size w W0 := by rw [← hW0]; exact below_new _ _
    have hz0 : w.heap.size < W0.heap.size := by rw [← hW0]; simp
    have c0 : W0.cell? ⟨w.heap.size, 0, none⟩ = some (.int .i64 e.k) := by rw [← hW0]; simp
    have c2 : W0.cell? ⟨w.heap.size, 2, none⟩ = some (.slice A e.ks.length cap) := by rw [← hW0]; simp
    have hk0 := hk.on hb0
    have hln : e.ks.length ≤ 9223372036854775807 := by have := hk.l; have := hk.m; unfold maxLen at this; omega
    have hS := szE_eq e
    have hL := lgE_eq e
    have hNo := noneE_eq [6, 7] e
    have hK := good_kind hgd
    have hgs : ∀ f ∈ e.ks, goodE f = true ∨ (f.k = 9 ∧ f.ks = []) := fun f hf => .inl (by
      rcases hgd with h | ⟨_, h⟩
      · exact good_kids h f hf
      · rw [h] at hf; cases hf)
    have hkid := fun i f (hf : e.ks[i]? = some f) => szE_kid (List.mem_of_getElem? hf)
    have ih' : ∀ f, szE f < szE e → szE f ≤ 100000 → (goodE f = true ∨ (f.k = 9 ∧ f.ks = [])) → ∀ v w, Nd w w.heap.size f v → Calls Try.prog 98 #[v] w fun r w' => r = .returned (.int .i64 (lgRef f)) ∧ Below w.heap.size w w' := fun f hf => ih f (by omega)
    obtain ⟨R, hR⟩ : ∃ R, lgRef e = R := ⟨_, rfl⟩
    have hR2 : R = if noneE [6, 7] e then ((lgE e : Nat) : Int) else -1 := hR.symm
    rw [hR]
    rw [hL, hNo] at hR2
    generalize e.k = kk at *
    generalize e.c = cc at *
    generalize e.ks = ks at *
    generalize szE e = S at *
    obtain ⟨n, hn⟩ : ∃ n, ks.length = n := ⟨_, rfl⟩
    rw [hn] at hW0 c2 hln ⊢
    have HW := Lib.hid hW0
    have HK := Lib.hid (And.intro hk0 hb0)
    have HI := Lib.hid ih'
    have HKD := Lib.hid hkid
    have HN := Lib.hid hn
    have HSZ := Lib.hid (And.intro hS hsz)
    have HG := Lib.hid hgs
    have HR := Lib.hid hR2
    have HKK := Lib.hid hK
    clear hW0 hk hk0 hb0 ih ih' hkid hn h hS hsz he hR hR2 hL hNo hgd hgs hK
    by_cases k6 : kk = 6
    · subst k6
      obtain rfl : R = -1 := by rw [HR.out]; simp
      go_enter Try.func98, Try.ntmps98
      go_wp2
      rw [HW.out]
      go_ret
      exact ⟨rfl, HK.out.2⟩
    have q6 : (kk == 6) = false := by simpa using k6
    by_cases k7 : kk = 7
    · subst k7
      obtain rfl : R = -1 := by rw [HR.out]; simp
      clear k6
      go_enter Try.func98, Try.ntmps98
      go_wp2
      rw [HW.out]
      go_ret
      exact ⟨rfl, HK.out.2⟩
    have q7 : (kk == 7) = false := by simpa using k7
    have hnk : (!([6, 7] : List Int).contains kk) = true := by simp [k6, k7]
    have HR1 := Lib.hid (show R = if noneE.all [6, 7] ks then (((if kk = 9 then 0 else if kk = 4 then lgE.sum ks else if kk = 5 ∨ kk = 8 then lgE.most ks else 1) : Nat) : Int) else -1 by rw [HR.out, hnk, Bool.true_and])
    by_cases k4 : kk < 4
    · have hnil := HKK.out.2.2 (.inl k4)
      obtain rfl : R = 1 := by
        have e0 : noneE.all [6, 7] ([] : List E) = true := rfl
        rw [HR1.out, hnil, if_pos e0, if_neg (show ¬ kk = 9 by omega), if_neg (show ¬ kk = 4 by omega), if_neg (show ¬ (kk = 5 ∨ kk = 8) by omega)]
        rfl
      clear hnk k6 k7
      go_enter Try.func98, Try.ntmps98
      go_wp2
      rw [HW.out]
      go_ret
      exact ⟨rfl, HK.out.2⟩
    have q4 : decide (kk < 4) = false := by simp; omega
    have HKL := Lib.hid (And.intro k6 (And.intro k7 k4))
    clear hnk k6 k7 k4
    go_enter Try.func98, Try.ntmps98
    go_wp2_with fail
    rw [HW.out]
    go_loopw [3, 4, 5, 6] (fun s mo i _ wr => ∃ k : Nat, i = .int .i64 k ∧ k ≤ n ∧ s = .int .i64 ((lgE.sum (ks.take k) : Nat) : Int) ∧ mo = .int .i64 ((lgE.most (ks.take k) : Nat) : Int) ∧ noneE.all [6, 7] (ks.take k) = true ∧ Below W0.heap.size W0 wr) (fun _ _ i _ _ => n - (RowKit.intOf i).toNat)
    case atStart => exact ⟨0, rfl, Nat.zero_le _, by rw [List.take_zero]; rfl, by rw [List.take_zero]; rfl, by rw [List.take_zero]; rfl, Below.refl _ _⟩
    case round =>
      obtain ⟨k, rfl, hkn, rfl, rfl, hyes, hb⟩ := hrel
      have c0' := (hb.cell (p := ⟨w.heap.size, 0, none⟩) hz0).trans c0
      have c2' := (hb.cell (p := ⟨w.heap.size, 2, none⟩) hz0).trans c2
      by_cases hlt : k < n
      · obtain ⟨f, hf⟩ : ∃ f, ks[k]? = some f := ⟨ks[k]'(by rw [HN.out]; exact hlt), List.getElem?_eq_getElem _⟩
        have i1 : (k : Int) < (n : Int) := by omega
        obtain ⟨b, o, rfl, hbl, hr⟩ := HK.out.1.r (by rintro rfl; simp at hf)
        obtain ⟨Af, capf, d0, d1, d2, hN⟩ := row_get' hr hf
        have d0' := (hb.cell (p := ⟨b, o + k * 3, none⟩) hbl).trans d0
        have d1' := (hb.cell (p := ⟨b, o + k * 3 + 1, none⟩) hbl).trans d1
        have d2' := (hb.cell (p := ⟨b, o + k * 3 + 2, none⟩) hbl).trans d2
        have hs := none_take [6, 7] hf
        rw [hyes, Bool.true_and] at hs
        have h1 := lgsum_take hf
        have h2 := lgmost_take hf
        have hl := HKD.out k f hf
        have hq1 := (lgsum_le ks (k + 1)).1
        have hq2 := lgL_le ks
        rw [h1] at hq1
        have hC := HI.out f hl (by have := HSZ.out; omega) (HG.out f (List.mem_of_getElem? hf)) _ wr ((hN.below hb).mono hb.size)
        have hlr : lgRef f = if noneE [6, 7] f then ((lgE f : Nat) : Int) else -1 := rfl
        rw [hlr] at hC
        generalize lgE.sum (ks.take k) = s at *
        generalize lgE.most (ks.take k) = mo at *
        obtain ⟨t, ht⟩ : ∃ t, lgE f = t := ⟨_, rfl⟩
        obtain ⟨q, hq⟩ : ∃ q, noneE [6, 7] f = q := ⟨_, rfl⟩
        rw [ht] at hC h1 h2 hq1
        rw [hq] at hC hs
        have hw : wrap64 ((s : Int) + (t : Int)) = (s : Int) + (t : Int) := wrap_small (by have := HSZ.out; omega)
        have HH := Lib.hid (And.intro hs (And.intro hb (And.intro hlt (And.intro h1 h2))))
        cases q
        · replace hC := Lib.hid (show Calls Try.prog 98 _ wr fun r w' => r = .returned (.int .i64 (-1)) ∧ Below wr.heap.size wr w' from hC)
          obtain rfl : R = -1 := by rw [HR1.out, none_stop [6, 7] hs]; rfl
          clear hs hb hN hr hbl hq hyes d0 d1 d2 h1 h2 hl hq1 hq2 hlr ht
          go_wp2_with fail
          refine hC.out.mono ?_
          rintro r w2 ⟨rfl, hb2⟩
          have HB2 := Lib.hid (HH.out.2.1.trans (hb2.mono HH.out.2.1.size))
          clear hb2
          go_wp2
          go_ret
          exact ⟨rfl, HK.out.2.trans (HB2.out.mono HK.out.2.size)⟩
        · replace hC := Lib.hid (show Calls Try.prog 98 _ wr fun r w' => r = .returned (.int .i64 (t : Int)) ∧ Below wr.heap.size wr w' from hC)
          have ht0 : decide ((t : Int) < 0) = false := by simp
          clear hs hb hN hr hbl hq hyes d0 d1 d2 h1 h2 hl hq1 hq2 hlr ht
          go_wp2_with fail
          refine hC.out.mono ?_
          rintro r w2 ⟨rfl, hb2⟩
          have HB2 := Lib.hid (HH.out.2.1.trans (hb2.mono HH.out.2.1.size))
          have he1 : ((s + t : Nat) : Int) = ((lgE.sum (ks.take (k + 1)) : Nat) : Int) := by rw [HH.out.2.2.2.1]
          have he2 : ((max mo t : Nat) : Int) = ((lgE.most (ks.take (k + 1)) : Nat) : Int) := by rw [HH.out.2.2.2.2]
          have HE := Lib.hid (And.intro he1 he2)
          clear hb2 he1 he2
          go_wp2
          go_roundw
          case rel => exact ⟨k + 1, by go_num, by omega, by rw [← HE.out.1]; go_num, by rw [← HE.out.2]; go_num, HH.out.1, HB2.out⟩
          case measure => simp [RowKit.intOf]; omega
      · have hkn : k = n := by omega
        subst hkn
        have i1 : ¬ (k : Int) < (k : Int) := by omega
        have ht : ks.take k = ks := by rw [← HN.out, List.take_length]
        rw [ht] at hyes ⊢
        have HY := Lib.hid (HK.out.2.trans (hb.mono HK.out.2.size))
        have hR3 := HR1.out
        rw [if_pos hyes] at hR3
        clear hb ht
        by_cases k4 : kk = 4
        · subst k4
          obtain rfl : R = ((lgE.sum ks : Nat) : Int) := hR3
          clear hyes
          go_wp2
          go_ret
          exact ⟨rfl, HY.out⟩
        · have q5 : (kk == 4) = false := by simpa using k4
          obtain rfl : R = ((lgE.most ks : Nat) : Int) := by
            rw [hR3]
            by_cases k9 : kk = 9
            · rw [if_pos k9, HKK.out.2.2 (.inr k9)]
              rfl
            · rw [if_neg k9, if_neg k4, if_pos (by have := HKK.out; have := HKL.out; omega)]
          clear hyes hR3 k4
          go_wp2
          go_ret
          exact ⟨rfl, HY.out⟩
end Go.Proofs.Ytegkogadceodlaa
