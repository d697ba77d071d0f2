/-
  Contracts: expr.Node.longest.
  Plain mathematics: the shortest list.
  Contracts: expr.Node.shortest.
  Contracts: slices.Index and Contains at numbers; expr.Node.each at the function that holds yields to; holds.
  Contracts: expr.Longest, Shortest, Has; rule.fault.
  Contracts: expr.Shortest, Has; rule.fault; Rule.isRight.
  A rule as it lies in memory; contracts: Rule.isRight; the function that rule.Right asks with.
  A meaning as it lies in memory; contracts: slices.IndexFunc, ContainsFunc at rules; areClasses; rule.Right.
  Contracts: rule.Right.
  Contracts: a leaf by itself: takes, newState, step, Matches of one mark.
-/
import Derived.Test.YtegkogadceodlaaXsa
namespace Go.Proofs.Ytegkogadceodlaa
open Go.RowKit Go.Shelf Go.Lib

theorem wrap_small {n : Int} (h : 0 ≤ n ∧ n ≤ 4611686018427387904) : wrap64 n = n := by unfold wrap64; omega
set_option maxHeartbeats 8000000 in
theorem longest_any : ∀ N e, szE e ≤ N → szE e ≤ 100000 → ∀ v w, Nd w w.heap.size e v →
    Calls Try.prog 42 #[v] w fun r w' => r = .returned (.int .i64 ((lgE e : Nat) : Int)) ∧ Below w.heap.size w w' := by
  intro N
  induction N with
  | zero => intro e h; have := szE_pos e; omega
  | succ N ih =>
    intro e he hsz v w h
    obtain ⟨_, _, A, cap, rfl, hk⟩ := Nd_iff.1 h
    obtain ⟨W0, hW0⟩ : ∃ W0, w.alloc (.cells #[.int .i64 e.k, .int .i64 e.c, .slice A e.ks.length cap] 33) = W0 := ⟨_, rfl⟩
    have hb0 : Below w.heap.size w W0 := by rw [← hW0]; exact below_new _ _
    have hz0 : w.heap.size < W0.heap.size := by rw [← hW0]; simp
    have c0 : W0.cell? ⟨w.heap.size, 0, none⟩ = some (.int .i64 e.k) := by rw [← hW0]; simp
    have hk0 := hk.on hb0
    have hS := szE_eq e
    have hL := lgE_eq e
    have hkid := fun i f (hf : e.ks[i]? = some f) => szE_kid (List.mem_of_getElem? hf)
    have hln : e.ks.length ≤ 9223372036854775807 := by have := hk.l; have := hk.m; unfold maxLen at this; omega
    have ih' : ∀ f, szE f < szE e → szE f ≤ 100000 → ∀ v w, Nd w w.heap.size f v → Calls Try.prog 42 #[v] w fun r w' => r = .returned (.int .i64 ((lgE f : Nat) : Int)) ∧ Below w.heap.size w w' := fun f hf => ih f (by omega)
    obtain ⟨R, hR⟩ : ∃ R, lgE e = R := ⟨_, rfl⟩
    rw [hR] at hL ⊢
    generalize e.k = kk at *
    generalize e.c = cc at *
    generalize e.ks = ks at *
    generalize szE e = S at *
    obtain ⟨n, hn⟩ : ∃ n, ks.length = n := ⟨_, rfl⟩
    rw [hn] at hW0 hln ⊢
    have HW := Lib.hid hW0
    have HK := Lib.hid (And.intro hk0 hb0)
    have HI := Lib.hid ih'
    have HKD := Lib.hid hkid
    have HN := Lib.hid hn
    have HSZ := Lib.hid (And.intro hS hsz)
    clear hW0 hk hk0 hb0 ih ih' hkid hn h hS hsz he hR
    by_cases k9 : kk = 9
    · subst k9
      obtain rfl : R = 0 := by rw [hL]; rfl
      clear hL
      go_enter Try.func42, Try.ntmps42
      go_wp2
      rw [HW.out]
      go_ret
      exact ⟨rfl, HK.out.2⟩
    have q9 : (kk == 9) = false := by simpa using k9
    by_cases k4 : kk = 4
    · subst k4
      have HR := Lib.hid (show lgE.sum ks = R by rw [hL]; rfl)
      clear hL k9
      go_enter Try.func42, Try.ntmps42
      go_wp2_with fail
      rw [HW.out]
      go_loopw [3, 5, 17] (fun s _ i wr => ∃ k : Nat, i = .int .i64 k ∧ k ≤ n ∧ s = .int .i64 ((lgE.sum (ks.take k) : Nat) : Int) ∧ Below W0.heap.size W0 wr) (fun _ _ i _ => n - (RowKit.intOf i).toNat)
      case atStart => exact ⟨0, rfl, Nat.zero_le _, by rw [List.take_zero]; rfl, Below.refl _ _⟩
      case round =>
        obtain ⟨k, rfl, hkn, rfl, hb⟩ := hrel
        have c0' := (hb.cell (p := ⟨w.heap.size, 0, none⟩) hz0).trans c0
        by_cases hlt : k < n
        · obtain ⟨f, hf⟩ : ∃ f, ks[k]? = some f := ⟨ks[k]'(by rw [HN.out]; exact hlt), List.getElem?_eq_getElem _⟩
          have i1 : (k : Int) < (n : Int) := by omega
          obtain ⟨b, o, rfl, hbl, hr⟩ := HK.out.1.r (by rintro rfl; simp at hf)
          obtain ⟨A', cap', d0, d1, d2, hN⟩ := row_get' hr hf
          have d0' := (hb.cell (p := ⟨b, o + k * 3, none⟩) hbl).trans d0
          have d1' := (hb.cell (p := ⟨b, o + k * 3 + 1, none⟩) hbl).trans d1
          have d2' := (hb.cell (p := ⟨b, o + k * 3 + 2, none⟩) hbl).trans d2
          have hs := lgsum_take hf
          have hl := HKD.out k f hf
          have hq1 := (fun a b => (lgsum_le a b).1) ks (k + 1)
          have hq2 := lgL_le ks
          rw [hs] at hq1
          obtain ⟨wr', hwr'⟩ : ∃ W, wr.alloc (.cells #[.int .i64 f.k, .int .i64 f.c, .slice A' f.ks.length cap'] 33) = W := ⟨_, rfl⟩
          have hb' : Below W0.heap.size W0 wr' := by rw [← hwr']; exact hb.alloc hb.size _
          have hz1 : w.heap.size < wr.heap.size := by have := hb.size; omega
          have hC := HI.out f (by omega) (by have := HSZ.out; omega) _ wr' ((hN.below hb').mono hb'.size)
          generalize lgE.sum (ks.take k) = s at *
          obtain ⟨t, ht⟩ : ∃ t, lgE f = t := ⟨_, rfl⟩
          rw [ht] at hC hs hq1
          have hw : wrap64 ((s : Int) + (t : Int)) = (s : Int) + (t : Int) := wrap_small (by have := HSZ.out; omega)
          have hC := Lib.hid hC
          have HH := Lib.hid (And.intro hs (And.intro hb' hlt))
          have HWR := Lib.hid hwr'
          clear hs hl hq1 hq2 hb' hwr' hN hr hbl hb ht d0 d1 d2
          go_wp2_with fail
          rw [HWR.out]
          refine hC.out.mono ?_
          rintro r w2 ⟨rfl, hb2⟩
          have hbz := HH.out.2.1.trans (hb2.mono HH.out.2.1.size)
          have hend : ((s + t : Nat) : Int) = ((lgE.sum (ks.take (k + 1)) : Nat) : Int) := by rw [HH.out.1]
          have HEND := Lib.hid (And.intro hend hbz)
          clear hb2 hbz hend
          go_wp2
          go_roundw
          case rel => exact ⟨k + 1, by go_num, by omega, (by rw [← HEND.out.1, hw]; go_num), HEND.out.2⟩
          case measure => simp [RowKit.intOf]; omega
        · have hkn : k = n := by omega
          subst hkn
          have i1 : ¬ (k : Int) < (k : Int) := by omega
          have ht : ks.take k = ks := by rw [← HN.out, List.take_length]
          rw [ht, HR.out]
          have HY := Lib.hid (HK.out.2.trans (hb.mono HK.out.2.size))
          clear hb ht
          go_wp2
          go_ret
          exact ⟨rfl, HY.out⟩
    have q4 : (kk == 4) = false := by simpa using k4
    by_cases k5 : kk = 5
    · subst k5
      have HR := Lib.hid (show lgE.most ks = R by rw [hL]; rfl)
      clear hL k9 k4
      go_enter Try.func42, Try.ntmps42
      go_wp2_with fail
      rw [HW.out]
      go_loopw [3, 5, 17] (fun s _ i wr => ∃ k : Nat, i = .int .i64 k ∧ k ≤ n ∧ s = .int .i64 ((lgE.most (ks.take k) : Nat) : Int) ∧ Below W0.heap.size W0 wr) (fun _ _ i _ => n - (RowKit.intOf i).toNat)
      case atStart => exact ⟨0, rfl, Nat.zero_le _, by rw [List.take_zero]; rfl, Below.refl _ _⟩
      case round =>
        obtain ⟨k, rfl, hkn, rfl, hb⟩ := hrel
        have c0' := (hb.cell (p := ⟨w.heap.size, 0, none⟩) hz0).trans c0
        by_cases hlt : k < n
        · obtain ⟨f, hf⟩ : ∃ f, ks[k]? = some f := ⟨ks[k]'(by rw [HN.out]; exact hlt), List.getElem?_eq_getElem _⟩
          have i1 : (k : Int) < (n : Int) := by omega
          obtain ⟨b, o, rfl, hbl, hr⟩ := HK.out.1.r (by rintro rfl; simp at hf)
          obtain ⟨A', cap', d0, d1, d2, hN⟩ := row_get' hr hf
          have d0' := (hb.cell (p := ⟨b, o + k * 3, none⟩) hbl).trans d0
          have d1' := (hb.cell (p := ⟨b, o + k * 3 + 1, none⟩) hbl).trans d1
          have d2' := (hb.cell (p := ⟨b, o + k * 3 + 2, none⟩) hbl).trans d2
          have hs := lgmost_take hf
          have hl := HKD.out k f hf
          have hq1 := (fun a b => (lgsum_le a b).2) ks (k + 1)
          have hq2 := lgL_le ks
          rw [hs] at hq1
          obtain ⟨wr', hwr'⟩ : ∃ W, wr.alloc (.cells #[.int .i64 f.k, .int .i64 f.c, .slice A' f.ks.length cap'] 33) = W := ⟨_, rfl⟩
          have hb' : Below W0.heap.size W0 wr' := by rw [← hwr']; exact hb.alloc hb.size _
          have hz1 : w.heap.size < wr.heap.size := by have := hb.size; omega
          have hC := HI.out f (by omega) (by have := HSZ.out; omega) _ wr' ((hN.below hb').mono hb'.size)
          generalize lgE.most (ks.take k) = s at *
          obtain ⟨t, ht⟩ : ∃ t, lgE f = t := ⟨_, rfl⟩
          rw [ht] at hC hs hq1
          have hw : wrap64 ((s : Int) + (t : Int)) = (s : Int) + (t : Int) := wrap_small (by have := HSZ.out; omega)
          have hC := Lib.hid hC
          have HH := Lib.hid (And.intro hs (And.intro hb' hlt))
          have HWR := Lib.hid hwr'
          clear hs hl hq1 hq2 hb' hwr' hN hr hbl hb ht d0 d1 d2
          go_wp2_with fail
          rw [HWR.out]
          refine hC.out.mono ?_
          rintro r w2 ⟨rfl, hb2⟩
          have hbz := HH.out.2.1.trans (hb2.mono HH.out.2.1.size)
          have hend : ((max s t : Nat) : Int) = ((lgE.most (ks.take (k + 1)) : Nat) : Int) := by rw [HH.out.1]
          have HEND := Lib.hid (And.intro hend hbz)
          clear hb2 hbz hend
          go_wp2
          go_roundw
          case rel => exact ⟨k + 1, by go_num, by omega, (by rw [← HEND.out.1]; go_num), HEND.out.2⟩
          case measure => simp [RowKit.intOf]; omega
        · have hkn : k = n := by omega
          subst hkn
          have i1 : ¬ (k : Int) < (k : Int) := by omega
          have ht : ks.take k = ks := by rw [← HN.out, List.take_length]
          rw [ht, HR.out]
          have HY := Lib.hid (HK.out.2.trans (hb.mono HK.out.2.size))
          clear hb ht
          go_wp2
          go_ret
          exact ⟨rfl, HY.out⟩
    have q5 : (kk == 5) = false := by simpa using k5
    by_cases k8 : kk = 8
    · subst k8
      have HR := Lib.hid (show lgE.most ks = R by rw [hL]; rfl)
      clear hL k9 k4 k5
      go_enter Try.func42, Try.ntmps42
      go_wp2_with fail
      rw [HW.out]
      go_loopw [3, 5, 17] (fun s _ i wr => ∃ k : Nat, i = .int .i64 k ∧ k ≤ n ∧ s = .int .i64 ((lgE.most (ks.take k) : Nat) : Int) ∧ Below W0.heap.size W0 wr) (fun _ _ i _ => n - (RowKit.intOf i).toNat)
      case atStart => exact ⟨0, rfl, Nat.zero_le _, by rw [List.take_zero]; rfl, Below.refl _ _⟩
      case round =>
        obtain ⟨k, rfl, hkn, rfl, hb⟩ := hrel
        have c0' := (hb.cell (p := ⟨w.heap.size, 0, none⟩) hz0).trans c0
        by_cases hlt : k < n
        · obtain ⟨f, hf⟩ : ∃ f, ks[k]? = some f := ⟨ks[k]'(by rw [HN.out]; exact hlt), List.getElem?_eq_getElem _⟩
          have i1 : (k : Int) < (n : Int) := by omega
          obtain ⟨b, o, rfl, hbl, hr⟩ := HK.out.1.r (by rintro rfl; simp at hf)
          obtain ⟨A', cap', d0, d1, d2, hN⟩ := row_get' hr hf
          have d0' := (hb.cell (p := ⟨b, o + k * 3, none⟩) hbl).trans d0
          have d1' := (hb.cell (p := ⟨b, o + k * 3 + 1, none⟩) hbl).trans d1
          have d2' := (hb.cell (p := ⟨b, o + k * 3 + 2, none⟩) hbl).trans d2
          have hs := lgmost_take hf
          have hl := HKD.out k f hf
          have hq1 := (fun a b => (lgsum_le a b).2) ks (k + 1)
          have hq2 := lgL_le ks
          rw [hs] at hq1
          obtain ⟨wr', hwr'⟩ : ∃ W, wr.alloc (.cells #[.int .i64 f.k, .int .i64 f.c, .slice A' f.ks.length cap'] 33) = W := ⟨_, rfl⟩
          have hb' : Below W0.heap.size W0 wr' := by rw [← hwr']; exact hb.alloc hb.size _
          have hz1 : w.heap.size < wr.heap.size := by have := hb.size; omega
          have hC := HI.out f (by omega) (by have := HSZ.out; omega) _ wr' ((hN.below hb').mono hb'.size)
          generalize lgE.most (ks.take k) = s at *
          obtain ⟨t, ht⟩ : ∃ t, lgE f = t := ⟨_, rfl⟩
          rw [ht] at hC hs hq1
          have hw : wrap64 ((s : Int) + (t : Int)) = (s : Int) + (t : Int) := wrap_small (by have := HSZ.out; omega)
          have hC := Lib.hid hC
          have HH := Lib.hid (And.intro hs (And.intro hb' hlt))
          have HWR := Lib.hid hwr'
          clear hs hl hq1 hq2 hb' hwr' hN hr hbl hb ht d0 d1 d2
          go_wp2_with fail
          rw [HWR.out]
          refine hC.out.mono ?_
          rintro r w2 ⟨rfl, hb2⟩
          have hbz := HH.out.2.1.trans (hb2.mono HH.out.2.1.size)
          have hend : ((max s t : Nat) : Int) = ((lgE.most (ks.take (k + 1)) : Nat) : Int) := by rw [HH.out.1]
          have HEND := Lib.hid (And.intro hend hbz)
          clear hb2 hbz hend
          go_wp2
          go_roundw
          case rel => exact ⟨k + 1, by go_num, by omega, (by rw [← HEND.out.1]; go_num), HEND.out.2⟩
          case measure => simp [RowKit.intOf]; omega
        · have hkn : k = n := by omega
          subst hkn
          have i1 : ¬ (k : Int) < (k : Int) := by omega
          have ht : ks.take k = ks := by rw [← HN.out, List.take_length]
          rw [ht, HR.out]
          have HY := Lib.hid (HK.out.2.trans (hb.mono HK.out.2.size))
          clear hb ht
          go_wp2
          go_ret
          exact ⟨rfl, HY.out⟩
    have q8 : (kk == 8) = false := by simpa using k8
    obtain rfl : R = 1 := by rw [hL, if_neg k9, if_neg k4, if_neg (fun h => h.elim k5 k8)]
    clear hL k9 k4 k5 k8
    go_enter Try.func42, Try.ntmps42
    go_wp2
    rw [HW.out]
    go_ret
    exact ⟨rfl, HK.out.2⟩
end Go.Proofs.Ytegkogadceodlaa

namespace Go.Proofs.Ytegkogadceodlaa
open Go.RowKit Go.Shelf Go.Lib

theorem shsum_append (a b : List E) : shE.sum (a ++ b) = shE.sum a + shE.sum b := by
  induction a with
  | nil => show shE.sum b = 0 + _; omega
  | cons f r ih => show shE f + shE.sum (r ++ b) = shE f + shE.sum r + _; omega
theorem shleast_snoc (a : List E) (e : E) (h : a ≠ []) : shE.least (a ++ [e]) = min (shE.least a) (shE e) := by
  induction a with
  | nil => exact absurd rfl h
  | cons f r ih =>
    cases r with
    | nil => rfl
    | cons g r =>
      have := ih (by simp)
      show min (shE f) (shE.least ((g :: r) ++ [e])) = min (min (shE f) (shE.least (g :: r))) (shE e)
      rw [this]
      omega
theorem shsum_take {ks : List E} {i : Nat} {e : E} (h : ks[i]? = some e) : shE.sum (ks.take (i + 1)) = shE.sum (ks.take i) + shE e := by
  rw [List.take_add_one, h, shsum_append]
  show _ + (shE e + 0) = _
  omega
theorem shleast_take {ks : List E} {i : Nat} {e : E} (h : ks[i + 1]? = some e) : shE.least (ks.take (i + 2)) = min (shE.least (ks.take (i + 1))) (shE e) := by
  rw [List.take_add_one, h]
  refine shleast_snoc _ e ?_
  intro e0
  have h1 := congrArg List.length e0
  rw [List.length_take, List.length_nil] at h1
  have := (List.getElem?_eq_some_iff.1 h).1
  omega
theorem sh_le : ∀ N e, szE e ≤ N → shE e ≤ szE e := by
  intro N
  induction N with
  | zero => intro e h; have := szE_pos e; omega
  | succ N ih =>
    intro e he
    have hs : ∀ ks : List E, (∀ f ∈ ks, szE f ≤ N) → shE.sum ks ≤ szL ks ∧ shE.least ks ≤ szL ks := by
      intro ks
      induction ks with
      | nil => intro _; exact ⟨Nat.le_refl _, Nat.le_refl _⟩
      | cons f r ihr =>
        intro hf
        have h1 := ih f (hf f List.mem_cons_self)
        have h2 := ihr fun x hx => hf x (List.mem_cons_of_mem _ hx)
        have e1 : shE.sum (f :: r) = shE f + shE.sum r := rfl
        have e2 : shE.least (f :: r) ≤ shE f := by
          cases r with
          | nil => exact Nat.le_refl _
          | cons g r => exact Nat.min_le_left _ _
        rw [szL_cons, e1]
        omega
    have h := hs e.ks fun f hf => by have := szE_kid hf; omega
    rw [shE_eq, szE_eq]
    split
    · omega
    · split
      · omega
      · split <;> omega
theorem shsum_le (ks : List E) (i : Nat) : shE.sum (ks.take i) ≤ shE.sum ks := by
  have h1 := shsum_append (ks.take i) (ks.drop i)
  rw [List.take_append_drop] at h1
  omega
theorem shL_le (ks : List E) : shE.sum ks ≤ szL ks := by
  induction ks with
  | nil => exact Nat.le_refl _
  | cons f r ih =>
    have h1 := sh_le _ f (Nat.le_refl _)
    have e1 : shE.sum (f :: r) = shE f + shE.sum r := rfl
    rw [szL_cons, e1]
    omega
theorem shfirst {ks : List E} {f : E} (h : ks[0]? = some f) : shE.sum (ks.take 1) = shE f ∧ shE.least (ks.take 1) = shE f := by
  cases ks with
  | nil => simp at h
  | cons a r =>
    obtain rfl : a = f := by simpa using h
    exact ⟨by show shE a + 0 = _; omega, rfl⟩
/-- A right node of one of these kinds has a part. -/
theorem good_kid {e : E} (h : goodE e = true) (hk : e.k = 4 ∨ e.k = 5 ∨ e.k = 7) : 1 ≤ e.ks.length := by
  rw [goodE_eq] at h
  simp only [Bool.and_eq_true] at h
  have h2 := h.1.2
  unfold shapedK at h2
  rcases hk with hk | hk | hk <;> rw [hk] at h2 <;> simp at h2 <;> omega
theorem good_kids {e : E} (h : goodE e = true) : ∀ f ∈ e.ks, goodE f = true := by
  rw [goodE_eq] at h
  simp only [Bool.and_eq_true] at h
  exact good_all h.2
end Go.Proofs.Ytegkogadceodlaa

namespace Go.Proofs.Ytegkogadceodlaa
open Go.RowKit Go.Shelf Go.Lib

set_option maxHeartbeats 8000000 in
theorem shortest_any : ∀ N e, szE e ≤ N → szE e ≤ 100000 → (goodE e = true ∨ e.k = 9) → ∀ v w, Nd w w.heap.size e v →
    Calls Try.prog 43 #[v] w fun r w' => r = .returned (.int .i64 ((shE e : Nat) : Int)) ∧ Below w.heap.size w w' := by
  intro N
  induction N with
  | zero => intro e h; have := szE_pos e; omega
  | succ N ih =>
    intro e he hsz hgd v w h
    obtain ⟨_, _, A, cap, rfl, hk⟩ := Nd_iff.1 h
    obtain ⟨W0, hW0⟩ : ∃ W0, w.alloc (.cells #[.int .i64 e.k, .int .i64 e.c, .slice A e.ks.length cap] 33) = W0 := ⟨_, rfl⟩
    have hb0 : Below w.heap.size w W0 := by rw [← hW0]; exact below_new _ _
    have hz0 : w.heap.size < W0.heap.size := by rw [← hW0]; simp
    have c0 : W0.cell? ⟨w.heap.size, 0, none⟩ = some (.int .i64 e.k) := by rw [← hW0]; simp
    have c2 : W0.cell? ⟨w.heap.size, 2, none⟩ = some (.slice A e.ks.length cap) := by rw [← hW0]; simp
    have hk0 := hk.on hb0
    have hS := szE_eq e
    have hL := shE_eq e
    have hkid := fun i f (hf : e.ks[i]? = some f) => szE_kid (List.mem_of_getElem? hf)
    have hln : e.ks.length ≤ 9223372036854775807 := by have := hk.l; have := hk.m; unfold maxLen at this; omega
    have hcl := hk.l
    have hgk : e.k = 4 ∨ e.k = 5 ∨ e.k = 7 → 1 ≤ e.ks.length := fun hk => good_kid (hgd.elim id fun h9 => by omega) hk
    have hgs : ∀ f ∈ e.ks, (e.k ≠ 9) → (goodE f = true ∨ f.k = 9) := fun f hf h9 => .inl (good_kids (hgd.elim id fun h => absurd h h9) f hf)
    have ih' : ∀ f, szE f < szE e → szE f ≤ 100000 → (goodE f = true ∨ f.k = 9) → ∀ v w, Nd w w.heap.size f v → Calls Try.prog 43 #[v] w fun r w' => r = .returned (.int .i64 ((shE f : Nat) : Int)) ∧ Below w.heap.size w w' := fun f hf => ih f (by omega)
    obtain ⟨R, hR⟩ : ∃ R, shE e = R := ⟨_, rfl⟩
    rw [hR] at hL ⊢
    generalize e.k = kk at *
    generalize e.c = cc at *
    generalize e.ks = ks at *
    generalize szE e = S at *
    obtain ⟨n, hn⟩ : ∃ n, ks.length = n := ⟨_, rfl⟩
    rw [hn] at hW0 hln c2 hcl hgk ⊢
    have HW := Lib.hid hW0
    have HK := Lib.hid (And.intro hk0 hb0)
    have HKW := Lib.hid hk
    have HI := Lib.hid ih'
    have HKD := Lib.hid hkid
    have HN := Lib.hid hn
    have HSZ := Lib.hid (And.intro hS hsz)
    have HGK := Lib.hid (And.intro hgk hgs)
    clear hW0 hk hk0 hb0 ih ih' hkid hn h hS hsz he hR hgk hgs hgd
    by_cases k6 : kk = 6
    · subst k6
      obtain rfl : R = 0 := by rw [hL]; rfl
      clear hL
      go_enter Try.func43, Try.ntmps43
      go_wp2
      rw [HW.out]
      go_ret
      exact ⟨rfl, HK.out.2⟩
    have q6 : (kk == 6) = false := by simpa using k6
    by_cases k8 : kk = 8
    · subst k8
      obtain rfl : R = 0 := by rw [hL]; rfl
      clear hL k6
      go_enter Try.func43, Try.ntmps43
      go_wp2
      rw [HW.out]
      go_ret
      exact ⟨rfl, HK.out.2⟩
    have q8 : (kk == 8) = false := by simpa using k8
    by_cases k9 : kk = 9
    · subst k9
      obtain rfl : R = 0 := by rw [hL]; rfl
      clear hL k6 k8
      go_enter Try.func43, Try.ntmps43
      go_wp2
      rw [HW.out]
      go_ret
      exact ⟨rfl, HK.out.2⟩
    have q9 : (kk == 9) = false := by simpa using k9
    by_cases k4 : kk = 4
    · subst k4
      have HR := Lib.hid (show shE.sum ks = R by rw [hL]; rfl)
      have hn1 := HGK.out.1 (by simp)
      have HG := Lib.hid (fun f hf => HGK.out.2 f hf (by simp))
      obtain ⟨n, rfl⟩ : ∃ m, n = m + 1 := ⟨n - 1, by omega⟩
      obtain ⟨cap, rfl⟩ : ∃ m, cap = m + 1 := ⟨cap - 1, by omega⟩
      clear hL k6 k8 k9
      go_enter Try.func43, Try.ntmps43
      obtain ⟨f0, hf0⟩ : ∃ f, ks[0]? = some f := ⟨ks[0]'(by rw [HN.out]; omega), List.getElem?_eq_getElem _⟩
      obtain ⟨b, o, rfl, hblw, hrw⟩ := HKW.out.r (by rintro rfl; simp at hf0)
      obtain ⟨b', o', e', hbl, hr⟩ := HK.out.1.r (by rintro rfl; simp at hf0)
      injection e' with e'
      injection e' with e1 e2
      subst e1
      subst e2
      have HROW := Lib.hid (And.intro hbl hr)
      obtain ⟨A0, cap0, x0, x1, x2, hNw⟩ := row_get' hrw hf0
      rw [Nat.zero_mul, Nat.add_zero] at x0 x1 x2
      have hN0 := hNw.on HK.out.2
      have hC0 := Lib.hid (HI.out f0 (HKD.out 0 f0 hf0) (by have := HKD.out 0 f0 hf0; have := HSZ.out; omega) (HG.out f0 (List.mem_of_getElem? hf0)) _ W0 hN0)
      have hfst := shfirst hf0
      have HF := Lib.hid hfst
      clear hN0 hNw hr hrw hfst
      go_wp2_with fail
      rw [HW.out]
      refine hC0.out.mono ?_
      rintro r w1 ⟨rfl, hb1⟩
      have c0' := (hb1.cell (p := ⟨w.heap.size, 0, none⟩) hz0).trans c0
      have c2' := (hb1.cell (p := ⟨w.heap.size, 2, none⟩) hz0).trans c2
      have HB1 := Lib.hid hb1
      clear hb1
      by_cases hcap : cap = 0
      · subst hcap
        obtain rfl : n = 0 := by omega
        have ht : ks.take 1 = ks := List.take_of_length_le (by rw [HN.out]; omega)
        have hfr : shE f0 = R := by rw [← HF.out.1, ht, HR.out]
        rw [hfr]
        have HY := Lib.hid (HK.out.2.trans (HB1.out.mono HK.out.2.size))
        go_wp2_with fail
        go_loopw [3, 5, 25] (fun s _ i wr => i = .int .i64 0 ∧ s = .int .i64 (R : Int) ∧ wr = w1) (fun _ _ _ _ => 0)
        case atStart => exact ⟨rfl, rfl, rfl⟩
        case round =>
          obtain ⟨rfl, rfl, rfl⟩ := hrel
          go_wp2
          go_ret
          exact ⟨rfl, HY.out⟩
      go_wp2_with fail
      go_loopw [3, 5, 25] (fun s _ i wr => ∃ k : Nat, i = .int .i64 k ∧ k ≤ n ∧ s = .int .i64 ((shE.sum (ks.take (k + 1)) : Nat) : Int) ∧ Below W0.heap.size W0 wr) (fun _ _ i _ => n - (RowKit.intOf i).toNat)
      case atStart => exact ⟨0, rfl, Nat.zero_le _, by rw [HF.out.1], HB1.out⟩
      case round =>
        obtain ⟨k, rfl, hkn, rfl, hb⟩ := hrel
        have c0'' := (hb.cell (p := ⟨w.heap.size, 0, none⟩) hz0).trans c0
        by_cases hlt : k < n
        · obtain ⟨f, hf⟩ : ∃ f, ks[k + 1]? = some f := ⟨ks[k + 1]'(by rw [HN.out]; omega), List.getElem?_eq_getElem _⟩
          have i1 : (k : Int) < (n : Int) := by omega
          obtain ⟨A', cap', d0, d1, d2, hN⟩ := row_get' HROW.out.2 hf
          rw [show o + (k + 1) * 3 = o + 3 + k * 3 by omega] at d0 d1 d2
          have d0' := (hb.cell (p := ⟨b, o + 3 + k * 3, none⟩) hbl).trans d0
          have d1' := (hb.cell (p := ⟨b, o + 3 + k * 3 + 1, none⟩) hbl).trans d1
          have d2' := (hb.cell (p := ⟨b, o + 3 + k * 3 + 2, none⟩) hbl).trans d2
          have hs := shsum_take hf
          have hl := HKD.out (k + 1) f hf
          have hq1 := shsum_le ks (k + 1 + 1)
          have hq2 := shL_le ks
          rw [hs] at hq1
          obtain ⟨wr', hwr'⟩ : ∃ W, wr.alloc (.cells #[.int .i64 f.k, .int .i64 f.c, .slice A' f.ks.length cap'] 33) = W := ⟨_, rfl⟩
          have hb' : Below W0.heap.size W0 wr' := by rw [← hwr']; exact hb.alloc hb.size _
          have hz1 : w.heap.size < wr.heap.size := by have := hb.size; omega
          have hC := HI.out f hl (by have := HSZ.out; omega) (HG.out f (List.mem_of_getElem? hf)) _ wr' ((hN.below hb').mono hb'.size)
          generalize shE.sum (ks.take (k + 1)) = s at *
          obtain ⟨t, ht⟩ : ∃ t, shE f = t := ⟨_, rfl⟩
          rw [ht] at hC hs hq1
          have hw : wrap64 ((s : Int) + (t : Int)) = (s : Int) + (t : Int) := wrap_small (by have := HSZ.out; omega)
          have hC := Lib.hid hC
          have HH := Lib.hid (And.intro hs (And.intro hb' hlt))
          have HWR := Lib.hid hwr'
          clear hs hl hq1 hq2 hb' hwr' hN hb ht d0 d1 d2
          go_wp2_with fail
          rw [HWR.out]
          refine hC.out.mono ?_
          rintro r w2 ⟨rfl, hb2⟩
          have hbz := HH.out.2.1.trans (hb2.mono HH.out.2.1.size)
          have hend : ((s + t : Nat) : Int) = ((shE.sum (ks.take (k + 1 + 1)) : Nat) : Int) := by rw [HH.out.1]
          have HEND := Lib.hid (And.intro hend hbz)
          clear hb2 hbz hend
          go_wp2
          go_roundw
          case rel => exact ⟨k + 1, by go_num, by omega, (by rw [← HEND.out.1, hw]; go_num), HEND.out.2⟩
          case measure => simp [RowKit.intOf]; omega
        · have hkn : k = n := by omega
          subst hkn
          have i1 : ¬ (k : Int) < (k : Int) := by omega
          have ht : ks.take (k + 1) = ks := by rw [← HN.out, List.take_length]
          rw [ht, HR.out]
          have HY := Lib.hid (HK.out.2.trans (hb.mono HK.out.2.size))
          clear hb ht
          go_wp2
          go_ret
          exact ⟨rfl, HY.out⟩
    have q4 : (kk == 4) = false := by simpa using k4
    by_cases k5 : kk = 5
    · subst k5
      have HR := Lib.hid (show shE.least ks = R by rw [hL]; rfl)
      have hn1 := HGK.out.1 (by simp)
      have HG := Lib.hid (fun f hf => HGK.out.2 f hf (by simp))
      obtain ⟨n, rfl⟩ : ∃ m, n = m + 1 := ⟨n - 1, by omega⟩
      obtain ⟨cap, rfl⟩ : ∃ m, cap = m + 1 := ⟨cap - 1, by omega⟩
      clear hL k6 k8 k9 k4
      go_enter Try.func43, Try.ntmps43
      obtain ⟨f0, hf0⟩ : ∃ f, ks[0]? = some f := ⟨ks[0]'(by rw [HN.out]; omega), List.getElem?_eq_getElem _⟩
      obtain ⟨b, o, rfl, hblw, hrw⟩ := HKW.out.r (by rintro rfl; simp at hf0)
      obtain ⟨b', o', e', hbl, hr⟩ := HK.out.1.r (by rintro rfl; simp at hf0)
      injection e' with e'
      injection e' with e1 e2
      subst e1
      subst e2
      have HROW := Lib.hid (And.intro hbl hr)
      obtain ⟨A0, cap0, x0, x1, x2, hNw⟩ := row_get' hrw hf0
      rw [Nat.zero_mul, Nat.add_zero] at x0 x1 x2
      have hN0 := hNw.on HK.out.2
      have hC0 := Lib.hid (HI.out f0 (HKD.out 0 f0 hf0) (by have := HKD.out 0 f0 hf0; have := HSZ.out; omega) (HG.out f0 (List.mem_of_getElem? hf0)) _ W0 hN0)
      have hfst := shfirst hf0
      have HF := Lib.hid hfst
      clear hN0 hNw hr hrw hfst
      go_wp2_with fail
      rw [HW.out]
      refine hC0.out.mono ?_
      rintro r w1 ⟨rfl, hb1⟩
      have c0' := (hb1.cell (p := ⟨w.heap.size, 0, none⟩) hz0).trans c0
      have c2' := (hb1.cell (p := ⟨w.heap.size, 2, none⟩) hz0).trans c2
      have HB1 := Lib.hid hb1
      clear hb1
      by_cases hcap : cap = 0
      · subst hcap
        obtain rfl : n = 0 := by omega
        have ht : ks.take 1 = ks := List.take_of_length_le (by rw [HN.out]; omega)
        have hfr : shE f0 = R := by rw [← HF.out.2, ht, HR.out]
        rw [hfr]
        have HY := Lib.hid (HK.out.2.trans (HB1.out.mono HK.out.2.size))
        go_wp2_with fail
        go_loopw [3, 5, 25] (fun s _ i wr => i = .int .i64 0 ∧ s = .int .i64 (R : Int) ∧ wr = w1) (fun _ _ _ _ => 0)
        case atStart => exact ⟨rfl, rfl, rfl⟩
        case round =>
          obtain ⟨rfl, rfl, rfl⟩ := hrel
          go_wp2
          go_ret
          exact ⟨rfl, HY.out⟩
      go_wp2_with fail
      go_loopw [3, 5, 25] (fun s _ i wr => ∃ k : Nat, i = .int .i64 k ∧ k ≤ n ∧ s = .int .i64 ((shE.least (ks.take (k + 1)) : Nat) : Int) ∧ Below W0.heap.size W0 wr) (fun _ _ i _ => n - (RowKit.intOf i).toNat)
      case atStart => exact ⟨0, rfl, Nat.zero_le _, by rw [HF.out.2], HB1.out⟩
      case round =>
        obtain ⟨k, rfl, hkn, rfl, hb⟩ := hrel
        have c0'' := (hb.cell (p := ⟨w.heap.size, 0, none⟩) hz0).trans c0
        by_cases hlt : k < n
        · obtain ⟨f, hf⟩ : ∃ f, ks[k + 1]? = some f := ⟨ks[k + 1]'(by rw [HN.out]; omega), List.getElem?_eq_getElem _⟩
          have i1 : (k : Int) < (n : Int) := by omega
          obtain ⟨A', cap', d0, d1, d2, hN⟩ := row_get' HROW.out.2 hf
          rw [show o + (k + 1) * 3 = o + 3 + k * 3 by omega] at d0 d1 d2
          have d0' := (hb.cell (p := ⟨b, o + 3 + k * 3, none⟩) hbl).trans d0
          have d1' := (hb.cell (p := ⟨b, o + 3 + k * 3 + 1, none⟩) hbl).trans d1
          have d2' := (hb.cell (p := ⟨b, o + 3 + k * 3 + 2, none⟩) hbl).trans d2
          have hs := shleast_take hf
          have hl := HKD.out (k + 1) f hf
          obtain ⟨wr', hwr'⟩ : ∃ W, wr.alloc (.cells #[.int .i64 f.k, .int .i64 f.c, .slice A' f.ks.length cap'] 33) = W := ⟨_, rfl⟩
          have hb' : Below W0.heap.size W0 wr' := by rw [← hwr']; exact hb.alloc hb.size _
          have hz1 : w.heap.size < wr.heap.size := by have := hb.size; omega
          have hC := HI.out f hl (by have := HSZ.out; omega) (HG.out f (List.mem_of_getElem? hf)) _ wr' ((hN.below hb').mono hb'.size)
          generalize shE.least (ks.take (k + 1)) = s at *
          obtain ⟨t, ht⟩ : ∃ t, shE f = t := ⟨_, rfl⟩
          rw [ht] at hC hs
          have hC := Lib.hid hC
          have HH := Lib.hid (And.intro hs (And.intro hb' hlt))
          have HWR := Lib.hid hwr'
          clear hs hl hb' hwr' hN hb ht d0 d1 d2
          go_wp2_with fail
          rw [HWR.out]
          refine hC.out.mono ?_
          rintro r w2 ⟨rfl, hb2⟩
          have hbz := HH.out.2.1.trans (hb2.mono HH.out.2.1.size)
          have hend : ((min s t : Nat) : Int) = ((shE.least (ks.take (k + 1 + 1)) : Nat) : Int) := by rw [HH.out.1]
          have HEND := Lib.hid (And.intro hend hbz)
          clear hb2 hbz hend
          go_wp2
          go_roundw
          case rel => exact ⟨k + 1, by go_num, by omega, (by rw [← HEND.out.1]; go_num), HEND.out.2⟩
          case measure => simp [RowKit.intOf]; omega
        · have hkn : k = n := by omega
          subst hkn
          have i1 : ¬ (k : Int) < (k : Int) := by omega
          have ht : ks.take (k + 1) = ks := by rw [← HN.out, List.take_length]
          rw [ht, HR.out]
          have HY := Lib.hid (HK.out.2.trans (hb.mono HK.out.2.size))
          clear hb ht
          go_wp2
          go_ret
          exact ⟨rfl, HY.out⟩
    have q5 : (kk == 5) = false := by simpa using k5
    by_cases k7 : kk = 7
    · subst k7
      have HR := Lib.hid (show shE.least ks = R by rw [hL]; rfl)
      have hn1 := HGK.out.1 (by simp)
      have HG := Lib.hid (fun f hf => HGK.out.2 f hf (by simp))
      obtain ⟨n, rfl⟩ : ∃ m, n = m + 1 := ⟨n - 1, by omega⟩
      obtain ⟨cap, rfl⟩ : ∃ m, cap = m + 1 := ⟨cap - 1, by omega⟩
      clear hL k6 k8 k9 k4 k5
      go_enter Try.func43, Try.ntmps43
      obtain ⟨f0, hf0⟩ : ∃ f, ks[0]? = some f := ⟨ks[0]'(by rw [HN.out]; omega), List.getElem?_eq_getElem _⟩
      obtain ⟨b, o, rfl, hblw, hrw⟩ := HKW.out.r (by rintro rfl; simp at hf0)
      obtain ⟨b', o', e', hbl, hr⟩ := HK.out.1.r (by rintro rfl; simp at hf0)
      injection e' with e'
      injection e' with e1 e2
      subst e1
      subst e2
      have HROW := Lib.hid (And.intro hbl hr)
      obtain ⟨A0, cap0, x0, x1, x2, hNw⟩ := row_get' hrw hf0
      rw [Nat.zero_mul, Nat.add_zero] at x0 x1 x2
      have hN0 := hNw.on HK.out.2
      have hC0 := Lib.hid (HI.out f0 (HKD.out 0 f0 hf0) (by have := HKD.out 0 f0 hf0; have := HSZ.out; omega) (HG.out f0 (List.mem_of_getElem? hf0)) _ W0 hN0)
      have hfst := shfirst hf0
      have HF := Lib.hid hfst
      clear hN0 hNw hr hrw hfst
      go_wp2_with fail
      rw [HW.out]
      refine hC0.out.mono ?_
      rintro r w1 ⟨rfl, hb1⟩
      have c0' := (hb1.cell (p := ⟨w.heap.size, 0, none⟩) hz0).trans c0
      have c2' := (hb1.cell (p := ⟨w.heap.size, 2, none⟩) hz0).trans c2
      have HB1 := Lib.hid hb1
      clear hb1
      by_cases hcap : cap = 0
      · subst hcap
        obtain rfl : n = 0 := by omega
        have ht : ks.take 1 = ks := List.take_of_length_le (by rw [HN.out]; omega)
        have hfr : shE f0 = R := by rw [← HF.out.2, ht, HR.out]
        rw [hfr]
        have HY := Lib.hid (HK.out.2.trans (HB1.out.mono HK.out.2.size))
        go_wp2_with fail
        go_loopw [3, 5, 25] (fun s _ i wr => i = .int .i64 0 ∧ s = .int .i64 (R : Int) ∧ wr = w1) (fun _ _ _ _ => 0)
        case atStart => exact ⟨rfl, rfl, rfl⟩
        case round =>
          obtain ⟨rfl, rfl, rfl⟩ := hrel
          go_wp2
          go_ret
          exact ⟨rfl, HY.out⟩
      go_wp2_with fail
      go_loopw [3, 5, 25] (fun s _ i wr => ∃ k : Nat, i = .int .i64 k ∧ k ≤ n ∧ s = .int .i64 ((shE.least (ks.take (k + 1)) : Nat) : Int) ∧ Below W0.heap.size W0 wr) (fun _ _ i _ => n - (RowKit.intOf i).toNat)
      case atStart => exact ⟨0, rfl, Nat.zero_le _, by rw [HF.out.2], HB1.out⟩
      case round =>
        obtain ⟨k, rfl, hkn, rfl, hb⟩ := hrel
        have c0'' := (hb.cell (p := ⟨w.heap.size, 0, none⟩) hz0).trans c0
        by_cases hlt : k < n
        · obtain ⟨f, hf⟩ : ∃ f, ks[k + 1]? = some f := ⟨ks[k + 1]'(by rw [HN.out]; omega), List.getElem?_eq_getElem _⟩
          have i1 : (k : Int) < (n : Int) := by omega
          obtain ⟨A', cap', d0, d1, d2, hN⟩ := row_get' HROW.out.2 hf
          rw [show o + (k + 1) * 3 = o + 3 + k * 3 by omega] at d0 d1 d2
          have d0' := (hb.cell (p := ⟨b, o + 3 + k * 3, none⟩) hbl).trans d0
          have d1' := (hb.cell (p := ⟨b, o + 3 + k * 3 + 1, none⟩) hbl).trans d1
          have d2' := (hb.cell (p := ⟨b, o + 3 + k * 3 + 2, none⟩) hbl).trans d2
          have hs := shleast_take hf
          have hl := HKD.out (k + 1) f hf
          obtain ⟨wr', hwr'⟩ : ∃ W, wr.alloc (.cells #[.int .i64 f.k, .int .i64 f.c, .slice A' f.ks.length cap'] 33) = W := ⟨_, rfl⟩
          have hb' : Below W0.heap.size W0 wr' := by rw [← hwr']; exact hb.alloc hb.size _
          have hz1 : w.heap.size < wr.heap.size := by have := hb.size; omega
          have hC := HI.out f hl (by have := HSZ.out; omega) (HG.out f (List.mem_of_getElem? hf)) _ wr' ((hN.below hb').mono hb'.size)
          generalize shE.least (ks.take (k + 1)) = s at *
          obtain ⟨t, ht⟩ : ∃ t, shE f = t := ⟨_, rfl⟩
          rw [ht] at hC hs
          have hC := Lib.hid hC
          have HH := Lib.hid (And.intro hs (And.intro hb' hlt))
          have HWR := Lib.hid hwr'
          clear hs hl hb' hwr' hN hb ht d0 d1 d2
          go_wp2_with fail
          rw [HWR.out]
          refine hC.out.mono ?_
          rintro r w2 ⟨rfl, hb2⟩
          have hbz := HH.out.2.1.trans (hb2.mono HH.out.2.1.size)
          have hend : ((min s t : Nat) : Int) = ((shE.least (ks.take (k + 1 + 1)) : Nat) : Int) := by rw [HH.out.1]
          have HEND := Lib.hid (And.intro hend hbz)
          clear hb2 hbz hend
          go_wp2
          go_roundw
          case rel => exact ⟨k + 1, by go_num, by omega, (by rw [← HEND.out.1]; go_num), HEND.out.2⟩
          case measure => simp [RowKit.intOf]; omega
        · have hkn : k = n := by omega
          subst hkn
          have i1 : ¬ (k : Int) < (k : Int) := by omega
          have ht : ks.take (k + 1) = ks := by rw [← HN.out, List.take_length]
          rw [ht, HR.out]
          have HY := Lib.hid (HK.out.2.trans (hb.mono HK.out.2.size))
          clear hb ht
          go_wp2
          go_ret
          exact ⟨rfl, HY.out⟩
    have q7 : (kk == 7) = false := by simpa using k7
    obtain rfl : R = 1 := by rw [hL, if_neg (fun h => h.elim k6 fun h => h.elim k8 k9), if_neg k4, if_neg (fun h => h.elim k5 k7)]
    clear hL k6 k8 k9 k4 k5 k7
    go_enter Try.func43, Try.ntmps43
    go_wp2
    rw [HW.out]
    go_ret
    exact ⟨rfl, HK.out.2⟩
end Go.Proofs.Ytegkogadceodlaa

namespace Go.Proofs.Ytegkogadceodlaa
open Go.RowKit Go.Shelf Go.Lib

/-- A slice of numbers. -/
structure IS (w : World) (B : Nat) (xs : List Int) (A : Option Addr) (cap : Nat) : Prop where
  l : xs.length ≤ cap
  m : cap ≤ maxLen
  i : ∀ x ∈ xs, i64 x
  r : xs ≠ [] → ∃ b o, A = some ⟨b, o, none⟩ ∧ b < B ∧ ∀ i x, xs[i]? = some x → w.cell? ⟨b, o + i, none⟩ = some (.int .i64 x)
theorem IS.below {w w' : World} {B : Nat} {xs : List Int} {A : Option Addr} {cap : Nat} (h : IS w B xs A cap) (hb : Below B w w') : IS w' B xs A cap :=
  ⟨h.l, h.m, h.i, fun hne => by
    obtain ⟨b, o, rfl, hl, hr⟩ := h.r hne
    exact ⟨b, o, rfl, hl, fun i x hx => (hb.cell (p := ⟨b, _, none⟩) hl).trans (hr i x hx)⟩⟩
theorem IS.mono {w : World} {B B' : Nat} {xs : List Int} {A : Option Addr} {cap : Nat} (h : IS w B xs A cap) (hB : B ≤ B') : IS w B' xs A cap :=
  ⟨h.l, h.m, h.i, fun hne => by
    obtain ⟨b, o, rfl, hl, hr⟩ := h.r hne
    exact ⟨b, o, rfl, by omega, hr⟩⟩
theorem IS.on {w w' : World} {xs : List Int} {A : Option Addr} {cap : Nat} (h : IS w w.heap.size xs A cap) (hb : Below w.heap.size w w') : IS w' w'.heap.size xs A cap := (h.below hb).mono hb.size
theorem IS.len {w : World} {B : Nat} {xs : List Int} {A : Option Addr} {cap : Nat} (h : IS w B xs A cap) : xs.length ≤ 9223372036854775807 := by have := h.l; have := h.m; unfold maxLen at this; omega

set_option maxHeartbeats 2000000 in
theorem index_any (xs : List Int) (v : Int) (A : Option Addr) (cap : Nat) (w : World) (h : IS w w.heap.size xs A cap) :
    Calls Try.prog 88 #[.slice A xs.length cap, .int .i64 v] w fun r w' => (∃ i : Int, r = .returned (.int .i64 i) ∧ (0 ≤ i ↔ v ∈ xs)) ∧ w' = w := by
  have hl := h.len
  obtain ⟨n, hn⟩ : ∃ n, xs.length = n := ⟨_, rfl⟩
  rw [hn] at hl ⊢
  have HK := Lib.hid h
  have HN := Lib.hid hn
  clear h hn
  go_enter Try.func88, Try.ntmps88
  go_wp2_with fail
  go_loopw [5, 8] (fun _ i wr => ∃ k : Nat, i = .int .i64 k ∧ k ≤ n ∧ v ∉ xs.take k ∧ wr = w) (fun _ i _ => n - (RowKit.intOf i).toNat)
  case atStart => exact ⟨0, rfl, Nat.zero_le _, by simp, rfl⟩
  case round =>
    obtain ⟨k, rfl, hkn, hno, rfl⟩ := hrel
    by_cases hlt : k < n
    · obtain ⟨x, hx⟩ : ∃ x, xs[k]? = some x := ⟨xs[k]'(by rw [HN.out]; exact hlt), List.getElem?_eq_getElem _⟩
      have i1 : (k : Int) < (n : Int) := by omega
      obtain ⟨b, o, rfl, hbl, hr⟩ := HK.out.r (by rintro rfl; simp at hx)
      have d0 := hr k x hx
      by_cases hv : v = x
      · subst hv
        have hc : v ∈ xs := List.mem_of_getElem? hx
        have HZ := Lib.hid hc
        clear hr hno hc hx
        go_wp2
        go_ret
        exact ⟨⟨_, rfl, ⟨fun _ => HZ.out, fun _ => by omega⟩⟩, rfl⟩
      · have q1 : (v == x) = false := by simpa using hv
        have hno' : v ∉ xs.take (k + 1) := by rw [List.take_add_one, hx]; simp [hno, hv]
        have HZ := Lib.hid hno'
        clear hr hno hno' hx hv
        go_wp2
        go_roundw
        case rel => exact ⟨k + 1, by go_num, by omega, HZ.out, trivial⟩
        case measure => simp [RowKit.intOf]; omega
    · have hkn : k = n := by omega
      subst hkn
      have i1 : ¬ (k : Int) < (k : Int) := by omega
      have ht : xs.take k = xs := by rw [← HN.out, List.take_length]
      rw [ht] at hno
      have hc : v ∉ xs := hno
      have HZ := Lib.hid hc
      clear hno hc ht
      go_wp2
      go_ret
      exact ⟨⟨_, rfl, ⟨fun h => absurd h (by decide), fun h => absurd h HZ.out⟩⟩, rfl⟩
theorem contains_any (xs : List Int) (v : Int) (A : Option Addr) (cap : Nat) (w : World) (h : IS w w.heap.size xs A cap) :
    Calls Try.prog 68 #[.slice A xs.length cap, .int .i64 v] w fun r w' => r = .returned (.bool (xs.contains v)) ∧ w' = w := by
  have C := Lib.hid (index_any xs v A cap w h)
  generalize xs.length = n at *
  have hR : ∀ i : Int, (0 ≤ i ↔ v ∈ xs) → decide (0 ≤ i) = xs.contains v := fun i hi => by rw [Bool.eq_iff_iff]; simpa using hi
  generalize xs.contains v = R at *
  clear h
  go_enter Try.func68, Try.ntmps68
  go_wp2_with fail
  refine C.out.mono ?_
  rintro r w1 ⟨⟨i, rfl, hj⟩, rfl⟩
  have hi := hR i hj
  clear hR hj
  go_wp2
  go_ret
  exact ⟨rfl, rfl⟩

/-- Is no node of one of these kinds? -/
def noneE (kinds : List Int) : E → Bool
  | .mk k _ ks => !kinds.contains k && all kinds ks
where all (kinds : List Int) : List E → Bool
  | [] => true
  | e :: r => noneE kinds e && all kinds r
theorem noneE_eq (kinds : List Int) (e : E) : noneE kinds e = (!kinds.contains e.k && noneE.all kinds e.ks) := by cases e; rfl
theorem none_append (kinds : List Int) (a b : List E) : noneE.all kinds (a ++ b) = (noneE.all kinds a && noneE.all kinds b) := by
  induction a with
  | nil => rfl
  | cons e r ih => show (noneE kinds e && noneE.all kinds (r ++ b)) = (noneE kinds e && noneE.all kinds r && _); rw [ih, Bool.and_assoc]
theorem none_take (kinds : List Int) {ks : List E} {i : Nat} {e : E} (h : ks[i]? = some e) : noneE.all kinds (ks.take (i + 1)) = (noneE.all kinds (ks.take i) && noneE kinds e) := by
  rw [List.take_add_one, h, none_append]
  show (_ && (noneE kinds e && true)) = _
  rw [Bool.and_true]
theorem none_stop (kinds : List Int) {ks : List E} {i : Nat} (h : noneE.all kinds (ks.take i) = false) : noneE.all kinds ks = false := by
  have := none_append kinds (ks.take i) (ks.drop i)
  rw [List.take_append_drop, h] at this
  simpa using this

set_option maxHeartbeats 2000000 in
theorem holds1_any (k c : Int) (A : Option Addr) (n cap : Nat) (p : Nat) (xs : List Int) (A' : Option Addr) (cap' : Nat) (w : World) (hp : Boxed w p 25 (.slice A' xs.length cap')) (h : IS w w.heap.size xs A' cap') :
    Calls Try.prog 67 #[.agg #[.int .i64 k, .int .i64 c, .slice A n cap], .pointer (some ⟨p, 0, none⟩)] w fun r w' => r = .returned (.bool (!xs.contains k)) ∧ Below w.heap.size w w' := by
  obtain ⟨W0, hW0⟩ : ∃ W0, w.alloc (.cells #[.int .i64 k, .int .i64 c, .slice A n cap] 33) = W0 := ⟨_, rfl⟩
  have hb0 : Below w.heap.size w W0 := by rw [← hW0]; exact below_new _ _
  have hpl := hp.lt
  have k0 := hp.cell
  have C := Lib.hid (contains_any xs k A' cap' W0 (h.on hb0))
  have HW := Lib.hid hW0
  generalize xs.length = m at *
  generalize xs.contains k = R at *
  clear h hp hW0
  go_enter Try.func67, Try.ntmps67
  go_wp2_with fail
  rw [HW.out]
  refine C.out.mono ?_
  rintro r w1 ⟨rfl, rfl⟩
  go_wp2
  go_ret
  exact ⟨rfl, hb0⟩

set_option maxHeartbeats 4000000 in
theorem each_holds (xs : List Int) : ∀ N e, szE e ≤ N → ∀ v (p : Nat) A' cap' w, Nd w w.heap.size e v → Boxed w p 25 (.slice A' xs.length cap') → IS w w.heap.size xs A' cap' →
    Calls Try.prog 59 #[v, .func (.func 67) #[] #[.pointer (some ⟨p, 0, none⟩)]] w fun r w' => r = .returned (.bool (noneE xs e)) ∧ Below w.heap.size w w' := by
  intro N
  induction N with
  | zero => intro e h; have := szE_pos e; omega
  | succ N ih =>
    intro e he v p A' cap' w h hp hI
    obtain ⟨_, _, A, cap, rfl, hk⟩ := Nd_iff.1 h
    obtain ⟨W0, hW0⟩ : ∃ W0, w.alloc (.cells #[.int .i64 e.k, .int .i64 e.c, .slice A e.ks.length cap] 33) = W0 := ⟨_, rfl⟩
    have hb0 : Below w.heap.size w W0 := by rw [← hW0]; exact below_new _ _
    have hz0 : w.heap.size < W0.heap.size := by rw [← hW0]; simp
    have c2 : W0.cell? ⟨w.heap.size, 2, none⟩ = some (.slice A e.ks.length cap) := by rw [← hW0]; simp
    have hk0 := hk.on hb0
    have hp0 := boxed_below hp hb0
    have hI0 := hI.on hb0
    have hln : e.ks.length ≤ 9223372036854775807 := by have := hk.l; have := hk.m; unfold maxLen at this; omega
    have C := holds1_any e.k e.c A e.ks.length cap p xs A' cap' W0 hp0 hI0
    have hS := noneE_eq xs e
    have hkid := fun i f (hf : e.ks[i]? = some f) => szE_kid (List.mem_of_getElem? hf)
    have ih' : ∀ f, szE f < szE e → ∀ v p A' cap' w, Nd w w.heap.size f v → Boxed w p 25 (.slice A' xs.length cap') → IS w w.heap.size xs A' cap' →
        Calls Try.prog 59 #[v, .func (.func 67) #[] #[.pointer (some ⟨p, 0, none⟩)]] w fun r w' => r = .returned (.bool (noneE xs f)) ∧ Below w.heap.size w w' := fun f hf => ih f (by omega)
    obtain ⟨R, hR⟩ : ∃ R, noneE xs e = R := ⟨_, rfl⟩
    rw [hR] at hS ⊢
    generalize xs.contains e.k = nb at *
    generalize e.k = kk at *
    generalize e.c = cc at *
    generalize e.ks = ks at *
    obtain ⟨n, hn⟩ : ∃ n, ks.length = n := ⟨_, rfl⟩
    rw [hn] at hW0 C c2 hln ⊢
    have HW := Lib.hid hW0
    have HC := Lib.hid C
    have HK := Lib.hid (And.intro hk0 (And.intro hb0 (And.intro hp0 hI0)))
    have HI := Lib.hid ih'
    have HKD := Lib.hid hkid
    have HN := Lib.hid hn
    clear hW0 hk hk0 hb0 hp0 hI0 ih ih' hkid hn h C hp hI he hR
    cases nb
    · have HS := Lib.hid (show R = noneE.all xs ks by rw [hS]; rfl)
      clear hS
      go_enter Try.func59, Try.ntmps59
      go_wp2_with fail
      rw [HW.out]
      refine HC.out.mono ?_
      rintro r w1 ⟨rfl, hb1⟩
      have c2' := (hb1.cell (p := ⟨w.heap.size, 2, none⟩) hz0).trans c2
      have HB1 := Lib.hid hb1
      clear hb1
      go_wp2_with fail
      go_loopw [6, 14] (fun _ i wr => ∃ k : Nat, i = .int .i64 k ∧ k ≤ n ∧ noneE.all xs (ks.take k) = true ∧ Below W0.heap.size W0 wr) (fun _ i _ => n - (RowKit.intOf i).toNat)
      case atStart => exact ⟨0, rfl, Nat.zero_le _, by rw [List.take_zero]; rfl, HB1.out⟩
      case round =>
        obtain ⟨k, rfl, hkn, hyes, hb⟩ := hrel
        by_cases hlt : k < n
        · obtain ⟨f, hf⟩ : ∃ f, ks[k]? = some f := ⟨ks[k]'(by rw [HN.out]; exact hlt), List.getElem?_eq_getElem _⟩
          have i1 : (k : Int) < (n : Int) := by omega
          obtain ⟨b, o, rfl, hbl, hr⟩ := HK.out.1.r (by rintro rfl; simp at hf)
          obtain ⟨Af, capf, d0, d1, d2, hN⟩ := row_get' hr hf
          have d0' := (hb.cell (p := ⟨b, o + k * 3, none⟩) hbl).trans d0
          have d1' := (hb.cell (p := ⟨b, o + k * 3 + 1, none⟩) hbl).trans d1
          have d2' := (hb.cell (p := ⟨b, o + k * 3 + 2, none⟩) hbl).trans d2
          have hs := none_take xs hf
          rw [hyes, Bool.true_and] at hs
          obtain ⟨wr', hwr'⟩ : ∃ W, wr.alloc (.cells #[.int .i64 f.k, .int .i64 f.c, .slice Af f.ks.length capf] 33) = W := ⟨_, rfl⟩
          have hb' : Below W0.heap.size W0 wr' := by rw [← hwr']; exact hb.alloc hb.size _
          have hC := HI.out f (HKD.out k f hf) (.agg #[.int .i64 f.k, .int .i64 f.c, .slice Af f.ks.length capf]) p A' cap' wr' ((hN.below hb').mono hb'.size) (boxed_below HK.out.2.2.1 hb') (HK.out.2.2.2.on hb')
          obtain ⟨q, hq⟩ : ∃ q, noneE xs f = q := ⟨_, rfl⟩
          rw [hq] at hC hs
          have hC := Lib.hid hC
          have HH := Lib.hid (And.intro hs (And.intro hb' hlt))
          have HWR := Lib.hid hwr'
          clear hs hb' hwr' hN hr hbl hb hq hyes d0 d1 d2
          go_wp2_with fail
          rw [HWR.out]
          refine hC.out.mono ?_
          rintro r w2 ⟨rfl, hb2⟩
          have HB2 := Lib.hid (HH.out.2.1.trans (hb2.mono HH.out.2.1.size))
          clear hb2
          cases q
          · obtain rfl : R = false := by rw [HS.out]; exact none_stop xs HH.out.1
            go_wp2
            go_ret
            exact ⟨rfl, HK.out.2.1.trans (HB2.out.mono HK.out.2.1.size)⟩
          · go_wp2
            go_roundw
            case rel => exact ⟨k + 1, by go_num, by omega, HH.out.1, HB2.out⟩
            case measure => simp [RowKit.intOf]; omega
        · have hkn : k = n := by omega
          subst hkn
          have i1 : ¬ (k : Int) < (k : Int) := by omega
          have ht : ks.take k = ks := by rw [← HN.out, List.take_length]
          obtain rfl : R = true := by rw [HS.out, ← ht]; exact hyes
          have HY := Lib.hid (HK.out.2.1.trans (hb.mono HK.out.2.1.size))
          clear hb ht hyes
          go_wp2
          go_ret
          exact ⟨rfl, HY.out⟩
    · obtain rfl : R = false := by rw [hS]; rfl
      clear hS
      go_enter Try.func59, Try.ntmps59
      go_wp2_with fail
      rw [HW.out]
      refine HC.out.mono ?_
      rintro r w1 ⟨rfl, hb1⟩
      have HB1 := Lib.hid (HK.out.2.1.trans (hb1.mono HK.out.2.1.size))
      clear hb1
      go_wp2
      go_ret
      exact ⟨rfl, HB1.out⟩

set_option maxHeartbeats 2000000 in
theorem holds_any (xs : List Int) (e : E) (v : Value) (A' : Option Addr) (cap' : Nat) (w : World) (h : Nd w w.heap.size e v) (hI : IS w w.heap.size xs A' cap') :
    Calls Try.prog 41 #[v, .slice A' xs.length cap'] w fun r w' => r = .returned (.bool (!noneE xs e)) ∧ Below w.heap.size w w' := by
  obtain ⟨_, _, A, cap, rfl, hk⟩ := Nd_iff.1 h
  obtain ⟨W0, hW0⟩ : ∃ W0, (w.alloc (.cells #[.int .i64 e.k, .int .i64 e.c, .slice A e.ks.length cap] 33)).alloc (.cells #[.slice A' xs.length cap'] 25) = W0 := ⟨_, rfl⟩
  have hb0 : Below w.heap.size w W0 := by rw [← hW0]; exact ((Below.refl _ w).alloc (Nat.le_refl _) _).alloc (by simp) _
  have hp : Boxed W0 (w.heap.size + 1) 25 (.slice A' xs.length cap') := by
    rw [← hW0]
    have := Boxed.new (w.alloc (.cells #[.int .i64 e.k, .int .i64 e.c, .slice A e.ks.length cap] 33)) 25 (.slice A' xs.length cap')
    rw [World.size_alloc] at this
    exact this
  have C := Lib.hid (each_holds xs _ e (Nat.le_refl _) _ (w.heap.size + 1) A' cap' W0 (h.on hb0) hp (hI.on hb0))
  have HW := Lib.hid hW0
  have HB := Lib.hid hb0
  generalize noneE xs e = R at *
  generalize e.k = kk at *
  generalize e.c = cc at *
  generalize e.ks.length = n at *
  generalize xs.length = m at *
  clear hk h hI hp hW0 hb0
  go_enter Try.func41, Try.ntmps41
  go_wp2_with fail
  rw [HW.out]
  refine C.out.mono ?_
  rintro r w1 ⟨rfl, hb⟩
  have HZ := Lib.hid (HB.out.trans (hb.mono HB.out.size))
  clear hb
  go_wp2
  go_ret
  exact ⟨rfl, HZ.out⟩
end Go.Proofs.Ytegkogadceodlaa

namespace Go.Proofs.Ytegkogadceodlaa
open Go.RowKit Go.Shelf Go.Lib

/-- What Longest hands back. -/
def longR (e : E) : Bool × Nat := if rightE e && noneE [6, 7] e then (true, lgE e) else (false, 0)
theorem is2 (W : World) : IS (W.alloc (.cells #[.int .i64 6, .int .i64 7] 3)) (W.alloc (.cells #[.int .i64 6, .int .i64 7] 3)).heap.size [6, 7] (some ⟨W.heap.size, 0, none⟩) 2 :=
  ⟨by simp, by unfold maxLen; omega, fun x hx => by unfold i64; simp at hx; omega, fun _ => ⟨_, _, rfl, by simp, fun i x hx => by
    match i, hx with
    | 0, hx => simp at hx; subst hx; simp
    | 1, hx => simp at hx; subst hx; simp
    | i + 2, hx => simp at hx⟩⟩
theorem is1 (W : World) (k : Int) (hk : i64 k) : IS (W.alloc (.cells #[.int .i64 k] 3)) (W.alloc (.cells #[.int .i64 k] 3)).heap.size [k] (some ⟨W.heap.size, 0, none⟩) 1 :=
  ⟨by simp, by unfold maxLen; omega, fun x hx => by rw [List.mem_singleton.1 hx]; exact hk, fun _ => ⟨_, _, rfl, by simp, fun i x hx => by
    match i, hx with
    | 0, hx => simp at hx; subst hx; simp
    | i + 1, hx => simp at hx⟩⟩
/-- A node's box. -/
theorem node_box {w : World} {e : E} {A : Option Addr} {cap : Nat} {W0 : World} (hW : w.alloc (.cells #[.int .i64 e.k, .int .i64 e.c, .slice A e.ks.length cap] 33) = W0) :
    Below w.heap.size w W0 ∧ Cells W0 w.heap.size 33 #[.int .i64 e.k, .int .i64 e.c, .slice A e.ks.length cap] := by
  rw [← hW]; exact ⟨below_new _ _, World.alloc_heap_new _ _⟩
theorem cells_below {W W' : World} {g t : Nat} {cs : Array Value} (h : Cells W g t cs) (hb : Below W.heap.size W W') : Cells W' g t cs := (hb.block g h.lt).trans h

set_option maxHeartbeats 4000000 in
theorem longestR_any (e : E) (v : Value) (w : World) (h : Nd w w.heap.size e v) :
    Calls Try.prog 18 #[v] w fun r w' => r = .returned (.tuple #[.int .i64 ((longR e).2 : Nat), .bool (longR e).1]) ∧ Below w.heap.size w w' := by
  obtain ⟨_, _, A, cap, rfl, hk⟩ := Nd_iff.1 h
  obtain ⟨W0, hW0⟩ : ∃ W0, w.alloc (.cells #[.int .i64 e.k, .int .i64 e.c, .slice A e.ks.length cap] 33) = W0 := ⟨_, rfl⟩
  obtain ⟨hb0, hbx⟩ := node_box hW0
  have hN0 := h.on hb0
  have C := Lib.hid (right_any e _ W0 hN0)
  have C2 := fun W (hb : Below W0.heap.size W0 W) => holds_any [6, 7] e _ (some ⟨W.heap.size, 0, none⟩) 2 _ ((hN0.on hb).on (below_new W (.cells #[.int .i64 6, .int .i64 7] 3))) (is2 W)
  have C2 := Lib.hid C2
  have C3 := Lib.hid (fun (hsz : szE e ≤ 100000) W (hb : Below W0.heap.size W0 W) => longest_any _ e (Nat.le_refl _) hsz _ W (hN0.on hb))
  have HSZ := Lib.hid (@right_size e)
  have hL : longR e = if rightE e && noneE [6, 7] e then (true, lgE e) else (false, 0) := rfl
  obtain ⟨L, hLL⟩ : ∃ L, longR e = L := ⟨_, rfl⟩
  rw [hLL] at hL ⊢
  have HW := Lib.hid hW0
  have HB := Lib.hid (And.intro hb0 hbx)
  generalize rightE e = rb at *
  generalize noneE [6, 7] e = nb at *
  generalize lgE e = lg at *
  have q0 := hbx.cell 0
  have q1 := hbx.cell 1
  have q2 := hbx.cell 2
  simp only [List.getElem?_toArray, List.getElem?_cons_zero, List.getElem?_cons_succ] at q0 q1 q2
  generalize e.k = kk at *
  generalize e.c = cc at *
  generalize e.ks.length = n at *
  clear hk h hN0 hW0 hb0 hbx hLL
  cases rb
  · obtain rfl : L = (false, 0) := hL
    go_enter Try.func18, Try.ntmps18
    go_wp2_with fail
    rw [HW.out]
    refine C.out.mono ?_
    rintro r w1 ⟨rfl, hb⟩
    have HZ := Lib.hid (HB.out.1.trans (hb.mono HB.out.1.size))
    clear hb
    go_wp2
    go_ret2
    exact ⟨rfl, HZ.out⟩
  · have hsz := HSZ.out rfl
    have HLL := Lib.hid hL
    clear hL
    go_enter Try.func18, Try.ntmps18
    go_wp2_with fail
    rw [HW.out]
    refine C.out.mono ?_
    rintro r w1 ⟨rfl, hb⟩
    have d := cells_below HB.out.2 hb
    have d0 := d.cell 0
    have d1 := d.cell 1
    have d2 := d.cell 2
    simp only [List.getElem?_toArray, List.getElem?_cons_zero, List.getElem?_cons_succ] at d0 d1 d2
    have D2 := Lib.hid (C2.out w1 hb)
    have HB1 := Lib.hid hb
    have HD := Lib.hid d
    simp only [List.length_cons, List.length_nil] at D2
    have HSZ2 := Lib.hid hsz
    clear hb d hsz q0 q1 q2
    go_wp2_with fail
    refine D2.out.mono ?_
    rintro r w2 ⟨rfl, hb2⟩
    have hb3 := (below_new w1 (.cells #[.int .i64 6, .int .i64 7] 3)).trans (hb2.mono (by simp))
    have d' := cells_below HD.out hb3
    have f0 := d'.cell 0
    have f1 := d'.cell 1
    have f2 := d'.cell 2
    simp only [List.getElem?_toArray, List.getElem?_cons_zero, List.getElem?_cons_succ] at f0 f1 f2
    have hb4 := HB1.out.trans (hb3.mono HB1.out.size)
    have D3 := Lib.hid (C3.out (by have := HSZ2.out; omega) w2 hb4)
    have HB4 := Lib.hid hb4
    clear hb2 hb3 hb4 d' d0 d1 d2
    have hL := HLL.out
    clear HLL
    cases nb
    · obtain rfl : L = (false, 0) := hL
      go_wp2
      go_ret2
      exact ⟨rfl, HB.out.1.trans (HB4.out.mono HB.out.1.size)⟩
    · obtain rfl : L = (true, lg) := hL
      go_wp2_with fail
      refine D3.out.mono ?_
      rintro r w3 ⟨rfl, hb5⟩
      have hb6 := HB4.out.trans (hb5.mono HB4.out.size)
      have HZ := Lib.hid (HB.out.1.trans (hb6.mono HB.out.1.size))
      clear hb5 hb6
      go_wp2
      go_ret2
      exact ⟨rfl, HZ.out⟩
end Go.Proofs.Ytegkogadceodlaa

namespace Go.Proofs.Ytegkogadceodlaa
open Go.RowKit Go.Shelf Go.Lib

theorem right_good {e : E} (h : rightE e = true) : goodE e = true ∨ e.k = 9 := by
  by_cases h9 : e.k = 9
  · exact .inr h9
  · rw [rightE_good h9] at h
    simp only [Bool.and_eq_true] at h
    exact .inl h.1
/-- What Shortest hands back. -/
def shortR (e : E) : Nat := if rightE e then shE e else 0

set_option maxHeartbeats 4000000 in
theorem shortestR_any (e : E) (v : Value) (w : World) (h : Nd w w.heap.size e v) :
    Calls Try.prog 19 #[v] w fun r w' => r = .returned (.int .i64 ((shortR e : Nat) : Int)) ∧ Below w.heap.size w w' := by
  obtain ⟨_, _, A, cap, rfl, hk⟩ := Nd_iff.1 h
  obtain ⟨W0, hW0⟩ : ∃ W0, w.alloc (.cells #[.int .i64 e.k, .int .i64 e.c, .slice A e.ks.length cap] 33) = W0 := ⟨_, rfl⟩
  obtain ⟨hb0, hbx⟩ := node_box hW0
  have hN0 := h.on hb0
  have C := Lib.hid (right_any e _ W0 hN0)
  have C3 := Lib.hid (fun (hr : rightE e = true) W (hb : Below W0.heap.size W0 W) => shortest_any _ e (Nat.le_refl _) (by have := right_size hr; omega) (right_good hr) _ W (hN0.on hb))
  have hL : shortR e = if rightE e then shE e else 0 := rfl
  obtain ⟨L, hLL⟩ : ∃ L, shortR e = L := ⟨_, rfl⟩
  rw [hLL] at hL ⊢
  have HW := Lib.hid hW0
  have HB := Lib.hid (And.intro hb0 hbx)
  generalize rightE e = rb at *
  generalize shE e = lg at *
  generalize e.k = kk at *
  generalize e.c = cc at *
  generalize e.ks.length = n at *
  clear hk h hN0 hW0 hb0 hbx hLL
  cases rb
  · obtain rfl : L = 0 := hL
    go_enter Try.func19, Try.ntmps19
    go_wp2_with fail
    rw [HW.out]
    refine C.out.mono ?_
    rintro r w1 ⟨rfl, hb⟩
    have HZ := Lib.hid (HB.out.1.trans (hb.mono HB.out.1.size))
    clear hb
    go_wp2
    go_ret
    exact ⟨rfl, HZ.out⟩
  · obtain rfl : L = lg := hL
    go_enter Try.func19, Try.ntmps19
    go_wp2_with fail
    rw [HW.out]
    refine C.out.mono ?_
    rintro r w1 ⟨rfl, hb⟩
    have d := cells_below HB.out.2 hb
    have d0 := d.cell 0
    have d1 := d.cell 1
    have d2 := d.cell 2
    simp only [List.getElem?_toArray, List.getElem?_cons_zero, List.getElem?_cons_succ] at d0 d1 d2
    have D3 := Lib.hid (C3.out (by first | rfl | trivial) w1 hb)
    have HB1 := Lib.hid hb
    clear hb d
    go_wp2_with fail
    refine D3.out.mono ?_
    rintro r w3 ⟨rfl, hb5⟩
    have hb6 := HB1.out.trans (hb5.mono HB1.out.size)
    have HZ := Lib.hid (HB.out.1.trans (hb6.mono HB.out.1.size))
    clear hb5 hb6
    go_wp2
    go_ret
    exact ⟨rfl, HZ.out⟩

set_option maxHeartbeats 4000000 in
theorem has_any (e : E) (k : Int) (hki : i64 k) (v : Value) (w : World) (h : Nd w w.heap.size e v) :
    Calls Try.prog 103 #[v, .int .i64 k] w fun r w' => r = .returned (.bool (rightE e && !noneE [k] e)) ∧ Below w.heap.size w w' := by
  obtain ⟨_, _, A, cap, rfl, hk⟩ := Nd_iff.1 h
  obtain ⟨W0, hW0⟩ : ∃ W0, w.alloc (.cells #[.int .i64 e.k, .int .i64 e.c, .slice A e.ks.length cap] 33) = W0 := ⟨_, rfl⟩
  obtain ⟨hb0, hbx⟩ := node_box hW0
  have hN0 := h.on hb0
  have C := Lib.hid (right_any e _ W0 hN0)
  have C2 := fun W (hb : Below W0.heap.size W0 W) => holds_any [k] e _ (some ⟨W.heap.size, 0, none⟩) 1 _ ((hN0.on hb).on (below_new W (.cells #[.int .i64 k] 3))) (is1 W k hki)
  have C2 := Lib.hid C2
  have HW := Lib.hid hW0
  have HB := Lib.hid (And.intro hb0 hbx)
  generalize rightE e = rb at *
  generalize noneE [k] e = nb at *
  generalize e.k = kk at *
  generalize e.c = cc at *
  generalize e.ks.length = n at *
  clear hk h hN0 hW0 hb0 hbx hki
  cases rb
  · rw [Bool.false_and]
    go_enter Try.func103, Try.ntmps103
    go_wp2_with fail
    rw [HW.out]
    refine C.out.mono ?_
    rintro r w1 ⟨rfl, hb⟩
    have HZ := Lib.hid (HB.out.1.trans (hb.mono HB.out.1.size))
    clear hb
    go_wp2
    go_ret
    exact ⟨rfl, HZ.out⟩
  · rw [Bool.true_and]
    go_enter Try.func103, Try.ntmps103
    go_wp2_with fail
    rw [HW.out]
    refine C.out.mono ?_
    rintro r w1 ⟨rfl, hb⟩
    have d := cells_below HB.out.2 hb
    have d0 := d.cell 0
    have d1 := d.cell 1
    have d2 := d.cell 2
    simp only [List.getElem?_toArray, List.getElem?_cons_zero, List.getElem?_cons_succ] at d0 d1 d2
    have D2 := Lib.hid (C2.out w1 hb)
    have HB1 := Lib.hid hb
    simp only [List.length_cons, List.length_nil] at D2
    clear hb d
    go_wp2_with fail
    refine D2.out.mono ?_
    rintro r w2 ⟨rfl, hb2⟩
    have hb3 := (below_new w1 (.cells #[.int .i64 k] 3)).trans (hb2.mono (by simp))
    have hb4 := HB1.out.trans (hb3.mono HB1.out.size)
    have HZ := Lib.hid (HB.out.1.trans (hb4.mono HB.out.1.size))
    clear hb2 hb3 hb4
    go_wp2
    go_ret
    exact ⟨rfl, HZ.out⟩

/-- What is wrong with an expression as a right side. -/
def faultE (e : E) : Int := if rightE e && !noneE [3] e then 4 else if !(longR e).1 || decide (4 < (longR e).2) then 8 else 0
set_option maxHeartbeats 4000000 in
theorem fault_any (e : E) (v : Value) (w : World) (h : Nd w w.heap.size e v) :
    Calls Try.prog 86 #[v] w fun r w' => r = .returned (.int .i64 (faultE e)) ∧ Below w.heap.size w w' := by
  obtain ⟨_, _, A, cap, rfl, hk⟩ := Nd_iff.1 h
  obtain ⟨W0, hW0⟩ : ∃ W0, w.alloc (.cells #[.int .i64 e.k, .int .i64 e.c, .slice A e.ks.length cap] 33) = W0 := ⟨_, rfl⟩
  obtain ⟨hb0, hbx⟩ := node_box hW0
  have hN0 := h.on hb0
  have C := Lib.hid (has_any e 3 (by unfold i64; omega) _ W0 hN0)
  have C3 := Lib.hid (fun W (hb : Below W0.heap.size W0 W) => longestR_any e _ W (hN0.on hb))
  have hL : faultE e = if rightE e && !noneE [3] e then 4 else if !(longR e).1 || decide (4 < (longR e).2) then 8 else 0 := rfl
  obtain ⟨L, hLL⟩ : ∃ L, faultE e = L := ⟨_, rfl⟩
  rw [hLL] at hL ⊢
  have HW := Lib.hid hW0
  have HB := Lib.hid (And.intro hb0 hbx)
  generalize (rightE e && !noneE [3] e) = rb at *
  obtain ⟨lb, lg, hlr⟩ : ∃ a b, longR e = (a, b) := ⟨_, _, rfl⟩
  rw [hlr] at hL C3
  simp only at hL C3
  generalize e.k = kk at *
  generalize e.c = cc at *
  generalize e.ks.length = n at *
  clear hk h hN0 hW0 hb0 hbx hLL hlr
  cases rb
  · have HL := Lib.hid hL
    clear hL
    go_enter Try.func86, Try.ntmps86
    go_wp2_with fail
    rw [HW.out]
    refine C.out.mono ?_
    rintro r w1 ⟨rfl, hb⟩
    have d := cells_below HB.out.2 hb
    have d0 := d.cell 0
    have d1 := d.cell 1
    have d2 := d.cell 2
    simp only [List.getElem?_toArray, List.getElem?_cons_zero, List.getElem?_cons_succ] at d0 d1 d2
    have D3 := Lib.hid (C3.out w1 hb)
    have HB1 := Lib.hid hb
    clear hb d
    go_wp2_with fail
    refine D3.out.mono ?_
    rintro r w3 ⟨rfl, hb5⟩
    have hb6 := HB1.out.trans (hb5.mono HB1.out.size)
    have HZ := Lib.hid (HB.out.1.trans (hb6.mono HB.out.1.size))
    have hL := HL.out
    clear hb5 hb6 d0 d1 d2 HL
    cases lb
    · obtain rfl : L = 8 := hL
      go_wp2
      go_ret
      exact ⟨rfl, HZ.out⟩
    · by_cases h4 : 4 < lg
      · have i4 : (4 : Int) < (lg : Int) := by omega
        obtain rfl : L = 8 := by rw [hL, decide_eq_true h4]; rfl
        clear hL h4
        go_wp2
        go_ret
        exact ⟨rfl, HZ.out⟩
      · have i4 : decide ((4 : Int) < (lg : Int)) = false := by simp; omega
        obtain rfl : L = 0 := by rw [hL, decide_eq_false h4]; rfl
        clear hL h4
        go_wp2
        go_ret
        exact ⟨rfl, HZ.out⟩
  · obtain rfl : L = 4 := hL
    go_enter Try.func86, Try.ntmps86
    go_wp2_with fail
    rw [HW.out]
    refine C.out.mono ?_
    rintro r w1 ⟨rfl, hb⟩
    have HZ := Lib.hid (HB.out.1.trans (hb.mono HB.out.1.size))
    clear hb
    go_wp2
    go_ret
    exact ⟨rfl, HZ.out⟩
end Go.Proofs.Ytegkogadceodlaa

namespace Go.Proofs.Ytegkogadceodlaa
open Go.RowKit Go.Shelf Go.Lib

structure Ru where
  l : E
  r : E
  b : Bool
/-- An expression's three cells. -/
def nc (e : E) (A : Option Addr) (cap : Nat) : List Value := [.int .i64 e.k, .int .i64 e.c, .slice A e.ks.length cap]
/-- A value is a rule. -/
def RuV (w : World) (B : Nat) (x : Ru) (v : Value) : Prop := ∃ A1 c1 A2 c2, v = .agg #[.int .i64 x.l.k, .int .i64 x.l.c, .slice A1 x.l.ks.length c1, .int .i64 x.r.k, .int .i64 x.r.c, .slice A2 x.r.ks.length c2, .bool x.b] ∧
  Nd w B x.l (.agg #[.int .i64 x.l.k, .int .i64 x.l.c, .slice A1 x.l.ks.length c1]) ∧ Nd w B x.r (.agg #[.int .i64 x.r.k, .int .i64 x.r.c, .slice A2 x.r.ks.length c2])
theorem RuV.below {w w' : World} {B : Nat} {x : Ru} {v : Value} (h : RuV w B x v) (hb : Below B w w') : RuV w' B x v := by
  obtain ⟨A1, c1, A2, c2, rfl, h1, h2⟩ := h
  exact ⟨A1, c1, A2, c2, rfl, h1.below hb, h2.below hb⟩
theorem RuV.mono {w : World} {B B' : Nat} {x : Ru} {v : Value} (h : RuV w B x v) (hB : B ≤ B') : RuV w B' x v := by
  obtain ⟨A1, c1, A2, c2, rfl, h1, h2⟩ := h
  exact ⟨A1, c1, A2, c2, rfl, h1.mono hB, h2.mono hB⟩
theorem RuV.on {w w' : World} {x : Ru} {v : Value} (h : RuV w w.heap.size x v) (hb : Below w.heap.size w w') : RuV w' w'.heap.size x v := (h.below hb).mono hb.size

/-- May a rule be in a right meaning? -/
def rightR (x : Ru) : Bool := rightE x.l && (rightE x.r && decide (faultE x.r = 0))

set_option maxHeartbeats 4000000 in
theorem isRight_any (x : Ru) (v : Value) (w : World) (h : RuV w w.heap.size x v) : Calls Try.prog 57 #[v] w fun r w' => r = .returned (.bool (rightR x)) ∧ Below w.heap.size w w' := by
  obtain ⟨A1, c1, A2, c2, rfl, h1, h2⟩ := h
  obtain ⟨W0, hW0⟩ : ∃ W0, w.alloc (.cells #[.int .i64 x.l.k, .int .i64 x.l.c, .slice A1 x.l.ks.length c1, .int .i64 x.r.k, .int .i64 x.r.c, .slice A2 x.r.ks.length c2, .bool x.b] 68) = W0 := ⟨_, rfl⟩
  have hb0 : Below w.heap.size w W0 := by rw [← hW0]; exact below_new _ _
  have hbx : Cells W0 w.heap.size 68 #[.int .i64 x.l.k, .int .i64 x.l.c, .slice A1 x.l.ks.length c1, .int .i64 x.r.k, .int .i64 x.r.c, .slice A2 x.r.ks.length c2, .bool x.b] := by rw [← hW0]; exact World.alloc_heap_new _ _
  have C1 := Lib.hid (right_any x.l _ W0 (h1.on hb0))
  have C2 := Lib.hid (fun W (hb : Below W0.heap.size W0 W) => right_any x.r _ W ((h2.on hb0).on hb))
  have C3 := Lib.hid (fun W (hb : Below W0.heap.size W0 W) => fault_any x.r _ W ((h2.on hb0).on hb))
  have hR : rightR x = (rightE x.l && (rightE x.r && decide (faultE x.r = 0))) := rfl
  obtain ⟨R, hRR⟩ : ∃ R, rightR x = R := ⟨_, rfl⟩
  rw [hRR] at hR ⊢
  have HW := Lib.hid hW0
  have HB := Lib.hid (And.intro hb0 hbx)
  generalize rightE x.l = b1 at *
  generalize rightE x.r = b2 at *
  generalize faultE x.r = f at *
  generalize x.l.ks.length = n1 at *
  generalize x.r.ks.length = n2 at *
  generalize x.l.k = k1 at *
  generalize x.r.k = k2 at *
  generalize x.l.c = d1 at *
  generalize x.r.c = d2 at *
  generalize x.b = bb at *
  have HR := Lib.hid hR
  clear h1 h2 hW0 hb0 hbx hR hRR
  cases b1
  · obtain rfl : R = false := HR.out
    go_enter Try.func57, Try.ntmps57
    go_wp2_with fail
    rw [HW.out]
    refine C1.out.mono ?_
    rintro r w1 ⟨rfl, hb⟩
    have HZ := Lib.hid (HB.out.1.trans (hb.mono HB.out.1.size))
    clear hb
    go_wp2
    go_ret
    exact ⟨rfl, HZ.out⟩
  go_enter Try.func57, Try.ntmps57
  go_wp2_with fail
  rw [HW.out]
  refine C1.out.mono ?_
  rintro r w1 ⟨rfl, hb⟩
  have d := cells_below HB.out.2 hb
  have x3 := d.cell 3
  have x4 := d.cell 4
  have x5 := d.cell 5
  simp only [List.getElem?_toArray, List.getElem?_cons_zero, List.getElem?_cons_succ] at x3 x4 x5
  have D2 := Lib.hid (C2.out w1 hb)
  have HB1 := Lib.hid hb
  have HD := Lib.hid d
  clear hb d
  go_wp2_with fail
  refine D2.out.mono ?_
  rintro r w2 ⟨rfl, hb⟩
  have hb2 := HB1.out.trans (hb.mono HB1.out.size)
  have HB2 := Lib.hid hb2
  have d := cells_below HD.out hb
  clear x3 x4 x5
  have x3 := d.cell 3
  have x4 := d.cell 4
  have x5 := d.cell 5
  simp only [List.getElem?_toArray, List.getElem?_cons_zero, List.getElem?_cons_succ] at x3 x4 x5
  have D3 := Lib.hid (C3.out w2 hb2)
  clear hb hb2 d
  cases b2
  · obtain rfl : R = false := HR.out
    have HZ := Lib.hid (HB.out.1.trans (HB2.out.mono HB.out.1.size))
    go_wp2
    go_ret
    exact ⟨rfl, HZ.out⟩
  go_wp2_with fail
  refine D3.out.mono ?_
  rintro r w3 ⟨rfl, hb⟩
  have hb3 := HB2.out.trans (hb.mono HB2.out.size)
  have HZ := Lib.hid (HB.out.1.trans (hb3.mono HB.out.1.size))
  clear hb hb3
  by_cases hf : f = 0
  · subst hf
    obtain rfl : R = true := HR.out
    go_wp2
    go_ret
    exact ⟨rfl, HZ.out⟩
  · have q : (f == 0) = false := by simpa using hf
    obtain rfl : R = false := by rw [HR.out, decide_eq_false hf]; rfl
    go_wp2
    go_ret
    exact ⟨rfl, HZ.out⟩

set_option maxHeartbeats 4000000 in
theorem rightN_any (x : Ru) (v : Value) (w : World) (h : RuV w w.heap.size x v) : Calls Try.prog 56 #[v] w fun r w' => r = .returned (.bool (!rightR x)) ∧ Below w.heap.size w w' := by
  have h' := h
  obtain ⟨A1, c1, A2, c2, rfl, _, _⟩ := h'
  obtain ⟨W0, hW0⟩ : ∃ W0, w.alloc (.cells #[.int .i64 x.l.k, .int .i64 x.l.c, .slice A1 x.l.ks.length c1, .int .i64 x.r.k, .int .i64 x.r.c, .slice A2 x.r.ks.length c2, .bool x.b] 68) = W0 := ⟨_, rfl⟩
  have hb0 : Below w.heap.size w W0 := by rw [← hW0]; exact below_new _ _
  have C1 := Lib.hid (isRight_any x _ W0 (h.on hb0))
  have HW := Lib.hid hW0
  have HB := Lib.hid hb0
  generalize rightR x = b1 at *
  generalize x.l.ks.length = n1 at *
  generalize x.r.ks.length = n2 at *
  generalize x.l.k = k1 at *
  generalize x.r.k = k2 at *
  generalize x.l.c = d1 at *
  generalize x.r.c = d2 at *
  generalize x.b = bb at *
  clear h hW0 hb0
  go_enter Try.func56, Try.ntmps56
  go_wp2_with fail
  rw [HW.out]
  refine C1.out.mono ?_
  rintro r w1 ⟨rfl, hb⟩
  have HZ := Lib.hid (HB.out.trans (hb.mono HB.out.size))
  clear hb
  go_wp2
  go_ret
  exact ⟨rfl, HZ.out⟩
end Go.Proofs.Ytegkogadceodlaa

namespace Go.Proofs.Ytegkogadceodlaa
open Go.RowKit Go.Shelf Go.Lib

/-- A slice of rules. -/
structure RsAt (w : World) (B : Nat) (rs : List Ru) (A : Option Addr) (cap : Nat) : Prop where
  l : rs.length ≤ cap
  m : cap ≤ maxLen
  r : rs ≠ [] → ∃ b o, A = some ⟨b, o, none⟩ ∧ b < B ∧ ∀ i x, rs[i]? = some x → ∃ A1 c1 A2 c2,
    (w.cell? ⟨b, o + i * 7, none⟩ = some (.int .i64 x.l.k) ∧ w.cell? ⟨b, o + i * 7 + 1, none⟩ = some (.int .i64 x.l.c) ∧ w.cell? ⟨b, o + i * 7 + 2, none⟩ = some (.slice A1 x.l.ks.length c1) ∧
      w.cell? ⟨b, o + i * 7 + 3, none⟩ = some (.int .i64 x.r.k) ∧ w.cell? ⟨b, o + i * 7 + 4, none⟩ = some (.int .i64 x.r.c) ∧ w.cell? ⟨b, o + i * 7 + 5, none⟩ = some (.slice A2 x.r.ks.length c2) ∧ w.cell? ⟨b, o + i * 7 + 6, none⟩ = some (.bool x.b)) ∧
    RuV w B x (.agg #[.int .i64 x.l.k, .int .i64 x.l.c, .slice A1 x.l.ks.length c1, .int .i64 x.r.k, .int .i64 x.r.c, .slice A2 x.r.ks.length c2, .bool x.b])
theorem RsAt.below {w w' : World} {B : Nat} {rs : List Ru} {A : Option Addr} {cap : Nat} (h : RsAt w B rs A cap) (hb : Below B w w') : RsAt w' B rs A cap :=
  ⟨h.l, h.m, fun hne => by
    obtain ⟨b, o, rfl, hl, hr⟩ := h.r hne
    refine ⟨b, o, rfl, hl, fun i x hx => ?_⟩
    obtain ⟨A1, c1, A2, c2, ⟨k0, k1, k2, k3, k4, k5, k6⟩, hv⟩ := hr i x hx
    have f : ∀ j v, w.cell? ⟨b, j, none⟩ = some v → w'.cell? ⟨b, j, none⟩ = some v := fun j v hv => (hb.cell (p := ⟨b, j, none⟩) hl).trans hv
    exact ⟨A1, c1, A2, c2, ⟨f _ _ k0, f _ _ k1, f _ _ k2, f _ _ k3, f _ _ k4, f _ _ k5, f _ _ k6⟩, hv.below hb⟩⟩
theorem RsAt.mono {w : World} {B B' : Nat} {rs : List Ru} {A : Option Addr} {cap : Nat} (h : RsAt w B rs A cap) (hB : B ≤ B') : RsAt w B' rs A cap :=
  ⟨h.l, h.m, fun hne => by
    obtain ⟨b, o, rfl, hl, hr⟩ := h.r hne
    refine ⟨b, o, rfl, by omega, fun i x hx => ?_⟩
    obtain ⟨A1, c1, A2, c2, hc, hv⟩ := hr i x hx
    exact ⟨A1, c1, A2, c2, hc, hv.mono hB⟩⟩
theorem RsAt.on {w w' : World} {rs : List Ru} {A : Option Addr} {cap : Nat} (h : RsAt w w.heap.size rs A cap) (hb : Below w.heap.size w w') : RsAt w' w'.heap.size rs A cap := (h.below hb).mono hb.size
theorem RsAt.len {w : World} {B : Nat} {rs : List Ru} {A : Option Addr} {cap : Nat} (h : RsAt w B rs A cap) : rs.length ≤ 9223372036854775807 := by have := h.l; have := h.m; unfold maxLen at this; omega

set_option maxHeartbeats 4000000 in
theorem indexR_any (rs : List Ru) (A : Option Addr) (cap : Nat) (w : World) (h : RsAt w w.heap.size rs A cap) :
    Calls Try.prog 85 #[.slice A rs.length cap, .func (.func 56) #[] #[]] w fun r w' => (∃ i : Int, r = .returned (.int .i64 i) ∧ (0 ≤ i ↔ rs.all rightR = false)) ∧ Below w.heap.size w w' := by
  have hl := h.len
  obtain ⟨AL, hAL⟩ : ∃ AL, rs.all rightR = AL := ⟨_, rfl⟩
  rw [hAL]
  have HA := Lib.hid hAL
  clear hAL
  obtain ⟨n, hn⟩ : ∃ n, rs.length = n := ⟨_, rfl⟩
  rw [hn] at hl ⊢
  have HK := Lib.hid h
  have HN := Lib.hid hn
  clear h hn
  go_enter Try.func85, Try.ntmps85
  go_wp2_with fail
  go_loopw [5, 8] (fun _ i wr => ∃ k : Nat, i = .int .i64 k ∧ k ≤ n ∧ (rs.take k).all rightR = true ∧ Below w.heap.size w wr) (fun _ i _ => n - (RowKit.intOf i).toNat)
  case atStart => exact ⟨0, rfl, Nat.zero_le _, by simp, Below.refl _ _⟩
  case round =>
    obtain ⟨k, rfl, hkn, hyes, hb⟩ := hrel
    by_cases hlt : k < n
    · obtain ⟨x, hx⟩ : ∃ x, rs[k]? = some x := ⟨rs[k]'(by rw [HN.out]; exact hlt), List.getElem?_eq_getElem _⟩
      have i1 : (k : Int) < (n : Int) := by omega
      obtain ⟨b, o, rfl, hbl, hr⟩ := (HK.out.on hb).r (by rintro rfl; simp at hx)
      obtain ⟨A1, c1, A2, c2, ⟨k0, k1, k2, k3, k4, k5, k6⟩, hv⟩ := hr k x hx
      have C := rightN_any x _ wr hv
      have hs : (rs.take (k + 1)).all rightR = rightR x := by rw [List.take_add_one, hx, List.all_append, hyes]; simp
      have hst : rightR x = false → AL = false := fun hf => by
        rw [← HA.out, ← List.take_append_drop (k + 1) rs, List.all_append, hs, hf, Bool.false_and]
      generalize rightR x = R at *
      have HC := Lib.hid C
      have HH := Lib.hid (And.intro hs (And.intro hst (And.intro hb hlt)))
      clear C hs hst hb hr hv hyes hx
      go_wp2_with fail
      refine HC.out.mono ?_
      rintro r w1 ⟨rfl, hb1⟩
      have HB := Lib.hid (HH.out.2.2.1.trans (hb1.mono HH.out.2.2.1.size))
      clear hb1
      cases R
      · have HF := Lib.hid (HH.out.2.1 rfl)
        go_wp2
        go_ret
        exact ⟨⟨_, rfl, ⟨fun _ => HF.out, fun _ => by omega⟩⟩, HB.out⟩
      · go_wp2
        go_roundw
        case rel => exact ⟨k + 1, by go_num, by omega, HH.out.1, HB.out⟩
        case measure => simp [RowKit.intOf]; omega
    · have hkn : k = n := by omega
      subst hkn
      have i1 : ¬ (k : Int) < (k : Int) := by omega
      have ht : rs.take k = rs := by rw [← HN.out, List.take_length]
      rw [ht, HA.out] at hyes
      have HY := Lib.hid (And.intro hyes hb)
      clear hyes hb ht
      go_wp2
      go_ret
      exact ⟨⟨_, rfl, ⟨fun h => absurd h (by decide), fun h => absurd (HY.out.1.symm.trans h) (by decide)⟩⟩, HY.out.2⟩
theorem containsR_any (rs : List Ru) (A : Option Addr) (cap : Nat) (w : World) (h : RsAt w w.heap.size rs A cap) :
    Calls Try.prog 55 #[.slice A rs.length cap, .func (.func 56) #[] #[]] w fun r w' => r = .returned (.bool (!rs.all rightR)) ∧ Below w.heap.size w w' := by
  have C := Lib.hid (indexR_any rs A cap w h)
  generalize rs.length = n at *
  have hR : ∀ i : Int, (0 ≤ i ↔ rs.all rightR = false) → decide (0 ≤ i) = !rs.all rightR := fun i hi => by rw [Bool.eq_iff_iff]; simpa using hi
  generalize rs.all rightR = R at *
  have HR := Lib.hid hR
  clear h hR
  go_enter Try.func55, Try.ntmps55
  go_wp2_with fail
  refine C.out.mono ?_
  rintro r w1 ⟨⟨i, rfl, hj⟩, hb⟩
  have hi := HR.out i hj
  clear hj
  go_wp2
  go_ret
  exact ⟨rfl, hb⟩

/-- Are numbers classes that rise? -/
def risesL : Int → List Int → Bool
  | _, [] => true
  | p, x :: r => decide (p < x) && decide (x < 36) && risesL x r
def rises (xs : List Int) : Bool := risesL (-1) xs
theorem risesL_take (p : Int) (xs : List Int) (k : Nat) (x : Int) (h : xs[k]? = some x) : risesL p (xs.take (k + 1)) = (risesL p (xs.take k) && (decide ((xs.take k).getLast?.getD p < x) && decide (x < 36))) := by
  induction xs generalizing p k with
  | nil => simp at h
  | cons a r ih =>
    cases k with
    | zero =>
      obtain rfl : a = x := by simpa using h
      show (decide (p < a) && decide (a < 36) && true) = (true && (decide (p < a) && decide (a < 36)))
      rw [Bool.and_true, Bool.true_and]
    | succ k =>
      have := ih a k (by simpa using h)
      show (decide (p < a) && decide (a < 36) && risesL a (r.take (k + 1))) = (decide (p < a) && decide (a < 36) && risesL a (r.take k) && _)
      rw [this]
      have e : (List.take (k + 1) (a :: r)).getLast?.getD p = (r.take k).getLast?.getD a := by
        rw [List.take_succ_cons, List.getLast?_cons]
        simp
      rw [e]
      simp [Bool.and_assoc]
theorem risesL_stop (p : Int) (xs : List Int) (k : Nat) (h : risesL p (xs.take k) = false) : risesL p xs = false := by
  induction xs generalizing p k with
  | nil => simp [risesL] at h
  | cons a r ih =>
    cases k with
    | zero => simp [risesL] at h
    | succ k =>
      have h' : (decide (p < a) && decide (a < 36) && risesL a (r.take k)) = false := h
      show (decide (p < a) && decide (a < 36) && risesL a r) = false
      by_cases hc : (decide (p < a) && decide (a < 36)) = true
      · rw [hc, Bool.true_and] at h' ⊢
        exact ih a k h'
      · rw [Bool.not_eq_true] at hc
        rw [hc, Bool.false_and]

set_option maxHeartbeats 4000000 in
theorem areClasses_any (xs : List Int) (A : Option Addr) (cap : Nat) (w : World) (h : IS w w.heap.size xs A cap) :
    Calls Try.prog 54 #[.slice A xs.length cap] w fun r w' => r = .returned (.bool (rises xs)) ∧ w' = w := by
  have hl := h.len
  obtain ⟨R, hR⟩ : ∃ R, rises xs = R := ⟨_, rfl⟩
  obtain ⟨n, hn⟩ : ∃ n, xs.length = n := ⟨_, rfl⟩
  rw [hn] at hl ⊢
  rw [hR]
  have HK := Lib.hid h
  have HN := Lib.hid hn
  have HR := Lib.hid hR
  clear h hn hR
  go_enter Try.func54, Try.ntmps54
  go_wp2_with fail
  go_loopw [3, 5, 8] (fun l _ i wr => ∃ k : Nat, i = .int .i64 k ∧ k ≤ n ∧ l = .int .i64 ((xs.take k).getLast?.getD (-1)) ∧ risesL (-1) (xs.take k) = true ∧ wr = w) (fun _ _ i _ => n - (RowKit.intOf i).toNat)
  case atStart => exact ⟨0, rfl, Nat.zero_le _, by simp, rfl, rfl⟩
  case round =>
    obtain ⟨k, rfl, hkn, rfl, hyes, rfl⟩ := hrel
    by_cases hlt : k < n
    · obtain ⟨x, hx⟩ : ∃ x, xs[k]? = some x := ⟨xs[k]'(by rw [HN.out]; exact hlt), List.getElem?_eq_getElem _⟩
      have i1 : (k : Int) < (n : Int) := by omega
      obtain ⟨b, o, rfl, hbl, hr⟩ := HK.out.r (by rintro rfl; simp at hx)
      have d0 := hr k x hx
      have hs := risesL_take (-1) xs k x hx
      rw [hyes, Bool.true_and] at hs
      have hst := risesL_stop (-1) xs (k + 1)
      have hla : (xs.take (k + 1)).getLast?.getD (-1) = x := by rw [List.take_add_one, hx]; simp
      generalize (xs.take k).getLast?.getD (-1) = la at *
      by_cases h1 : x ≤ la
      · have hf : R = false := by rw [← HR.out]; refine hst ?_; rw [hs, decide_eq_false (by omega), Bool.false_and]
        subst hf
        clear hs hst hla hx hr hyes
        go_wp2
        go_ret
        exact ⟨rfl, rfl⟩
      · have e1 : decide (x ≤ la) = false := by simp; omega
        by_cases h2 : 36 ≤ x
        · have hf : R = false := by rw [← HR.out]; refine hst ?_; rw [hs, decide_eq_false (show ¬ x < 36 by omega), Bool.and_false]
          subst hf
          clear hs hst hla hx hr hyes h1
          go_wp2
          go_ret
          exact ⟨rfl, rfl⟩
        · have e2 : decide (36 ≤ x) = false := by simp; omega
          have hy : risesL (-1) (xs.take (k + 1)) = true := by rw [hs, decide_eq_true (show la < x by omega), decide_eq_true (show x < 36 by omega)]; rfl
          have HZ := Lib.hid (And.intro hla hy)
          clear hs hst hla hx hr hyes h1 h2 hy
          go_wp2
          go_roundw
          case rel => exact ⟨k + 1, by go_num, by omega, by rw [HZ.out.1], HZ.out.2, trivial⟩
          case measure => simp [RowKit.intOf]; omega
    · have hkn : k = n := by omega
      subst hkn
      have i1 : ¬ (k : Int) < (k : Int) := by omega
      have ht : xs.take k = xs := by rw [← HN.out, List.take_length]
      rw [ht] at hyes
      have hf : R = true := by rw [← HR.out]; exact hyes
      subst hf
      clear hyes ht
      go_wp2
      go_ret
      exact ⟨rfl, rfl⟩
end Go.Proofs.Ytegkogadceodlaa

namespace Go.Proofs.Ytegkogadceodlaa
open Go.RowKit Go.Shelf Go.Lib

structure Tx where
  ig : List Int
  kp : List Int
  rs : List Ru
/-- A value is a meaning. -/
def TxV (w : World) (B : Nat) (t : Tx) (v : Value) : Prop := ∃ A1 c1 A2 c2 A3 c3, v = .agg #[.slice A1 t.ig.length c1, .slice A2 t.kp.length c2, .slice A3 t.rs.length c3] ∧ IS w B t.ig A1 c1 ∧ IS w B t.kp A2 c2 ∧ RsAt w B t.rs A3 c3
theorem TxV.below {w w' : World} {B : Nat} {t : Tx} {v : Value} (h : TxV w B t v) (hb : Below B w w') : TxV w' B t v := by
  obtain ⟨A1, c1, A2, c2, A3, c3, rfl, h1, h2, h3⟩ := h
  exact ⟨A1, c1, A2, c2, A3, c3, rfl, h1.below hb, h2.below hb, h3.below hb⟩
theorem TxV.mono {w : World} {B B' : Nat} {t : Tx} {v : Value} (h : TxV w B t v) (hB : B ≤ B') : TxV w B' t v := by
  obtain ⟨A1, c1, A2, c2, A3, c3, rfl, h1, h2, h3⟩ := h
  exact ⟨A1, c1, A2, c2, A3, c3, rfl, h1.mono hB, h2.mono hB, h3.mono hB⟩
theorem TxV.on {w w' : World} {t : Tx} {v : Value} (h : TxV w w.heap.size t v) (hb : Below w.heap.size w w') : TxV w' w'.heap.size t v := (h.below hb).mono hb.size

def rightT (t : Tx) : Bool := decide (t.rs.length ≤ 40) && (rises t.ig && (rises t.kp && t.rs.all rightR))

set_option maxHeartbeats 4000000 in
theorem rightT_any (t : Tx) (v : Value) (w : World) (h : TxV w w.heap.size t v) : Calls Try.prog 35 #[v] w fun r w' => r = .returned (.bool (rightT t)) ∧ Below w.heap.size w w' := by
  obtain ⟨A1, c1, A2, c2, A3, c3, rfl, h1, h2, h3⟩ := h
  obtain ⟨W0, hW0⟩ : ∃ W0, w.alloc (.cells #[.slice A1 t.ig.length c1, .slice A2 t.kp.length c2, .slice A3 t.rs.length c3] 57) = W0 := ⟨_, rfl⟩
  have hb0 : Below w.heap.size w W0 := by rw [← hW0]; exact below_new _ _
  have hbx : Cells W0 w.heap.size 57 #[.slice A1 t.ig.length c1, .slice A2 t.kp.length c2, .slice A3 t.rs.length c3] := by rw [← hW0]; exact World.alloc_heap_new _ _
  have C1 := Lib.hid (areClasses_any t.ig A1 c1 W0 (h1.on hb0))
  have C2 := Lib.hid (areClasses_any t.kp A2 c2 W0 (h2.on hb0))
  have C3 := Lib.hid (containsR_any t.rs A3 c3 W0 (h3.on hb0))
  have l1 := h1.len
  have l2 := h2.len
  have l3 := h3.len
  have hR : rightT t = (decide (t.rs.length ≤ 40) && (rises t.ig && (rises t.kp && t.rs.all rightR))) := rfl
  obtain ⟨R, hRR⟩ : ∃ R, rightT t = R := ⟨_, rfl⟩
  rw [hRR] at hR ⊢
  have HR := Lib.hid hR
  have HW := Lib.hid hW0
  have x0 := hbx.cell 0
  have x1 := hbx.cell 1
  have x2 := hbx.cell 2
  simp only [List.getElem?_toArray, List.getElem?_cons_zero, List.getElem?_cons_succ] at x0 x1 x2
  have HB := Lib.hid hb0
  generalize rises t.ig = b1 at *
  generalize rises t.kp = b2 at *
  generalize t.rs.all rightR = b3 at *
  generalize t.ig.length = n1 at *
  generalize t.kp.length = n2 at *
  generalize t.rs.length = n3 at *
  clear h1 h2 h3 hW0 hb0 hbx hR hRR
  by_cases h40 : n3 ≤ 40
  · have i40 : ((n3 : Int) ≤ 40) := by omega
    have hR2 : R = (b1 && (b2 && b3)) := by rw [HR.out, decide_eq_true h40, Bool.true_and]
    have HR2 := Lib.hid hR2
    clear hR2 HR h40
    go_enter Try.func35, Try.ntmps35
    go_wp2_with fail
    rw [HW.out]
    refine C1.out.mono ?_
    rintro r w1 ⟨rfl, rfl⟩
    cases b1
    · obtain rfl : R = false := HR2.out
      go_wp2
      go_ret
      exact ⟨rfl, HB.out⟩
    go_wp2_with fail
    refine C2.out.mono ?_
    rintro r w2 ⟨rfl, rfl⟩
    cases b2
    · obtain rfl : R = false := HR2.out
      go_wp2
      go_ret
      exact ⟨rfl, HB.out⟩
    obtain rfl : R = b3 := HR2.out
    go_wp2_with fail
    refine C3.out.mono ?_
    rintro r w3 ⟨rfl, hb⟩
    have HZ := Lib.hid (HB.out.trans (hb.mono HB.out.size))
    clear hb
    cases R
    · go_wp2
      go_ret
      exact ⟨rfl, HZ.out⟩
    · go_wp2
      go_ret
      exact ⟨rfl, HZ.out⟩
  · have i40 : decide ((n3 : Int) ≤ 40) = false := by simp; omega
    obtain rfl : R = false := by rw [HR.out, decide_eq_false h40, Bool.false_and]
    clear h40
    go_enter Try.func35, Try.ntmps35
    go_wp2_with fail
    rw [HW.out]
    go_wp2
    go_ret
    exact ⟨rfl, HB.out⟩
end Go.Proofs.Ytegkogadceodlaa

namespace Go.Proofs.Ytegkogadceodlaa
open Go.RowKit Go.Shelf Go.Lib

def takesG (k c m : Int) : Bool := if k = 0 then m == c else if k = 1 then isC m else if k = 2 then (isC m && m != c) else if k = 3 then m == 36 else false
set_option maxHeartbeats 4000000 in
set_option maxRecDepth 100000 in
theorem takes_any (k c m : Int) (A : Option Addr) (n cap : Nat) (w : World) : Calls Try.prog 63 #[.agg #[.int .i64 k, .int .i64 c, .slice A n cap], .int .i64 m] w fun e w' => e = .returned (.bool (takesG k c m)) ∧ Below w.heap.size w w' := by
  have C := Lib.hid (fun w => isClass_any m w)
  have HT := Lib.hid (show takesG k c m = _ from rfl)
  obtain ⟨R, hR⟩ : ∃ R, takesG k c m = R := ⟨_, rfl⟩
  rw [hR]
  have HR := Lib.hid hR
  have hb := Lib.hid (below_new w (.cells #[.int .i64 k, .int .i64 c, .slice A n cap] 33))
  clear hR
  by_cases h0 : k = 0
  · subst h0
    go_enter Try.func63, Try.ntmps63
    go_wp2_with fail
    go_ret
    exact ⟨by rw [← HR.out]; rfl, hb.out⟩
  · by_cases h1 : k = 1
    · subst h1
      go_enter Try.func63, Try.ntmps63
      go_wp2_with fail
      refine (C.out _).mono ?_
      rintro e w2 ⟨rfl, rfl⟩
      go_wp2_with fail
      go_ret
      exact ⟨by rw [← HR.out]; rfl, hb.out⟩
    · by_cases h2 : k = 2
      · subst h2
        by_cases hc : isC m = true
        · go_enter Try.func63, Try.ntmps63
          go_wp2_with fail
          refine (C.out _).mono ?_
          rintro e w2 ⟨rfl, rfl⟩
          rw [hc]
          go_wp2_with fail
          go_ret
          exact ⟨by rw [← HR.out]; simp [takesG, hc, bne], hb.out⟩
        · have hc : isC m = false := by simpa using hc
          go_enter Try.func63, Try.ntmps63
          go_wp2_with fail
          refine (C.out _).mono ?_
          rintro e w2 ⟨rfl, rfl⟩
          rw [hc]
          go_wp2_with fail
          go_ret
          exact ⟨by rw [← HR.out]; simp [takesG, hc], hb.out⟩
      · by_cases h3 : k = 3
        · subst h3
          go_enter Try.func63, Try.ntmps63
          go_wp2_with fail
          go_ret
          exact ⟨by rw [← HR.out]; rfl, hb.out⟩
        · go_enter Try.func63, Try.ntmps63
          go_wp2_with fail
          go_ret
          exact ⟨by rw [← HR.out]; simp [takesG, h0, h1, h2, h3], hb.out⟩
end Go.Proofs.Ytegkogadceodlaa

