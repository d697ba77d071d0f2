/-
  Contracts: read of any right expression.
-/
import Derived.Test.YtlbcicoppglgjaaDoorRea
namespace Go.Proofs.YtlbcicoppglgjaaDoor
open Go.RowKit Go.Shelf Go.Lib Go.Great Go.Maps

theorem kids_lt {k c : Int} {ks : List E} {e : E} (h : e ∈ ks) : szE e < szE (.mk k c ks) := szE_kid (e := .mk k c ks) h
theorem shaped_kind {k c : Int} {n : Nat} (h : shapedK k c n = true) : 0 ≤ k ∧ k ≤ 9 := by
  unfold shapedK at h
  by_cases c1 : k = 0 ∨ k = 2
  · omega
  · rw [if_neg c1] at h
    by_cases c2 : k = 1 ∨ k = 3 ∨ k = 9
    · omega
    · rw [if_neg c2] at h
      by_cases c3 : k = 4 ∨ k = 5
      · omega
      · rw [if_neg c3] at h
        by_cases c4 : k = 6 ∨ k = 7 ∨ k = 8
        · omega
        · rw [if_neg c4] at h; cases h
theorem readOk_all : ∀ N e, szE e ≤ N → ReadOk e := by
  intro N
  induction N with
  | zero => intro e h; have := szE_pos e; omega
  | succ N ih =>
    intro e he
    obtain ⟨k, c, ks⟩ := e
    intro q B n se s v w h hq hB h0 hT hN hg hc hn
    obtain ⟨h9, hs, ha⟩ := good_parts hg
    have hz := szE_eq (.mk k c ks)
    simp only [E.ks] at hz
    have IH : ∀ e ∈ ks, ReadOk e := fun e hm => ih e (by have := kids_lt (k := k) (c := c) hm; omega)
    have hk := shaped_kind hs
    by_cases h4 : k = 4
    · subst h4
      have hne : ks ≠ [] := by rintro rfl; have := shaped_many hs (.inl rfl); simp at this
      refine (read4 c ks IH q B n se s v w h hq hB h0 hT hN ha (by rw [leaves_kids hne] at hc; exact hc) (by omega)).mono ?_
      rintro r w' ⟨h1, h2, h3⟩
      exact ⟨h1, h2, h3.mono (by omega)⟩
    · by_cases h5 : k = 5
      · subst h5
        have hne : ks ≠ [] := by rintro rfl; have := shaped_many hs (.inr rfl); simp at this
        refine (read5 c ks IH q B n se s v w h hq hB h0 hT hN ha (by rw [leaves_kids hne] at hc; exact hc) (by omega)).mono ?_
        rintro r w' ⟨h1, h2, h3⟩
        exact ⟨h1, h2, h3.mono (by omega)⟩
      · by_cases h678 : k = 6 ∨ k = 7 ∨ k = 8
        · have h1 := shaped_one hs h678
          obtain ⟨f, rfl⟩ : ∃ f, ks = [f] := by
            match ks, h1 with
            | [f], _ => exact ⟨f, rfl⟩
          have hgf := good_all ha f (by simp)
          have hcf : s.count + leavesE f ≤ 1000 := by rw [leaves_kids (by simp)] at hc; exact hc
          have hzf : szL [f] = szE f := by simp [szL, szE.szL]
          rw [hzf] at hz
          rcases h678 with rfl | rfl | rfl
          · refine (read6 c f (IH f (by simp)) q B n se s v w h hq hB h0 hT hN hgf hcf (by omega)).mono ?_
            rintro r w' ⟨h1, h2, h3⟩
            exact ⟨h1, h2, h3.mono (by omega)⟩
          · refine (read7 c f (IH f (by simp)) q B n se s v w h hq hB h0 hT hN hgf hcf (by omega)).mono ?_
            rintro r w' ⟨h1, h2, h3⟩
            exact ⟨h1, h2, h3.mono (by omega)⟩
          · refine (read8 c f (IH f (by simp)) q B n se s v w h hq hB h0 hT hN hgf hcf (by omega)).mono ?_
            rintro r w' ⟨h1, h2, h3⟩
            exact ⟨h1, h2, h3.mono (by omega)⟩
        · have hl := List.eq_nil_of_length_eq_zero (shaped_leaf hs h4 h5 (by omega) (by omega) (by omega))
          subst hl
          have hsz : szE (.mk k c []) = 1 := by rw [szE_eq]; rfl
          have hr : rightE (.mk k c []) = true := by rw [rightE_good (e := .mk k c []) h9, hg, hsz]; rfl
          have hlv : leavesE (.mk k c []) = 1 := by unfold leavesE; rw [if_pos rfl, if_neg h9]
          refine (readLf k c q B n se s v w h hq hB h0 hT hN (by omega) (by omega) hr (by omega) (by omega)).mono ?_
          rintro r w' ⟨h1, h2, h3⟩
          exact ⟨h1, h2, h3.mono (by omega)⟩
/-- Any right expression. -/
theorem read_any (e : E) (q : Np) (B n : Nat) (se : Bool) (s : St) (v : Value) (w : World) (h : NfaAt w q n se s) (hq : q.Ok B) (hB : B ≤ w.heap.size) (h0 : 0 < B) (hT : TZ w) (hN : Nd w B e v) (hr : rightE e = true) (hc : s.count + leavesE e ≤ 1000)
    (hn : n + 5000 * szE e ≤ 900000000000) : Calls Tryd.prog 41 #[.pointer (some ⟨q.b, 0, none⟩), v] w fun r w' => r = .returned (.agg (spL (readE e s).2).toArray) ∧ Kp q w w' ∧ NfaAt w' q (n + 5000 * szE e) se (readE e s).1 := by
  by_cases h9 : e.k = 9
  · obtain ⟨k, c, ks⟩ := e
    simp only [E.k] at h9
    subst h9
    refine (read9 c ks q B n se s v w h hq hB h0 hT hN (by omega)).mono ?_
    rintro r w' ⟨h1, h2, h3⟩
    exact ⟨h1, h2, h3.mono (by omega)⟩
  · rw [rightE_good h9] at hr
    simp only [Bool.and_eq_true] at hr
    refine (readOk_all _ e (Nat.le_refl _) q B n se s v w h hq hB h0 hT hN hr.1 hc hn).mono ?_
    rintro r w' ⟨h1, h2, h3⟩
    exact ⟨h1, h2, h3.mono (by omega)⟩
theorem leaves_right {e : E} (hr : rightE e = true) (s : St) : (readE e s).1.count = s.count + leavesE e := by
  by_cases h9 : e.k = 9
  · obtain ⟨k, c, ks⟩ := e
    simp only [E.k] at h9
    subst h9
    have hr : shapedK 9 c ks.length = true := by simpa [rightE, E.k, E.c, E.ks] using hr
    have hl := List.eq_nil_of_length_eq_zero (shaped_leaf hr (by decide) (by decide) (by decide) (by decide) (by decide))
    subst hl
    rw [readE_9]
    unfold leavesE
    rw [if_pos rfl, if_pos rfl]
    rfl
  · rw [rightE_good h9] at hr
    simp only [Bool.and_eq_true] at hr
    exact count_readE e s hr.1
end Go.Proofs.YtlbcicoppglgjaaDoor
