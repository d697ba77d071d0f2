/-
  Contracts: nfa.leaves.
-/
import Derived.Test.YtlbcicoppglgjaaDoorRdm
namespace Go.Proofs.YtlbcicoppglgjaaDoor
open Go.RowKit Go.Shelf Go.Lib Go.Great Go.Maps

set_option maxHeartbeats 4000000 in
set_option maxRecDepth 100000 in
theorem leaves_any : ∀ N e, szE e ≤ N → szE e ≤ 100000 → ∀ v w, Nd w w.heap.size e v →
    Calls Tryd.prog 40 #[v] w fun r w' => r = .returned (.int .i64 ((leavesE e : Nat) : Int)) ∧ Below w.heap.size w w' := by
  intro N
  induction N with
  | zero => intro e h; have := szE_pos e; omega
  | succ N ih =>
    intro e he hmx v w h
    obtain ⟨_, _, A, cap, rfl, hk⟩ := Nd_iff.1 h
    obtain ⟨W0, hW0⟩ : ∃ W0, w.alloc (.cells #[.int .i64 e.k, .int .i64 e.c, .slice A e.ks.length cap] 52) = W0 := ⟨_, rfl⟩
    have hb0 : Below w.heap.size w W0 := by rw [← hW0]; exact below_new _ _
    have hz0 : w.heap.size < W0.heap.size := by rw [← hW0]; simp
    have x0 : Cells W0 w.heap.size 52 #[.int .i64 e.k, .int .i64 e.c, .slice A e.ks.length cap] := by rw [← hW0]; exact cells_new _ _ _
    have c0 := x0.cell 0
    have c2 := x0.cell 2
    simp at c0 c2
    have hk0 := hk.on hb0
    have hS := szE_eq e
    have hkid := fun i f (hf : e.ks[i]? = some f) => szE_kid (List.mem_of_getElem? hf)
    have hln : e.ks.length ≤ 9223372036854775807 := by have := hk.l; have := hk.m; unfold maxLen at this; omega
    have hL : leavesE e = if e.ks = [] then (if e.k = 9 then 0 else 1) else lvL e.ks := by cases e; rfl
    have hLe := leaves_le _ e (Nat.le_refl _)
    have hkle : ∀ (i : Nat) (f : E), e.ks[i]? = some f → leavesE f ≤ szE f := fun _ f _ => leaves_le _ f (Nat.le_refl _)
    generalize e.k = kk at *
    generalize e.c = cc at *
    generalize e.ks = ks at *
    generalize szE e = S at *
    generalize leavesE e = L at *
    obtain ⟨n, hn⟩ : ∃ n, ks.length = n := ⟨_, rfl⟩
    have HS := Lib.hid (And.intro hS (And.intro hmx (And.intro he hLe)))
    have HW := Lib.hid hW0
    have HK := Lib.hid (And.intro hk0 hb0)
    have HI := Lib.hid ih
    have HKD := Lib.hid hkid
    have HKL := Lib.hid hkle
    have HN := Lib.hid hn
    have HL := Lib.hid hL
    rw [hn] at c2 hln
    rw [hn] at HW ⊢
    clear hW0 hk hk0 hb0 ih hkid hn h hS hL hLe hkle hmx he x0
    by_cases hn0 : n = 0
    · subst hn0
      have hks : ks = [] := List.eq_nil_of_length_eq_zero HN.out
      by_cases h9 : kk = 9
      · subst h9
        have : L = 0 := by rw [HL.out, if_pos hks, if_pos rfl]
        subst this
        go_enter Tryd.func40, Tryd.ntmps40
        go_wp2_with fail
        rw [HW.out]
        go_wp2_with fail
        go_loopw [3, 18] (fun s i wr => i = .int .i64 0 ∧ s = .int .i64 0 ∧ wr = W0) (fun _ _ _ => 0)
        case atStart => exact ⟨rfl, rfl, rfl⟩
        case round =>
          obtain ⟨rfl, rfl, rfl⟩ := hrel
          go_wp2_with fail
          go_ret
          exact ⟨rfl, HK.out.2⟩
      · have : L = 1 := by rw [HL.out, if_pos hks, if_neg h9]
        subst this
        have h9' : (kk == 9) = false := by simpa using h9
        go_enter Tryd.func40, Tryd.ntmps40
        go_wp2_with fail
        rw [HW.out]
        go_wp2_with fail
        go_ret
        exact ⟨rfl, HK.out.2⟩
    · have hn1 : ((n : Int) == 0) = false := by simp; omega
      have hne : ks ≠ [] := by rintro rfl; have := HN.out; simp at this; omega
      have HLL := Lib.hid (show L = lvL ks by rw [HL.out, if_neg hne])
      clear hne
      go_enter Tryd.func40, Tryd.ntmps40
      go_wp2_with fail
      rw [HW.out]
      go_wp2_with fail
      go_loopw [3, 18] (fun s i wr => ∃ k : Nat, i = .int .i64 k ∧ k ≤ n ∧ s = .int .i64 ((lvL (ks.take k) : Nat) : Int) ∧ Below W0.heap.size W0 wr) (fun _ i _ => n - (RowKit.intOf i).toNat)
      case atStart => exact ⟨0, rfl, Nat.zero_le _, rfl, Below.refl _ _⟩
      case round =>
        obtain ⟨k, rfl, hkn, rfl, hb⟩ := hrel
        by_cases hlt : k < n
        · obtain ⟨f, hf⟩ : ∃ f, ks[k]? = some f := ⟨ks[k]'(by rw [HN.out]; exact hlt), List.getElem?_eq_getElem _⟩
          have i1 : (k : Int) < (n : Int) := by omega
          obtain ⟨b, o, rfl, hbl, hr⟩ := HK.out.1.r (by rintro rfl; simp at hf)
          obtain ⟨A', cap', d0, d1, d2, hN⟩ := row_get' hr hf
          have d0' := (hb.cell (p := ⟨b, o + k * 3, none⟩) hbl).trans d0
          have d1' := (hb.cell (p := ⟨b, o + k * 3 + 1, none⟩) hbl).trans d1
          have d2' := (hb.cell (p := ⟨b, o + k * 3 + 2, none⟩) hbl).trans d2
          have hs := lvL_take hf
          have hl := HKD.out k f hf
          have hle := lvL_take_le ks (k + 1)
          have hkl := HKL.out k f hf
          obtain ⟨wr', hwr'⟩ : ∃ W, wr.alloc (.cells #[.int .i64 f.k, .int .i64 f.c, .slice A' f.ks.length cap'] 52) = W := ⟨_, rfl⟩
          have bb : Below wr.heap.size wr wr' := by rw [← hwr']; exact below_new _ _
          have hbr := hb.trans (bb.mono hb.size)
          have hC := Lib.hid (HI.out f (by have := HS.out; omega) (by have := HS.out; omega) (.agg #[.int .i64 f.k, .int .i64 f.c, .slice A' f.ks.length cap']) wr' ((hN.below hbr).mono hbr.size))
          have hLL := HLL.out
          have hSS := HS.out
          generalize lvL (ks.take k) = s at *
          generalize leavesE f = t at *
          have hw : wrap64 ((s : Int) + (t : Int)) = (s : Int) + (t : Int) := by unfold wrap64; omega
          have HH := Lib.hid (And.intro hs (And.intro hbr hwr'))
          clear hs hl hle hkl bb hbr hwr' hN hr hbl d0 d1 d2 hb hLL hSS
          go_wp2_with fail
          rw [HH.out.2.2]
          refine hC.out.mono ?_
          rintro r w2 ⟨rfl, hb2⟩
          have HB := Lib.hid (HH.out.2.1.trans (hb2.mono HH.out.2.1.size))
          clear hb2
          go_wp2_with fail
          go_roundw
          case rel => exact ⟨k + 1, by go_num, by omega, by rw [HH.out.1, hw]; simp, HB.out⟩
          case measure => simp [RowKit.intOf]; omega
        · have hkn : k = n := by omega
          subst hkn
          have i1 : ¬ (k : Int) < (k : Int) := by omega
          have ht : ks.take k = ks := by rw [← HN.out, List.take_length]
          rw [ht, ← HLL.out]
          have HB := Lib.hid hb
          clear hb ht
          go_wp2_with fail
          go_ret
          exact ⟨rfl, HK.out.2.trans (HB.out.mono HK.out.2.size)⟩
end Go.Proofs.YtlbcicoppglgjaaDoor
