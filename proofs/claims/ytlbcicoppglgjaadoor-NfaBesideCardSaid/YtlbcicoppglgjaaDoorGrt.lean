/-
  Contracts: Exprs.Over, Great, Right.
-/
import Derived.Test.YtlbcicoppglgjaaDoorFlt
import Derived.Test.YtlbcicoppglgjaaDoorRrr
namespace Go.Proofs.YtlbcicoppglgjaaDoor
open Go.RowKit Go.Shelf Go.Lib

set_option maxHeartbeats 4000000 in
set_option maxRecDepth 100000 in
theorem over_any (ks : List E) (A : Option Addr) (cap : Nat) (w : World) (h : KsAt w w.heap.size ks A cap) : Calls Tryd.prog 22 #[.slice A ks.length cap, .int .i64 80] w fun r w' => r = .returned (.bool (decide (80 < szL ks))) ∧ Below w.heap.size w w' := by
  have hln : ks.length ≤ 9223372036854775807 := by have := h.l; have := h.m; unfold maxLen at this; omega
  obtain ⟨R, hR⟩ : ∃ R, decide (80 < szL ks) = R := ⟨_, rfl⟩
  rw [hR]
  have HR := Lib.hid hR
  obtain ⟨n, hn⟩ : ∃ n, ks.length = n := ⟨_, rfl⟩
  have HN := Lib.hid hn
  have HK := Lib.hid h
  rw [hn] at hln ⊢
  clear hn h hR
  go_enter Tryd.func22, Tryd.ntmps22
  go_wp2_with fail
  go_loopw [5, 6] (fun s i wr => ∃ k t : Nat, i = .int .i64 k ∧ k ≤ n ∧ s = .int .i64 (t : Int) ∧ t ≤ 200 ∧ (t ≤ 80 → t = szL (ks.take k)) ∧ (80 < t → R = true) ∧ Below w.heap.size w wr) (fun _ i _ => n - (RowKit.intOf i).toNat)
  case atStart => exact ⟨0, 0, rfl, Nat.zero_le _, rfl, by omega, fun _ => by simp [szL, szE.szL], fun h => by omega, Below.refl _ _⟩
  case round =>
    obtain ⟨k, t, rfl, hkn, rfl, ht, hte, htr, hb⟩ := hrel
    by_cases hlt : k < n
    · have i1 : (k : Int) < (n : Int) := by omega
      by_cases h80 : t ≤ 80
      · have i2 : (t : Int) ≤ 80 := by omega
        obtain ⟨f, hf⟩ : ∃ f, ks[k]? = some f := ⟨ks[k]'(by rw [HN.out]; exact hlt), List.getElem?_eq_getElem _⟩
        obtain ⟨b, o, rfl, hbl, hr⟩ := HK.out.r (by rintro rfl; simp at hf)
        obtain ⟨A', cap', c0, c1, c2, hNd⟩ := row_get' hr hf
        have d0 := (hb.cell (p := ⟨b, o + k * 3, none⟩) hbl).trans c0
        have d1 := (hb.cell (p := ⟨b, o + k * 3 + 1, none⟩) hbl).trans c1
        have d2 := (hb.cell (p := ⟨b, o + k * 3 + 2, none⟩) hbl).trans c2
        have hC := size_any _ f (Nat.le_refl _) (.agg #[.int .i64 f.k, .int .i64 f.c, .slice A' f.ks.length cap']) 80 wr ((hNd.below hb).mono hb.size) (by omega)
        have hs := szL_take hf
        have hle := szL_take_le ks (k + 1)
        have hte' := hte h80
        obtain ⟨z, hz⟩ : ∃ z, min (szE f) (80 + 1) = z := ⟨_, rfl⟩
        rw [hz] at hC
        have hC := Lib.hid hC
        have hzb : z ≤ 81 := by omega
        have hn1 : t + z ≤ 80 → t + z = szL (ks.take (k + 1)) := by intro h; omega
        have hn2 : 80 < t + z → R = true := by
          intro h
          rw [← HR.out]
          simp only [decide_eq_true_eq]
          omega
        have hw : wrap64 ((t : Int) + (z : Int)) = (t : Int) + (z : Int) := by unfold wrap64; omega
        have HH := Lib.hid (And.intro hb (And.intro hn1 (And.intro hn2 (And.intro hw hzb))))
        clear hb hn1 hn2 hs hle hte hte' htr hz c0 c1 c2 hNd hr hf
        go_wp2_with fail
        refine hC.out.mono ?_
        rintro r w2 ⟨rfl, hb2⟩
        have HB := Lib.hid (HH.out.1.trans (hb2.mono HH.out.1.size))
        clear hb2 d0 d1 d2
        go_wp2_with fail
        go_roundw
        case rel => exact ⟨k + 1, t + z, by go_num, by omega, by first | (rw [HH.out.2.2.2.1]; simp) | go_num, by have := HH.out.2.2.2.2; omega, HH.out.2.1, HH.out.2.2.1, HB.out⟩
        case measure => simp [RowKit.intOf]; omega
      · have i2 : decide ((t : Int) ≤ 80) = false := by simp; omega
        have i3 : (80 : Int) < (t : Int) := by omega
        obtain rfl : R = true := htr (by omega)
        have HB := Lib.hid hb
        clear hb hte htr
        go_wp2_with fail
        go_ret
        exact ⟨rfl, HB.out⟩
    · obtain rfl : k = n := by omega
      have i1 : decide ((k : Int) < (k : Int)) = false := by simp
      have ht2 : ks.take k = ks := by rw [← HN.out, List.take_length]
      rw [ht2] at hte
      have hfin : R = decide ((80 : Int) < (t : Int)) := by
        rw [← HR.out]
        congr 1
        apply propext
        constructor
        · intro h
          by_cases h80 : t ≤ 80
          · have := hte h80; omega
          · omega
        · intro h
          have := htr (by omega)
          rw [← HR.out] at this
          simpa using this
      have HF := Lib.hid hfin
      have HB := Lib.hid hb
      clear hb hte htr hfin ht2
      go_wp2_with fail
      go_ret
      exact ⟨by rw [HF.out]; rfl, HB.out⟩
set_option maxHeartbeats 4000000 in
set_option maxRecDepth 100000 in
theorem great_any (ks : List E) (A : Option Addr) (cap : Nat) (w : World) (h : KsAt w w.heap.size ks A cap) : Calls Tryd.prog 8 #[.slice A ks.length cap] w fun r w' => r = .returned (.bool (decide (80 < szL ks))) ∧ Below w.heap.size w w' := by
  have C := Lib.hid (over_any ks A cap w h)
  clear h
  generalize decide (80 < szL ks) = R at *
  go_enter Tryd.func8, Tryd.ntmps8
  go_wp2_with fail
  refine C.out.mono ?_
  rintro r w2 ⟨rfl, hb⟩
  have HB := Lib.hid hb
  clear hb
  go_wp2_with fail
  go_ret
  exact ⟨rfl, HB.out⟩
set_option maxHeartbeats 4000000 in
set_option maxRecDepth 100000 in
theorem allRight_any (ks : List E) (A : Option Addr) (cap : Nat) (w : World) (h : KsAt w w.heap.size ks A cap) (hz : szL ks ≤ 100000) : Calls Tryd.prog 12 #[.slice A ks.length cap] w fun r w' => r = .returned (.bool (ks.all rightE && decide (ks.length ≤ 40))) ∧ Below w.heap.size w w' := by
  have hln : ks.length ≤ 9223372036854775807 := by have := h.l; have := h.m; unfold maxLen at this; omega
  obtain ⟨R, hR⟩ : ∃ R, (ks.all rightE && decide (ks.length ≤ 40)) = R := ⟨_, rfl⟩
  rw [hR]
  have HR := Lib.hid hR
  obtain ⟨n, hn⟩ : ∃ n, ks.length = n := ⟨_, rfl⟩
  have HN := Lib.hid hn
  have HK := Lib.hid (And.intro h hz)
  rw [hn] at hln ⊢
  clear hn h hR hz
  go_enter Tryd.func12, Tryd.ntmps12
  go_wp2_with fail
  go_loopw [3] (fun i wr => ∃ k : Nat, i = .int .i64 k ∧ k ≤ n ∧ (ks.take k).all rightE = true ∧ Below w.heap.size w wr) (fun i _ => n - (RowKit.intOf i).toNat)
  case atStart => exact ⟨0, rfl, Nat.zero_le _, rfl, Below.refl _ _⟩
  case round =>
    obtain ⟨k, rfl, hkn, hall, hb⟩ := hrel
    by_cases hlt : k < n
    · obtain ⟨f, hf⟩ : ∃ f, ks[k]? = some f := ⟨ks[k]'(by rw [HN.out]; exact hlt), List.getElem?_eq_getElem _⟩
      have i1 : (k : Int) < (n : Int) := by omega
      obtain ⟨b, o, rfl, hbl, hr⟩ := HK.out.1.r (by rintro rfl; simp at hf)
      obtain ⟨A', cap', c0, c1, c2, hNd⟩ := row_get' hr hf
      have d0 := (hb.cell (p := ⟨b, o + k * 3, none⟩) hbl).trans c0
      have d1 := (hb.cell (p := ⟨b, o + k * 3 + 1, none⟩) hbl).trans c1
      have d2 := (hb.cell (p := ⟨b, o + k * 3 + 2, none⟩) hbl).trans c2
      have hsf := szL_mem (List.mem_of_getElem? hf)
      have hC := Lib.hid (refRight_any f (.agg #[.int .i64 f.k, .int .i64 f.c, .slice A' f.ks.length cap']) wr ((hNd.below hb).mono hb.size))
      have HH := Lib.hid (And.intro hf (And.intro hb hall))
      clear c0 c1 c2 hNd hr hb hall hf
      go_wp2_with fail
      refine hC.out.mono ?_
      rintro r w2 ⟨rfl, hb2⟩
      have HB := Lib.hid (HH.out.2.1.trans (hb2.mono HH.out.2.1.size))
      clear hb2 d0 d1 d2
      by_cases hr : rightE f = true
      · rw [hr]
        have ht : (ks.take (k + 1)).all rightE = true := by rw [all_take HH.out.1, HH.out.2.2, hr]; rfl
        have HT := Lib.hid ht
        clear ht hr
        go_wp2_with fail
        go_roundw
        case rel => exact ⟨k + 1, by go_num, by omega, HT.out, HB.out⟩
        case measure => simp [RowKit.intOf]; omega
      · have hr : rightE f = false := by simpa using hr
        rw [hr]
        have : R = false := by
          have ht : (ks.take (k + 1)).all rightE = false := by rw [all_take HH.out.1, hr]; simp
          rw [← HR.out, all_stop ht]; rfl
        subst this
        clear hr
        go_wp2_with fail
        go_ret
        exact ⟨rfl, HB.out⟩
    · obtain rfl : k = n := by omega
      have i1 : ¬ (k : Int) < (k : Int) := by omega
      have ht : ks.take k = ks := by rw [← HN.out, List.take_length]
      rw [ht] at hall
      have hfin : R = decide ((k : Int) ≤ 40) := by
        rw [← HR.out, hall, Bool.true_and, HN.out]
        congr 1
        apply propext
        omega
      have HF := Lib.hid hfin
      have HB := Lib.hid hb
      clear hall hb ht hfin
      go_wp2_with fail
      go_ret
      exact ⟨by rw [HF.out]; rfl, HB.out⟩
end Go.Proofs.YtlbcicoppglgjaaDoor
