/-
  Contracts: nfa.fault.
-/
import Derived.Test.YtlbcicoppglgjaaDoorLvs
namespace Go.Proofs.YtlbcicoppglgjaaDoor
open Go.RowKit Go.Shelf Go.Lib Go.Great Go.Maps

def faultL (ks : List E) : Int := if 40 < ks.length then 3 else if ks.all rightE = false then 1 else if 1000 < 1 + lvL ks then 7 else 0
theorem all_take {ks : List E} {i : Nat} {e : E} (h : ks[i]? = some e) : (ks.take (i + 1)).all rightE = ((ks.take i).all rightE && rightE e) := by
  rw [List.take_add_one, h, List.all_append]; simp
theorem all_stop {ks : List E} {i : Nat} (h : (ks.take i).all rightE = false) : ks.all rightE = false := by
  have := List.all_append (xs := ks.take i) (ys := ks.drop i) (f := rightE)
  rw [List.take_append_drop, h] at this
  simpa using this
theorem lvL_le2000 {ks : List E} (h : ks.all rightE = true) (i : Nat) : lvL (ks.take i) ≤ 2000 * (ks.take i).length := by
  induction ks generalizing i with
  | nil => simp [lvL, leavesE.lvL]
  | cons e r ih =>
    simp only [List.all_cons, Bool.and_eq_true] at h
    cases i with
    | zero => simp [lvL, leavesE.lvL]
    | succ i =>
      rw [List.take_succ_cons]
      have h1 := ih h.2 i
      have h2 := right_size h.1
      have h3 := leaves_le _ e (Nat.le_refl _)
      simp only [lvL, leavesE.lvL, List.length_cons] at *
      omega
set_option maxHeartbeats 4000000 in
set_option maxRecDepth 100000 in
theorem fault_any (ks : List E) (A : Option Addr) (cap : Nat) (w : World) (hk : KsAt w w.heap.size ks A cap) :
    Calls Tryd.prog 23 #[.slice A ks.length cap] w fun r w' => r = .returned (.int .i64 (faultL ks)) ∧ Below w.heap.size w w' := by
  have hln : ks.length ≤ 9223372036854775807 := by have := hk.l; have := hk.m; unfold maxLen at this; omega
  obtain ⟨R, hR⟩ : ∃ R, faultL ks = R := ⟨_, rfl⟩
  rw [hR]
  have HR := Lib.hid hR
  obtain ⟨n, hn⟩ : ∃ n, ks.length = n := ⟨_, rfl⟩
  have HN := Lib.hid hn
  have HK := Lib.hid hk
  rw [hn] at hln ⊢
  clear hn hk hR
  by_cases h40 : 40 < n
  · have h40' : (40 : Int) < (n : Int) := by omega
    have : R = 3 := by rw [← HR.out]; unfold faultL; rw [if_pos (by rw [HN.out]; exact h40)]
    subst this
    go_enter Tryd.func23, Tryd.ntmps23
    go_wp2_with fail
    go_ret
    exact ⟨rfl, Below.refl _ _⟩
  · have h40' : ¬ (40 : Int) < (n : Int) := by omega
    go_enter Tryd.func23, Tryd.ntmps23
    go_wp2_with fail
    go_loopw [13] (fun i wr => ∃ k : Nat, i = .int .i64 k ∧ k ≤ n ∧ (ks.take k).all rightE = true ∧ Below w.heap.size w wr) (fun i _ => n - (RowKit.intOf i).toNat)
    case atStart => exact ⟨0, rfl, Nat.zero_le _, rfl, Below.refl _ _⟩
    case round =>
      obtain ⟨k, rfl, hkn, hall, hb⟩ := hrel
      by_cases hlt : k < n
      · obtain ⟨f, hf⟩ : ∃ f, ks[k]? = some f := ⟨ks[k]'(by rw [HN.out]; exact hlt), List.getElem?_eq_getElem _⟩
        have i1 : (k : Int) < (n : Int) := by omega
        obtain ⟨b, o, rfl, hbl, hr⟩ := HK.out.r (by rintro rfl; simp at hf)
        obtain ⟨A', cap', d0, d1, d2, hN⟩ := row_get' hr hf
        have d0' := (hb.cell (p := ⟨b, o + k * 3, none⟩) hbl).trans d0
        have d1' := (hb.cell (p := ⟨b, o + k * 3 + 1, none⟩) hbl).trans d1
        have d2' := (hb.cell (p := ⟨b, o + k * 3 + 2, none⟩) hbl).trans d2
        obtain ⟨wr', hwr'⟩ : ∃ W, wr.alloc (.cells #[.int .i64 f.k, .int .i64 f.c, .slice A' f.ks.length cap'] 52) = W := ⟨_, rfl⟩
        have bb : Below wr.heap.size wr wr' := by rw [← hwr']; exact below_new _ _
        have hbr := hb.trans (bb.mono hb.size)
        have hC := Lib.hid (right_any f (.agg #[.int .i64 f.k, .int .i64 f.c, .slice A' f.ks.length cap']) wr' ((hN.below hbr).mono hbr.size))
        have HH := Lib.hid (And.intro hf (And.intro hbr (And.intro hwr' hall)))
        clear bb hbr hwr' hN hr hbl d0 d1 d2 hb hall hf
        go_wp2_with fail
        rw [HH.out.2.2.1]
        refine hC.out.mono ?_
        rintro r w2 ⟨rfl, hb2⟩
        have HB := Lib.hid (HH.out.2.1.trans (hb2.mono HH.out.2.1.size))
        clear hb2
        by_cases hr : rightE f = true
        · rw [hr]
          have ht : (ks.take (k + 1)).all rightE = true := by rw [all_take HH.out.1, HH.out.2.2.2, hr]; rfl
          have HT := Lib.hid ht
          clear ht hr
          go_wp2_with fail
          go_roundw
          case rel => exact ⟨k + 1, by go_num, by omega, HT.out, HB.out⟩
          case measure => simp [RowKit.intOf]; omega
        · have hr : rightE f = false := by simpa using hr
          rw [hr]
          have : R = 1 := by
            have ht : (ks.take (k + 1)).all rightE = false := by rw [all_take HH.out.1, hr]; simp
            rw [← HR.out]; unfold faultL; rw [if_neg (by rw [HN.out]; exact h40), if_pos (all_stop ht)]
          subst this
          clear hr
          go_wp2_with fail
          go_ret
          exact ⟨rfl, HB.out⟩
      · obtain rfl : k = n := by omega
        have i1 : ¬ (k : Int) < (k : Int) := by omega
        have ht : ks.take k = ks := by rw [← HN.out, List.take_length]
        rw [ht] at hall
        have HA := Lib.hid hall
        have HB := Lib.hid hb
        clear hall hb ht
        go_wp2_with fail
        clear i1
        go_loopw [5, 23] (fun s i wr => ∃ j : Nat, i = .int .i64 j ∧ j ≤ k ∧ s = .int .i64 ((1 + lvL (ks.take j) : Nat) : Int) ∧ Below w.heap.size w wr) (fun _ i _ => k - (RowKit.intOf i).toNat)
        case atStart => exact ⟨0, rfl, Nat.zero_le _, rfl, HB.out⟩
        case round =>
          obtain ⟨j, rfl, hjn, rfl, hb⟩ := hrel
          by_cases hlt : j < k
          · obtain ⟨f, hf⟩ : ∃ f, ks[j]? = some f := ⟨ks[j]'(by rw [HN.out]; exact hlt), List.getElem?_eq_getElem _⟩
            have i1 : (j : Int) < (k : Int) := by omega
            obtain ⟨b, o, rfl, hbl, hr⟩ := HK.out.r (by rintro rfl; simp at hf)
            obtain ⟨A', cap', d0, d1, d2, hN⟩ := row_get' hr hf
            have d0' := (hb.cell (p := ⟨b, o + j * 3, none⟩) hbl).trans d0
            have d1' := (hb.cell (p := ⟨b, o + j * 3 + 1, none⟩) hbl).trans d1
            have d2' := (hb.cell (p := ⟨b, o + j * 3 + 2, none⟩) hbl).trans d2
            obtain ⟨wr', hwr'⟩ : ∃ W, wr.alloc (.cells #[.int .i64 f.k, .int .i64 f.c, .slice A' f.ks.length cap'] 52) = W := ⟨_, rfl⟩
            have bb : Below wr.heap.size wr wr' := by rw [← hwr']; exact below_new _ _
            have hbr := hb.trans (bb.mono hb.size)
            have hrf : rightE f = true := List.all_eq_true.1 HA.out f (List.mem_of_getElem? hf)
            have hsz := right_size hrf
            have hC := Lib.hid (leaves_any _ f (Nat.le_refl _) (by omega) (.agg #[.int .i64 f.k, .int .i64 f.c, .slice A' f.ks.length cap']) wr' ((hN.below hbr).mono hbr.size))
            have hs := lvL_take hf
            have hle := lvL_le2000 HA.out (j + 1)
            have hlj : (ks.take (j + 1)).length ≤ j + 1 := List.length_take_le _ _
            generalize lvL (ks.take j) = s at *
            generalize leavesE f = t at *
            have hw : wrap64 (((1 + s : Nat) : Int) + (t : Int)) = ((1 + (s + t) : Nat) : Int) := by unfold wrap64; omega
            have HH := Lib.hid (And.intro hs (And.intro hbr (And.intro hwr' hw)))
            clear hs hle hlj bb hbr hwr' hN hr hbl d0 d1 d2 hb hf hw hrf hsz
            go_wp2_with fail
            rw [HH.out.2.2.1]
            refine hC.out.mono ?_
            rintro r w2 ⟨rfl, hb2⟩
            have HB2 := Lib.hid (HH.out.2.1.trans (hb2.mono HH.out.2.1.size))
            clear hb2
            go_wp2_with fail
            go_roundw
            case rel =>
              refine ⟨j + 1, by go_num, by omega, ?_, HB2.out⟩
              rw [HH.out.1]
              have := HH.out.2.2.2
              first
                | (rw [← this]; simp)
                | (simp at this ⊢; omega)
            case measure => simp [RowKit.intOf]; omega
          · obtain rfl : j = k := by omega
            have i1 : ¬ (j : Int) < (j : Int) := by omega
            have ht : ks.take j = ks := by rw [← HN.out, List.take_length]
            rw [ht]
            have HB2 := Lib.hid hb
            clear hb ht
            obtain ⟨s, hs⟩ : ∃ s, lvL ks = s := ⟨_, rfl⟩
            rw [hs]
            have HS := Lib.hid hs
            clear hs
            by_cases h1000 : 1000 < 1 + s
            · have h1 : (1000 : Int) < ((1 + s : Nat) : Int) := by omega
              have : R = 7 := by rw [← HR.out]; unfold faultL; rw [if_neg (by rw [HN.out]; exact h40), if_neg (by rw [HA.out]; simp), if_pos (by rw [HS.out]; exact h1000)]
              subst this
              go_wp2_with fail
              go_ret
              exact ⟨rfl, HB2.out⟩
            · have h1 : ¬ (1000 : Int) < ((1 + s : Nat) : Int) := by omega
              have : R = 0 := by rw [← HR.out]; unfold faultL; rw [if_neg (by rw [HN.out]; exact h40), if_neg (by rw [HA.out]; simp), if_neg (by rw [HS.out]; exact h1000)]
              subst this
              go_wp2_with fail
              go_ret
              exact ⟨rfl, HB2.out⟩
end Go.Proofs.YtlbcicoppglgjaaDoor
