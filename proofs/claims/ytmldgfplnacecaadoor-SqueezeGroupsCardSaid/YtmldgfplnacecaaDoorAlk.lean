/-
  Contract: the document's alike.
-/
import Derived.BigQuiet
import Derived.Test.YtmldgfplnacecaaDoorSqn
import Derived.Test.YtmldgfplnacecaaDoorRrt
namespace Go.Proofs.YtmldgfplnacecaaDoor
open Go.RowKit Go.Shelf Go.Lib Go.Maps Go.Sort

theorem alike_take {L : List Tab} {k : Nat} {t : Tab} (h : L[k]? = some t) (a b : Nat) : alikeB (L.take (k + 1)) a b = (alikeB (L.take k) a b && (!rightT t.1 t.2 || t.1.all fun r => decide (r.getD a 0 = r.getD b 0))) := allT_take _ h
set_option maxHeartbeats 8000000 in
set_option maxRecDepth 100000 in
theorem alike_any (L : List Tab) (A : Option Addr) (cap : Nat) (a b : Nat) (ha : a < 37) (hb : b < 37) (w : World) (h : DsAt w w.heap.size L A) (hl : L.length ≤ 100) (hcap : L.length ≤ cap) :
    Calls Tryd.prog 67 #[.slice A L.length cap, .int .i64 (a : Int), .int .i64 (b : Int)] w fun r w' => r = .returned (.bool (alikeB L a b)) ∧ Below w.heap.size w w' := by
  obtain ⟨N, hN⟩ : ∃ N, L.length = N := ⟨_, rfl⟩
  obtain ⟨X, hX⟩ : ∃ X, alikeB L a b = X := ⟨_, rfl⟩
  have hmiss : ∀ (k : Nat) (t : Tab), L[k]? = some t → (!rightT t.1 t.2 || t.1.all fun r => decide (r.getD a 0 = r.getD b 0)) = false → X = false := fun k t h1 h2 => by
    rw [← hX]; exact allT_miss h1 h2
  have htk : ∀ (k : Nat) (t : Tab), L[k]? = some t → alikeB (L.take k) a b = true → (!rightT t.1 t.2 || t.1.all fun r => decide (r.getD a 0 = r.getD b 0)) = true → alikeB (L.take (k + 1)) a b = true := fun k t h1 h2 h3 => by
    rw [alike_take h1, h2, h3]; rfl
  have hend : alikeB (L.take N) a b = true → X = true := fun h => by rw [← hN, List.take_length, hX] at h; exact h
  have h00 : alikeB (L.take 0) a b = true := by rfl
  have H := Lib.hid (And.intro h (And.intro hN (And.intro hmiss (And.intro htk (And.intro hend h00)))))
  rw [hN] at hl hcap
  rw [hN, hX]
  clear h hN hX hmiss htk hend h00
  have a37 : (a : Int) < 37 := by omega
  have b37 : (b : Int) < 37 := by omega
  go_enter Tryd.func67, Tryd.ntmps67
  go_wp2_with fail
  go_loopw [7, 8] (fun i _ wr => ∃ k : Nat, i = .int .i64 (k : Int) ∧ k ≤ N ∧ Below w.heap.size w wr ∧ alikeB (L.take k) a b = true) (fun i _ _ => N - (RowKit.intOf i).toNat)
  case atStart => exact ⟨0, rfl, by omega, Below.refl _ _, H.out.2.2.2.2.2⟩
  case round =>
    obtain ⟨wo, rfl⟩ : ∃ wo : World, wo = wr := ⟨_, rfl⟩
    obtain ⟨k, rfl, hk, hbw, hall⟩ := hrel
    by_cases hlt : k < N
    · have i1 : (k : Int) < (N : Int) := by omega
      obtain ⟨t, ht⟩ : ∃ t, L[k]? = some t := ⟨L[k]'(by rw [H.out.2.1]; exact hlt), List.getElem?_eq_getElem _⟩
      obtain ⟨b0, o, A1, c1, A2, c2, rfl, hbl, h2, h3, h4, h5⟩ := H.out.1 k t ht
      have d0 := (hbw.cell (p := ⟨b0, o + k * 2, none⟩) hbl).trans h2
      have d1 := (hbw.cell (p := ⟨b0, o + k * 2 + 1, none⟩) hbl).trans h3
      have hms := H.out.2.2.1 k t ht
      have htk := H.out.2.2.2.1 k t ht hall
      obtain ⟨R, T⟩ := t
      simp only at h2 h3 h4 h5 d0 d1 hms htk
      obtain ⟨n, hn⟩ : ∃ n, R.length = n := ⟨_, rfl⟩
      obtain ⟨n2, hn2⟩ : ∃ n, T.length = n := ⟨_, rfl⟩
      have hT : TbV wo R T (.agg #[.slice A1 n c1, .slice A2 n2 c2]) := ⟨A1, c1, A2, c2, by rw [hn, hn2], (h4.below hbw).mono hbw.size, (h5.below hbw).mono hbw.size⟩
      have D := refRightD_any hT
      have HK := Lib.hid (And.intro hT (And.intro hbw (And.intro hms (And.intro htk (And.intro h2 (And.intro h3 (And.intro h4 hn)))))))
      have HD := Lib.hid D
      rw [hn] at d0
      rw [hn2] at d1
      clear hT hbw hms htk h2 h3 h4 h5 D hall ht hn hn2
      go_wp2_with fail
      refine HD.out.mono ?_
      rintro r w2 ⟨rfl, hb2⟩
      have bb := HK.out.2.1.trans (hb2.mono HK.out.2.1.size)
      cases hq : rightT R T with
      | false =>
        have hen : ∃ k' : Nat, Value.int .i64 ((k : Int) + 1) = .int .i64 (k' : Int) ∧ k' ≤ N ∧ Below w.heap.size w w2 ∧ alikeB (L.take k') a b = true := ⟨k + 1, by simp, by omega, bb, HK.out.2.2.2.1 (by rw [hq]; rfl)⟩
        have HEND := Lib.hid hen
        clear hen hb2 bb d0 d1 hq
        go_wp2_with fail
        go_roundw
        case rel => exact HEND.out
        case measure => simp [RowKit.intOf]; omega
      | true =>
        have rp := right_parts hq
        have HR := Lib.hid (And.intro rp (And.intro hq bb))
        have hn1000 : n ≤ 1000 := by have := rp.2.1; rw [HK.out.2.2.2.2.2.2.2] at this; exact this
        clear hb2 bb d0 d1 hq rp
        go_wp2_with fail
        go_loopw [8] (fun i wi => ∃ j : Nat, i = .int .i64 (j : Int) ∧ j ≤ n ∧ Below w.heap.size w wi ∧ ((R.take j).all fun r => decide (r.getD a 0 = r.getD b 0)) = true) (fun i _ => n - (RowKit.intOf i).toNat)
        case atStart => exact ⟨0, rfl, by omega, HR.out.2.2, rfl⟩
        case round =>
          obtain ⟨j, rfl, hj, hbi, hall⟩ := hrel
          have d0 := (hbi.cell (p := ⟨b0, o + k * 2, none⟩) hbl).trans HK.out.2.2.2.2.1
          rw [HK.out.2.2.2.2.2.2.2] at d0
          by_cases hlt2 : j < n
          · have i2 : (j : Int) < (n : Int) := by omega
            obtain ⟨r, hr⟩ : ∃ r, R[j]? = some r := ⟨R[j]'(by rw [HK.out.2.2.2.2.2.2.2]; exact hlt2), List.getElem?_eq_getElem _⟩
            have hrl : r.length = 37 := (HR.out.1.2.2.2 _ _ hr).1
            obtain ⟨b1, o1, rfl, hbl1, hc1⟩ := HK.out.2.2.2.2.2.2.1.r (by rintro rfl; simp at hr)
            obtain ⟨A', c', q1, his, _⟩ := hc1 j r hr
            have d2 := (hbi.cell (p := ⟨b1, o1 + j, none⟩) hbl1).trans q1
            obtain ⟨x, hx⟩ := list_at (xs := r) (i := a) (by omega)
            obtain ⟨y, hy⟩ := list_at (xs := r) (i := b) (by omega)
            obtain ⟨b2, o2, rfl, hbl2, hc2⟩ := his.r (by rintro rfl; simp at hx)
            have d3 := (hbi.cell (p := ⟨b2, o2 + a, none⟩) hbl2).trans (hc2 a x hx)
            have d4 := (hbi.cell (p := ⟨b2, o2 + b, none⟩) hbl2).trans (hc2 b y hy)
            have hst := allT_take (fun r : List Int => decide (r.getD a 0 = r.getD b 0)) hr
            have hmr : decide (r.getD a 0 = r.getD b 0) = false → R.all (fun r => decide (r.getD a 0 = r.getD b 0)) = false := fun h => allT_miss hr h
            rw [getD_get hx, getD_get hy] at hst hmr
            rw [hrl] at d2
            by_cases hxy : x = y
            · subst hxy
              have e1 : ((x : Int) == x) = true := by simp
              have hen : ∃ j' : Nat, Value.int .i64 ((j : Int) + 1) = .int .i64 (j' : Int) ∧ j' ≤ n ∧ (∀ m, Below w.heap.size w (wr.drewN m)) ∧ ((R.take j').all fun r => decide (r.getD a 0 = r.getD b 0)) = true := ⟨j + 1, by simp, by omega, fun m => below_drewN hbi m, by rw [hst, hall]; simp⟩
              have HEND := Lib.hid hen
              clear hen hall hbi hr hrl hc1 q1 his hx hy hc2 hst hmr
              go_wp2_with fail
              go_quiet (fail)
              rename_i nq _
              go_wp2_with fail
              go_roundw
              case rel => obtain ⟨j', e1, e2, e3, e4⟩ := HEND.out; exact ⟨j', e1, e2, e3 _, e4⟩
              case measure => simp [RowKit.intOf]; omega
            · have e1 : ((x : Int) == y) = false := by simpa using hxy
              have hX : X = false := HK.out.2.2.1 (by rw [HR.out.2.1, hmr (by simpa using hxy)]; rfl)
              have HB := Lib.hid (And.intro hbi hX)
              clear hall hbi hr hrl hc1 q1 his hx hy hc2 hst hmr hxy hX
              go_wp2_with fail
              go_quiet (fail)
              rename_i nq _
              go_wp2_with fail
              go_ret
              exact ⟨by rw [HB.out.2]; rfl, below_drewN HB.out.1 _⟩
          · obtain rfl : j = n := by omega
            have i2 : ¬ (j : Int) < (j : Int) := by omega
            rw [show R.take j = R by rw [← HK.out.2.2.2.2.2.2.2, List.take_length]] at hall
            have hen : ∃ k' : Nat, Value.int .i64 ((k : Int) + 1) = .int .i64 (k' : Int) ∧ k' ≤ N ∧ Below w.heap.size w wr ∧ alikeB (L.take k') a b = true := ⟨k + 1, by simp, by omega, hbi, HK.out.2.2.2.1 (by rw [HR.out.2.1, hall]; rfl)⟩
            have HEND := Lib.hid hen
            clear hen hall hbi
            go_wp2_with fail
            go_roundw
            case rel => exact HEND.out
            case measure => simp [RowKit.intOf]; omega
    · obtain rfl : k = N := by omega
      have i1 : ¬ (k : Int) < (k : Int) := by omega
      have HF := Lib.hid (And.intro hbw (H.out.2.2.2.2.1 hall))
      clear hbw hall
      go_wp2_with fail
      go_ret
      exact ⟨by rw [HF.out.2]; rfl, HF.out.1⟩
end Go.Proofs.YtmldgfplnacecaaDoor
