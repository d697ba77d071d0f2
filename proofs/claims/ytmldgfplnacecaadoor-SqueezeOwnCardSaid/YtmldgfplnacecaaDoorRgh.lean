/-
  Contract: dfa.Right.
-/
import Derived.Test.YtmldgfplnacecaaDoorTbl
import Derived.Sort.Walk7a
namespace Go.Proofs.YtmldgfplnacecaaDoor
open Go.RowKit Go.Shelf Go.Lib Go.Maps Go.Sort


theorem all_okIx {n : Nat} (r : List Int) : (r.all (okIx n)) = !(r.any fun x => !okIx n x) := by
  induction r with
  | nil => rfl
  | cons x t ih => simp [ih]
theorem allT_take {α : Type} {xs : List α} {k : Nat} {x : α} (p : α → Bool) (h : xs[k]? = some x) : (xs.take (k + 1)).all p = ((xs.take k).all p && p x) := by
  rw [List.take_add_one, h, Option.toList_some, List.all_append]
  simp
theorem allT_miss {α : Type} {xs : List α} {k : Nat} {x : α} {p : α → Bool} (h : xs[k]? = some x) (hp : p x = false) : xs.all p = false := by
  rw [List.all_eq_false]
  exact ⟨x, List.mem_of_getElem? h, by simp [hp]⟩
set_option maxHeartbeats 4000000 in
set_option maxRecDepth 100000 in
theorem right_small (A A2 : Option Addr) (n c n2 c2 : Nat) (h63 : n ≤ 9223372036854775807) (_h64 : n2 ≤ 9223372036854775807) (w : World) (h : n < 1 ∨ 1000 < n ∨ n2 ≠ n) :
    Calls Tryd.prog 45 #[.agg #[.slice A n c, .slice A2 n2 c2]] w fun r w' => r = .returned (.bool false) ∧ Below w.heap.size w w' := by
  have bb := Lib.hid (below_new w (.cells #[.slice A n c, .slice A2 n2 c2] 54))
  by_cases h1 : n < 1
  · have i1 : (n : Int) < 1 := by omega
    clear h
    go_enter Tryd.func45, Tryd.ntmps45
    go_wp2_with fail
    go_ret
    exact ⟨rfl, bb.out⟩
  · have i1 : ¬ (n : Int) < 1 := by omega
    have j1 : decide ((n : Int) < 1) = false := by simpa using i1
    by_cases h2 : 1000 < n
    · have i2 : (1000 : Int) < n := by omega
      have j2 : decide ((1000 : Int) < n) = true := by simpa using i2
      clear h
      go_enter Tryd.func45, Tryd.ntmps45
      go_wp2_with fail
      go_ret
      exact ⟨rfl, bb.out⟩
    · have i2 : ¬ (1000 : Int) < n := by omega
      have j2 : decide ((1000 : Int) < n) = false := by simpa using i2
      have i3 : ((n2 : Int) != (n : Int)) = true := by simp; omega
      have i4 : ((n2 : Int) == (n : Int)) = false := by simp; omega
      clear h
      go_enter Tryd.func45, Tryd.ntmps45
      go_wp2_with fail
      go_ret
      exact ⟨rfl, bb.out⟩
set_option maxHeartbeats 4000000 in
set_option maxRecDepth 100000 in
theorem right_big (R : List (List Int)) (A A2 : Option Addr) (c n2 c2 : Nat) (w : World) (hR : RsAt w w.heap.size R A c) (h1 : 1 ≤ R.length) (h2 : R.length ≤ 1000) (h3 : n2 = R.length) :
    Calls Tryd.prog 45 #[.agg #[.slice A R.length c, .slice A2 n2 c2]] w fun r w' => r = .returned (.bool (R.all (rowOk R.length))) ∧ Below w.heap.size w w' := by
  obtain ⟨W0, hW0⟩ : ∃ W, w.alloc (.cells #[.slice A R.length c, .slice A2 n2 c2] 54) = W := ⟨_, rfl⟩
  have b0 : Below w.heap.size w W0 := by rw [← hW0]; exact below_new _ _
  have z0 : W0.heap.size = w.heap.size + 1 := by rw [← hW0]; simp
  have x0 : Cells W0 w.heap.size 54 #[.slice A R.length c, .slice A2 n2 c2] := by rw [← hW0]; exact cells_new _ _ _
  have e0 := x0.cell 0
  have e1 := x0.cell 1
  simp at e0 e1
  obtain ⟨X, hX⟩ : ∃ X, R.all (rowOk R.length) = X := ⟨_, rfl⟩
  obtain ⟨n, hn⟩ : ∃ n, R.length = n := ⟨_, rfl⟩
  subst h3
  rw [hn] at hX x0 hW0 e0 e1 h1 h2 ⊢
  rw [hX]
  have H := Lib.hid (And.intro hR (And.intro hn (And.intro hX (And.intro b0 (And.intro z0 x0)))))
  have HW := Lib.hid hW0
  have i1 : ¬ (n : Int) < 1 := by omega
  have j1 : decide ((n : Int) < 1) = false := by simpa using i1
  have i2 : ¬ (1000 : Int) < n := by omega
  have j2 : decide ((1000 : Int) < n) = false := by simpa using i2
  have i3 : ((n : Int) != (n : Int)) = false := by simp
  clear hR hn hX b0 z0 x0 hW0 h1
  go_enter Tryd.func45, Tryd.ntmps45
  go_wp2_with fail
  rw [HW.out]
  go_loopw [27] (fun i wr => ∃ k : Nat, i = .int .i64 (k : Int) ∧ k ≤ n ∧ (R.take k).all (rowOk n) = true ∧ Below W0.heap.size W0 wr) (fun i _ => n - (RowKit.intOf i).toNat)
  case atStart => exact ⟨0, rfl, by omega, rfl, Below.refl _ _⟩
  case round =>
    obtain ⟨k, rfl, hk, hall, hb⟩ := hrel
    by_cases hlt : k < n
    · have i5 : (k : Int) < (n : Int) := by omega
      obtain ⟨x, hx⟩ : ∃ x, R[k]? = some x := ⟨R[k]'(by rw [H.out.2.1]; exact hlt), List.getElem?_eq_getElem _⟩
      obtain ⟨b, o, rfl, hbl, hc⟩ := H.out.1.r (by rintro rfl; simp at hx)
      obtain ⟨A', c', d0, his, _⟩ := hc k x hx
      have bw : Below w.heap.size w wr := H.out.2.2.2.1.trans (hb.mono H.out.2.2.2.1.size)
      have d1 := (bw.cell (p := ⟨b, o + k, none⟩) hbl).trans d0
      have his' := (his.below bw).mono bw.size
      have C := contains_any (some ⟨b, o, none⟩) A2 n c n c2 w.heap.size (by omega) x A' c' wr ((hb.block _ (by have := H.out.2.2.2.2.1; omega)).trans H.out.2.2.2.2.2) his'
      have hrow : rowOk n x = (decide (x.length = 37) && !(x.any fun y => !okIx n y)) := by unfold rowOk; rw [all_okIx]
      have ht := allT_take (rowOk n) hx
      have hm := fun hp => allT_miss (p := rowOk n) hx hp
      rw [hall, hrow] at ht
      rw [hrow] at hm
      have hxl : x.length ≤ 9223372036854775807 := by have := his.l; have := his.m; unfold maxLen at this; omega
      obtain ⟨l, hl⟩ : ∃ l, x.length = l := ⟨_, rfl⟩
      rw [hl] at C d1 ht hm hxl
      generalize (x.any fun y => !okIx n y) = p at *
      have HC := Lib.hid C
      have HK := Lib.hid (And.intro ht (And.intro hm (And.intro hb bw)))
      clear C ht hm hb bw hall hx hc d0 his his' hrow hl
      by_cases h37 : l = 37
      · have i6 : ((l : Int) != 37) = false := by simp; omega
        have i7 : ((l : Int) == 37) = true := by simp; omega
        have HL := Lib.hid h37
        clear h37
        cases p
        · go_wp2_with fail
          refine HC.out.mono ?_
          rintro r w2 ⟨rfl, hb2⟩
          have HB2 := Lib.hid (HK.out.2.2.1.trans (hb2.mono HK.out.2.2.1.size))
          clear hb2
          go_wp2_with fail
          go_roundw
          case rel => exact ⟨k + 1, by go_num, by omega, by rw [HK.out.1, HL.out]; rfl, HB2.out⟩
          case measure => simp [RowKit.intOf]; omega
        · go_wp2_with fail
          refine HC.out.mono ?_
          rintro r w2 ⟨rfl, hb2⟩
          have HB2 := Lib.hid (HK.out.2.2.2.trans (hb2.mono HK.out.2.2.2.size))
          clear hb2
          go_wp2_with fail
          go_ret
          exact ⟨ret_bool (by rw [← H.out.2.2.1]; exact (HK.out.2.1 (by rw [HL.out]; rfl)).symm), HB2.out⟩
      · have i6 : ((l : Int) != 37) = true := by simp; omega
        have i7 : ((l : Int) == 37) = false := by simp; omega
        have HL := Lib.hid h37
        clear h37
        go_wp2_with fail
        go_ret
        exact ⟨ret_bool (by rw [← H.out.2.2.1]; exact (HK.out.2.1 (by simp [HL.out])).symm), HK.out.2.2.2⟩
    · obtain rfl : k = n := by omega
      have i5 : ¬ (k : Int) < (k : Int) := by omega
      have e1 : R.take k = R := by rw [← H.out.2.1, List.take_length]
      rw [e1] at hall
      have bw : Below w.heap.size w wr := H.out.2.2.2.1.trans (hb.mono H.out.2.2.2.1.size)
      have HB := Lib.hid (And.intro hall bw)
      clear e1 hall hb bw
      go_wp2_with fail
      go_ret
      exact ⟨ret_bool (by rw [← H.out.2.2.1]; exact HB.out.1.symm), HB.out.2⟩
theorem rightD_any {R : List (List Int)} {T : List Nat} {v : Value} {w : World} (h : TbV w R T v) : Calls Tryd.prog 45 #[v] w fun r w' => r = .returned (.bool (rightT R T)) ∧ Below w.heap.size w w' := by
  obtain ⟨A, c, A2, c2, rfl, hR, hT⟩ := h
  have n1 : R.length ≤ 9223372036854775807 := by have := hR.l; have := hR.m; unfold maxLen at this; omega
  have n2 : T.length ≤ 9223372036854775807 := by have := hT.l; have := hT.m; unfold maxLen at this; omega
  by_cases hs : R.length < 1 ∨ 1000 < R.length ∨ T.length ≠ R.length
  · have : rightT R T = false := by
      unfold rightT
      rcases hs with h | h | h
      · simp [show ¬ 1 ≤ R.length by omega]
      · simp [show ¬ R.length ≤ 1000 by omega]
      · simp [h]
    rw [this]
    exact right_small A A2 R.length c T.length c2 n1 n2 w hs
  · have : rightT R T = R.all (rowOk R.length) := by
      unfold rightT
      simp [show 1 ≤ R.length by omega, show R.length ≤ 1000 by omega, show T.length = R.length by omega]
    rw [this]
    exact right_big R A A2 c T.length c2 w hR (by omega) (by omega) (by omega)
end Go.Proofs.YtmldgfplnacecaaDoor
