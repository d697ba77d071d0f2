/-
  RangesJoin: of any two lists, right or not, what is in one of them, in both, in the first one alone, and in neither. The walk of the law.
-/
import Derived.Test.YtimiinnnmdcmhaaDoorHx4
import Derived.Test.YtimiinnnmdcmhaaDoorGat
import Derived.Test.YtimiinnnmdcmhaaDoorPrW
namespace Go.Proofs.YtimiinnnmdcmhaaDoor
open Go.RowKit Go.Shelf
open Go.Lib

theorem notK_sp (A : Option Addr) (c : Nat) (xs : List Rng) (w : World) (h : SW w A c xs) (hl : xs.length ≤ 1000000) :
    Calls Tryd.prog 50 #[.slice A xs.length c] w (SP (norm (notR (known xs))) w) := by
  refine (not_any A c xs w h.r h.f hl).mono ?_
  rintro e w' ⟨out, ho, hh, hol, hH⟩
  exact sp_norm hH ho hh
theorem cutK_sp (A : Option Addr) (c : Nat) (xs : List Rng) (A' : Option Addr) (c' : Nat) (ys : List Rng) (w : World) (h : SW w A c xs) (h' : SW w A' c' ys) (hl : xs.length ≤ 1000000) (hl' : ys.length ≤ 1000000) :
    Calls Tryd.prog 46 #[.slice A xs.length c, .slice A' ys.length c'] w (SP (norm (cutR (known xs) (known ys))) w) := by
  refine (cut_any A c xs A' c' ys w h.r h.f h'.r h'.f hl hl').mono ?_
  rintro e w' ⟨out, ho, hh, hol, hH⟩
  exact sp_norm hH ho hh
theorem minusK_sp (A : Option Addr) (c : Nat) (xs : List Rng) (A' : Option Addr) (c' : Nat) (ys : List Rng) (w : World) (h : SW w A c xs) (h' : SW w A' c' ys) (hl : xs.length ≤ 500000) (hl' : ys.length ≤ 500000) :
    Calls Tryd.prog 48 #[.slice A xs.length c, .slice A' ys.length c'] w (SP (norm (minusR (known xs) (known ys))) w) := by
  refine (minus_any A c xs A' c' ys w h.r h.f h'.r h'.f hl hl').mono ?_
  rintro e w' ⟨out, ho, hh, hol, hH⟩
  exact sp_norm hH ho hh
theorem unionK_sp (b : Nat) (A : Option Addr) (c : Nat) (xs : List Rng) (A' : Option Addr) (c' : Nat) (ys : List Rng) (w : World) (hb : b < w.heap.size) (h0 : w.cell? ⟨b, 0, none⟩ = some (.slice A xs.length c)) (h1 : w.cell? ⟨b, 1, none⟩ = some (.slice A' ys.length c'))
    (h : SW w A c xs) (h' : SW w A' c' ys) (hl : xs.length ≤ 100000) (hl' : ys.length ≤ 100000) :
    Calls Tryd.prog 44 #[.slice (some ⟨b, 0, none⟩) 2 2] w (SP (norm (orR (known xs) (known ys))) w) := by
  have C : Calls Tryd.prog 44 #[.slice (some ⟨b, 0, none⟩) 2 2] w _ := union_any (some ⟨b, 0, none⟩) 2 [(A, c, xs), (A', c', ys)] w ⟨fun _ => ⟨b, 0, rfl, hb, fun i s hs => by
    match i, hs with
    | 0, hs => simp at hs; subst hs; exact h0
    | 1, hs => simp at hs; subst hs; exact h1
    | i + 2, hs => simp at hs⟩, fun s hs => by
      simp at hs
      rcases hs with rfl | rfl
      · exact ⟨h.r, h.f, hl⟩
      · exact ⟨h'.r, h'.f, hl'⟩⟩ (by simp)
  refine C.mono ?_
  rintro e w' ⟨out, ho, hh, hol, hH⟩
  exact sp_norm hH ho fun r => by rw [hh r]; simp [orR]
theorem is_sp (A : Option Addr) (c : Nat) (A' : Option Addr) (c' : Nat) (xs : List Rng) (w : World) (h : SW w A c xs) (h' : SW w A' c' xs) :
    Calls Tryd.prog 35 #[.slice A xs.length c, .slice A' xs.length c'] w fun e w' => e = .returned (.bool true) ∧ Below w.heap.size w w' := by
  have := is_any A c xs A' c' xs w h.r h'.r
  rwa [show decide (xs = xs) = true by simp] at this

set_option maxHeartbeats 8000000 in
set_option maxRecDepth 100000 in
theorem rjoin_walk (A1 : Option Addr) (c1 : Nat) (xs : List Rng) (A2 : Option Addr) (c2 : Nat) (ys : List Rng) (w : World) (hT : TZ w) (h1 : AW w A1 c1 xs) (h2 : AW w A2 c2 ys) :
    Calls Tryd.prog 10 #[.slice A1 xs.length c1, .slice A2 ys.length c2] w fun e w' => e = .returned (.bool true) ∧ Below w.heap.size w w' := by
  have HA := Lib.hid awake2_any
  have HT := Lib.hid hT
  have S1 := Lib.hid h1
  have S2 := Lib.hid h2
  have m1 : xs.length ≤ 9223372036854775807 := by have := h1.r.1; have := h1.r.2.1; unfold maxLen at this; omega
  have m2 : ys.length ≤ 9223372036854775807 := by have := h2.r.1; have := h2.r.2.1; unfold maxLen at this; omega
  clear hT h1 h2
  by_cases hl1 : 20 < xs.length
  · have d1 : (20 : Int) < (xs.length : Int) := by omega
    go_enter Tryd.func10, Tryd.ntmps10
    go_wp2_with fail
    refine (HA.out _ HT.out).mono ?_
    rintro e w1 ⟨rfl, hb⟩
    go_wp2
    go_ret
    exact ⟨rfl, hb⟩
  · have d1 : decide ((20 : Int) < (xs.length : Int)) = false := by simp; omega
    by_cases hl2 : 20 < ys.length
    · have d2 : (20 : Int) < (ys.length : Int) := by omega
      go_enter Tryd.func10, Tryd.ntmps10
      go_wp2_with fail
      refine (HA.out _ HT.out).mono ?_
      rintro e w1 ⟨rfl, hb⟩
      go_wp2
      go_ret
      exact ⟨rfl, hb⟩
    · have d2 : decide ((20 : Int) < (ys.length : Int)) = false := by simp; omega
      have HX := Lib.hid (known_right xs)
      have HY := Lib.hid (known_right ys)
      have lx : (known xs).length ≤ 20 := by have := known_len xs; omega
      have ly : (known ys).length ≤ 20 := by have := known_len ys; omega
      have K1 := Lib.hid (fun W h => known_sp A1 c1 xs W h)
      have K2 := Lib.hid (fun W h => known_sp A2 c2 ys W h)
      have R1 := Lib.hid (fun A c W (h : SW W A c xs) => right_any A c xs W h.r)
      have R2 := Lib.hid (fun A c W (h : AW W A c xs) => rright_any A c xs W h.r)
      have D1 := Lib.hid (fun A c A' c' W (h : SW W A c xs) (h' : SW W A' c' ys) => same_any2 A c xs A' c' ys W h.r h.f h'.r h'.f)
      have U1 := Lib.hid (fun b A c A' c' W hb h0 h1 (h : SW W A c xs) (h' : SW W A' c' ys) => unionK_sp b A c xs A' c' ys W hb h0 h1 h h' (by omega) (by omega))
      have U2 := Lib.hid (fun A c A' c' W (h : SW W A c xs) (h' : SW W A' c' ys) => cutK_sp A c xs A' c' ys W h h' (by omega) (by omega))
      have U3 := Lib.hid (fun A c A' c' W (h : SW W A c xs) (h' : SW W A' c' ys) => minusK_sp A c xs A' c' ys W h h' (by omega) (by omega))
      have U4 := Lib.hid (fun A c W (h : SW W A c xs) => notK_sp A c xs W h (by omega))
      obtain ⟨RX, hRX⟩ : ∃ b, right xs = b := ⟨_, rfl⟩
      rw [hRX] at R1 R2
      clear hRX
      generalize known xs = X at *
      generalize known ys = Y at *
      have T1 := Lib.hid (fun A c W (h : AW W A c X) => rprint_any A c X W h.r (right_mays HX.out) (by omega))
      have T2 := Lib.hid (fun A c W (h : AW W A c Y) => rprint_any A c Y W h.r (right_mays HY.out) (by omega))
      obtain ⟨tx, htx⟩ : ∃ t : ByteArray, (⟨(setText X).toArray⟩ : ByteArray) = t := ⟨_, rfl⟩
      obtain ⟨ty, hty⟩ : ∃ t : ByteArray, (⟨(setText Y).toArray⟩ : ByteArray) = t := ⟨_, rfl⟩
      rw [htx] at T1
      rw [hty] at T2
      have HEQ : Hid ((tx.toList == ty.toList) = decide (X = Y)) := Lib.hid (by
        rw [← htx, ← hty, setText_eq HX.out HY.out, Bool.eq_iff_iff, ByteArray.toList_eq, ByteArray.toList_eq]
        simp)
      obtain ⟨V, hV⟩ : ∃ V, decide (X = Y) = V := ⟨_, rfl⟩
      rw [hV] at HEQ D1
      clear htx hty hV
      go_enter Tryd.func10, Tryd.ntmps10
      go_wp2_with fail
      refine (HA.out _ HT.out).mono ?_
      rintro e w1 ⟨rfl, hb1⟩
      have S1 := Lib.hid (S1.out.below hb1)
      have S2 := Lib.hid (S2.out.below hb1)
      go_wp2_with fail
      refine (to_sp A1 c1 xs _ S1.out (by omega)).mono ?_
      rintro e w2 ⟨A3, c3, rfl, s, hb⟩
      have S1 := Lib.hid (S1.out.below hb)
      have S2 := Lib.hid (S2.out.below hb)
      have X1 := Lib.hid s
      have hb2 := hb1.trans (hb.mono hb1.size)
      clear hb hb1 s
      go_wp2_with fail
      refine (to_sp A2 c2 ys _ S2.out (by omega)).mono ?_
      rintro e w3 ⟨A4, c4, rfl, s, hb⟩
      have S1 := Lib.hid (S1.out.below hb)
      have S2 := Lib.hid (S2.out.below hb)
      have X1 := Lib.hid (X1.out.below hb)
      have X2 := Lib.hid s
      have hb3 := hb2.trans (hb.mono hb2.size)
      clear hb hb2 s
      go_wp2_with fail
      refine (K1.out _ S1.out).mono ?_
      rintro e w4 ⟨A5, c5, rfl, s, hb⟩
      have S1 := Lib.hid (S1.out.below hb)
      have S2 := Lib.hid (S2.out.below hb)
      have X1 := Lib.hid (X1.out.below hb)
      have X2 := Lib.hid (X2.out.below hb)
      have Y1 := Lib.hid s
      have hb4 := hb3.trans (hb.mono hb3.size)
      clear hb hb3 s
      go_wp2_with fail
      refine (K2.out _ S2.out).mono ?_
      rintro e w5 ⟨A6, c6, rfl, s, hb⟩
      have S1 := Lib.hid (S1.out.below hb)
      have S2 := Lib.hid (S2.out.below hb)
      have X1 := Lib.hid (X1.out.below hb)
      have X2 := Lib.hid (X2.out.below hb)
      have Y1 := Lib.hid (Y1.out.below hb)
      have Y2 := Lib.hid s
      have hb5 := hb4.trans (hb.mono hb4.size)
      clear hb hb4 s S2
      go_wp2_with fail
      refine (R1.out _ _ _ X1.out).mono ?_
      rintro e w6 ⟨rfl, hb⟩
      have S1 := Lib.hid (S1.out.below hb)
      have X1 := Lib.hid (X1.out.below hb)
      have X2 := Lib.hid (X2.out.below hb)
      have Y1 := Lib.hid (Y1.out.below hb)
      have Y2 := Lib.hid (Y2.out.below hb)
      have hb6 := hb5.trans (hb.mono hb5.size)
      clear hb hb5
      go_wp2_with fail
      refine (R2.out _ _ _ S1.out).mono ?_
      rintro e w7 ⟨rfl, hb⟩
      have S1 := Lib.hid (S1.out.below hb)
      have X1 := Lib.hid (X1.out.below hb)
      have X2 := Lib.hid (X2.out.below hb)
      have Y1 := Lib.hid (Y1.out.below hb)
      have Y2 := Lib.hid (Y2.out.below hb)
      have hb7 := hb6.trans (hb.mono hb6.size)
      clear hb hb6 S1
      go_wp2_with fail
      refine (D1.out _ _ _ _ _ X1.out X2.out).mono ?_
      rintro e w8 ⟨rfl, hb⟩
      have X1 := Lib.hid (X1.out.below hb)
      have X2 := Lib.hid (X2.out.below hb)
      have Y1 := Lib.hid (Y1.out.below hb)
      have Y2 := Lib.hid (Y2.out.below hb)
      have hb8 := hb7.trans (hb.mono hb7.size)
      clear hb hb7
      go_wp2_with fail
      refine (T1.out _ _ _ Y1.out).mono ?_
      rintro e w9 ⟨rfl, hb⟩
      have X1 := Lib.hid (X1.out.below hb)
      have X2 := Lib.hid (X2.out.below hb)
      have Y1 := Lib.hid (Y1.out.below hb)
      have Y2 := Lib.hid (Y2.out.below hb)
      have hb9 := hb8.trans (hb.mono hb8.size)
      clear hb hb8
      go_wp2_with fail
      refine (T2.out _ _ _ Y2.out).mono ?_
      rintro e w10 ⟨rfl, hb⟩
      have X1 := Lib.hid (X1.out.below hb)
      have X2 := Lib.hid (X2.out.below hb)
      have Y1 := Lib.hid (Y1.out.below hb)
      have Y2 := Lib.hid (Y2.out.below hb)
      have heq := HEQ.out
      have hb10 := hb9.trans (hb.mono hb9.size)
      clear hb hb9
      have hvv : (V != V) = false := by simp
      go_wp2_with fail
      refine (U1.out w10.heap.size A3 c3 A4 c4 _ (by simp) (by simp) (by simp) (X1.out.below (below_new _ _)) (X2.out.below (below_new _ _))).mono ?_
      rintro e w11 ⟨A7, c7, rfl, s, hb⟩
      have hb := (below_new w10 _).trans (hb.mono (below_new w10 _).size)
      have X1 := Lib.hid (X1.out.below hb)
      have X2 := Lib.hid (X2.out.below hb)
      have Y1 := Lib.hid (Y1.out.below hb)
      have Y2 := Lib.hid (Y2.out.below hb)
      have N1 := Lib.hid s
      have hb11 := hb10.trans (hb.mono hb10.size)
      clear hb hb10 s
      go_wp2_with fail
      refine (runion_sp A5 c5 X A6 c6 Y _ Y1.out Y2.out HX.out HY.out (by omega) (by omega)).mono ?_
      rintro e w12 ⟨A8, c8, rfl, s, hb⟩
      have X1 := Lib.hid (X1.out.below hb)
      have X2 := Lib.hid (X2.out.below hb)
      have Y1 := Lib.hid (Y1.out.below hb)
      have Y2 := Lib.hid (Y2.out.below hb)
      have N1 := Lib.hid (N1.out.below hb)
      have N2 := Lib.hid s
      have hb12 := hb11.trans (hb.mono hb11.size)
      clear hb hb11 s
      go_wp2_with fail
      refine (is_sp _ _ _ _ _ _ N1.out N2.out).mono ?_
      rintro e w13 ⟨rfl, hb⟩
      have X1 := Lib.hid (X1.out.below hb)
      have X2 := Lib.hid (X2.out.below hb)
      have Y1 := Lib.hid (Y1.out.below hb)
      have Y2 := Lib.hid (Y2.out.below hb)
      have N1 := Lib.hid (N1.out.below hb)
      have N2 := Lib.hid (N2.out.below hb)
      have hb13 := hb12.trans (hb.mono hb12.size)
      clear hb hb12 N1 N2
      go_wp2_with fail
      refine (U2.out _ _ _ _ _ X1.out X2.out).mono ?_
      rintro e w14 ⟨A9, c9, rfl, s, hb⟩
      have X1 := Lib.hid (X1.out.below hb)
      have X2 := Lib.hid (X2.out.below hb)
      have Y1 := Lib.hid (Y1.out.below hb)
      have Y2 := Lib.hid (Y2.out.below hb)
      have N1 := Lib.hid s
      have hb14 := hb13.trans (hb.mono hb13.size)
      clear hb hb13 s
      go_wp2_with fail
      refine (rcut_sp A5 c5 X A6 c6 Y _ Y1.out Y2.out HX.out HY.out (by omega) (by omega)).mono ?_
      rintro e w15 ⟨A10, c10, rfl, s, hb⟩
      have X1 := Lib.hid (X1.out.below hb)
      have X2 := Lib.hid (X2.out.below hb)
      have Y1 := Lib.hid (Y1.out.below hb)
      have Y2 := Lib.hid (Y2.out.below hb)
      have N1 := Lib.hid (N1.out.below hb)
      have N2 := Lib.hid s
      have hb15 := hb14.trans (hb.mono hb14.size)
      clear hb hb14 s
      go_wp2_with fail
      refine (is_sp _ _ _ _ _ _ N1.out N2.out).mono ?_
      rintro e w16 ⟨rfl, hb⟩
      have X1 := Lib.hid (X1.out.below hb)
      have X2 := Lib.hid (X2.out.below hb)
      have Y1 := Lib.hid (Y1.out.below hb)
      have Y2 := Lib.hid (Y2.out.below hb)
      have N1 := Lib.hid (N1.out.below hb)
      have N2 := Lib.hid (N2.out.below hb)
      have hb16 := hb15.trans (hb.mono hb15.size)
      clear hb hb15 N1 N2
      go_wp2_with fail
      refine (U3.out _ _ _ _ _ X1.out X2.out).mono ?_
      rintro e w17 ⟨A11, c11, rfl, s, hb⟩
      have X1 := Lib.hid (X1.out.below hb)
      have X2 := Lib.hid (X2.out.below hb)
      have Y1 := Lib.hid (Y1.out.below hb)
      have Y2 := Lib.hid (Y2.out.below hb)
      have N1 := Lib.hid s
      have hb17 := hb16.trans (hb.mono hb16.size)
      clear hb hb16 s
      go_wp2_with fail
      refine (rminus_sp A5 c5 X A6 c6 Y _ Y1.out Y2.out HX.out HY.out (by omega) (by omega)).mono ?_
      rintro e w18 ⟨A12, c12, rfl, s, hb⟩
      have X1 := Lib.hid (X1.out.below hb)
      have X2 := Lib.hid (X2.out.below hb)
      have Y1 := Lib.hid (Y1.out.below hb)
      have Y2 := Lib.hid (Y2.out.below hb)
      have N1 := Lib.hid (N1.out.below hb)
      have N2 := Lib.hid s
      have hb18 := hb17.trans (hb.mono hb17.size)
      clear hb hb17 s
      go_wp2_with fail
      refine (is_sp _ _ _ _ _ _ N1.out N2.out).mono ?_
      rintro e w19 ⟨rfl, hb⟩
      have X1 := Lib.hid (X1.out.below hb)
      have X2 := Lib.hid (X2.out.below hb)
      have Y1 := Lib.hid (Y1.out.below hb)
      have Y2 := Lib.hid (Y2.out.below hb)
      have N1 := Lib.hid (N1.out.below hb)
      have N2 := Lib.hid (N2.out.below hb)
      have hb19 := hb18.trans (hb.mono hb18.size)
      clear hb hb18 N1 N2
      go_wp2_with fail
      refine (U4.out _ _ _ X1.out).mono ?_
      rintro e w20 ⟨A13, c13, rfl, s, hb⟩
      have X1 := Lib.hid (X1.out.below hb)
      have X2 := Lib.hid (X2.out.below hb)
      have Y1 := Lib.hid (Y1.out.below hb)
      have Y2 := Lib.hid (Y2.out.below hb)
      have N1 := Lib.hid s
      have hb20 := hb19.trans (hb.mono hb19.size)
      clear hb hb19 s
      go_wp2_with fail
      refine (rnot_sp A5 c5 X _ Y1.out HX.out (by omega)).mono ?_
      rintro e w21 ⟨A14, c14, rfl, s, hb⟩
      have X1 := Lib.hid (X1.out.below hb)
      have X2 := Lib.hid (X2.out.below hb)
      have Y1 := Lib.hid (Y1.out.below hb)
      have Y2 := Lib.hid (Y2.out.below hb)
      have N1 := Lib.hid (N1.out.below hb)
      have N2 := Lib.hid s
      have hb21 := hb20.trans (hb.mono hb20.size)
      clear hb hb20 s
      go_wp2_with fail
      refine (is_sp _ _ _ _ _ _ N1.out N2.out).mono ?_
      rintro e w22 ⟨rfl, hb⟩
      have X1 := Lib.hid (X1.out.below hb)
      have X2 := Lib.hid (X2.out.below hb)
      have Y1 := Lib.hid (Y1.out.below hb)
      have Y2 := Lib.hid (Y2.out.below hb)
      have N1 := Lib.hid (N1.out.below hb)
      have N2 := Lib.hid (N2.out.below hb)
      have hb22 := hb21.trans (hb.mono hb21.size)
      clear hb hb21 N1 N2
      go_wp2
      go_ret
      exact ⟨rfl, hb22⟩
end Go.Proofs.YtimiinnnmdcmhaaDoor
