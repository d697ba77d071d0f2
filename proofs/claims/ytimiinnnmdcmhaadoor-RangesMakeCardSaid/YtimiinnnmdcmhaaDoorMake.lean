/-
  RangesMake: of any ranges the right set of their numbers, or why there is none. The walk of the law.
-/
import Derived.Test.YtimiinnnmdcmhaaDoorHx4
import Derived.Test.YtimiinnnmdcmhaaDoorGat
namespace Go.Proofs.YtimiinnnmdcmhaaDoor
open Go.RowKit Go.Shelf
open Go.Lib

theorem count_take {xs : List Rng} (h : right xs = true) (k : Nat) : 0 ≤ countR (xs.take k) ∧ countR (xs.take k) ≤ 1114112 := by
  have hr : right (xs.take k) = true := rightFrom_take h k
  have := countR_bound hr
  have h2 := (right_len (b := -1) hr (by omega)).2.2
  omega
theorem has_any2 (A : Option Addr) (c : Nat) (xs : List Rng) (r : Int) (h0 : -2147483648 ≤ r) (h1 : r ≤ 2147483647) (w : World) (h : SW w A c xs) (hr : right xs = true) :
    Calls Tryd.prog 37 #[.slice A xs.length c, .int .i32 r] w fun e w' => e = .returned (.bool (hasR xs r)) ∧ Below w.heap.size w w' := by
  have := has_any A c xs r h0 h1 w h.r
  rwa [known_of hr] at this

set_option maxHeartbeats 8000000 in
set_option maxRecDepth 100000 in
theorem make_walk (A : Option Addr) (cap : Nat) (xs : List Rng) (r : Int) (h0 : -2147483648 ≤ r) (h1 : r ≤ 2147483647) (w : World) (hT : TZ w) (h : AW w A cap xs) :
    Calls Tryd.prog 9 #[.slice A xs.length cap, .int .i32 r] w fun e w' => e = .returned (.bool true) ∧ Below w.heap.size w w' := by
  have HA := Lib.hid (awake2_any w hT)
  have H := Lib.hid h
  have m1 : xs.length ≤ 9223372036854775807 := by have := h.r.1; have := h.r.2.1; unfold maxLen at this; omega
  obtain ⟨n, hn⟩ : ∃ n, xs.length = n := ⟨_, rfl⟩
  have HN := Lib.hid hn
  rw [hn] at m1 ⊢
  clear hT h hn
  by_cases hl : 30 < n
  · have d1 : (30 : Int) < (n : Int) := by omega
    go_enter Tryd.func9, Tryd.ntmps9
    go_wp2_with fail
    refine HA.out.mono ?_
    rintro e w1 ⟨rfl, hb⟩
    go_wp2
    go_ret
    exact ⟨rfl, hb⟩
  · have d1 : decide ((30 : Int) < (n : Int)) = false := by simp; omega
    obtain ⟨M, hM⟩ : ∃ M, xs.all may = M := ⟨_, rfl⟩
    have C1 := Lib.hid (fun W (h : AW W A cap xs) => to_sp A cap xs W h (by have := HN.out; omega))
    rw [HN.out] at C1
    have CM := Lib.hid mayr_any
    have HM := Lib.hid hM
    clear hM
    go_enter Tryd.func9, Tryd.ntmps9
    go_wp2_with fail
    refine HA.out.mono ?_
    rintro e w1 ⟨rfl, hb1⟩
    have H := Lib.hid (H.out.below hb1)
    go_wp2_with fail
    refine (C1.out _ H.out).mono ?_
    rintro e w2 ⟨A2, c2, rfl, hS, hb⟩
    have H := Lib.hid (H.out.below hb)
    have hb2 := hb1.trans (hb.mono hb1.size)
    clear hb hb1
    cases M
    · have C2 := make_bad A2 c2 xs w2 hS (by have := HN.out; omega) HM.out
      have C2 := Lib.hid C2
      clear hS
      go_wp2_with fail
      refine C2.out.mono ?_
      rintro e w3 ⟨rfl, hb⟩
      have H := Lib.hid (H.out.below hb)
      have hb3 := hb2.trans (hb.mono hb2.size)
      clear hb hb2 C2
      go_wp2_with fail
      go_loopw [7] (fun i wr => ∃ k : Nat, i = .int .i64 k ∧ k ≤ n ∧ (xs.take k).all may = true ∧ Below w3.heap.size w3 wr) (fun i _ => n - (RowKit.intOf i).toNat)
      case atStart => exact ⟨0, rfl, Nat.zero_le _, rfl, Below.refl _ _⟩
      case round =>
        obtain ⟨k, rfl, hk, hr, hb⟩ := hrel
        have HR := Lib.hid hr
        clear hr
        by_cases hlt : k < n
        · obtain ⟨x, hx⟩ : ∃ x, xs[k]? = some x := ⟨xs[k]'(by have := HN.out; omega), List.getElem?_eq_getElem _⟩
          obtain ⟨b, o, rfl, hbl, hRg⟩ := H.out.r.2.2.2 (by intro e; rw [e] at hx; simp at hx)
          obtain ⟨q1, q2⟩ := (hRg.below hbl hb) k x hx
          have hix := H.out.r.i32 hx
          have HS := Lib.hid (all_step xs k x hx)
          clear hRg hx
          obtain ⟨lo, hi'⟩ := x
          have i1 : (k : Int) < (n : Int) := by omega
          have C2 := Lib.hid (CM.out lo hi' hix)
          obtain ⟨Z, hZ⟩ : ∃ Z, may (lo, hi') = Z := ⟨_, rfl⟩
          rw [hZ] at C2
          go_wp2_with fail
          refine (C2.out _).mono ?_
          rintro e w4 ⟨rfl, hb4⟩
          have hbz := hb.trans (hb4.mono hb.size)
          clear hb hb4
          cases Z
          · go_wp2
            go_ret
            exact ⟨rfl, hb3.trans (hbz.mono hb3.size)⟩
          · go_wp2
            go_roundw
            case rel => exact ⟨k + 1, by go_num, by omega, by rw [HS.out, HR.out, hZ]; rfl, hbz⟩
            case measure => simp [RowKit.intOf]; omega
        · have hkn : k = n := by omega
          have h := HR.out
          rw [hkn, ← HN.out, List.take_length, HM.out] at h
          cases h
    · have HMy : Hid (∀ x ∈ xs, may x = true) := Lib.hid fun x hx => List.all_eq_true.1 HM.out x hx
      have C2 := make_ok A2 c2 xs w2 hS (by have := HN.out; omega) HM.out
      have hnr := norm_right (hasR xs)
      have C3 := Lib.hid (fun W (h : AW W A cap xs) => rmake_sp A cap xs W h HMy.out (by have := HN.out; omega))
      have C9 := Lib.hid (fun W (h : RS W W.heap.size A cap xs) => in_any A cap xs r h0 h1 W h)
      obtain ⟨V, hV⟩ : ∃ V, hasR xs r = V := ⟨_, rfl⟩
      have HV := Lib.hid hV
      rw [hV] at C9
      rw [HN.out] at C3 C9
      generalize norm (hasR xs) = ws at *
      have C2 := Lib.hid C2
      have HWR := Lib.hid hnr
      clear hS hV hnr
      go_wp2_with fail
      refine C2.out.mono ?_
      rintro e w3 ⟨A3, c3, rfl, hS, hwl, hwh, hb⟩
      have H := Lib.hid (H.out.below hb)
      have hb3 := hb2.trans (hb.mono hb2.size)
      have HS := Lib.hid hS
      have HWL := Lib.hid hwl
      have HWH := Lib.hid hwh
      clear hb hb2 C2 hS hwl hwh
      go_wp2_with fail
      go_loopw [7] (fun i wr => ∃ k : Nat, i = .int .i64 k ∧ k ≤ n ∧ Below w3.heap.size w3 wr) (fun i _ => n - (RowKit.intOf i).toNat)
      case atStart => exact ⟨0, rfl, Nat.zero_le _, Below.refl _ _⟩
      case round =>
        obtain ⟨k, rfl, hk, hb⟩ := hrel
        by_cases hlt : k < n
        · obtain ⟨x, hx⟩ : ∃ x, xs[k]? = some x := ⟨xs[k]'(by have := HN.out; omega), List.getElem?_eq_getElem _⟩
          obtain ⟨b, o, rfl, hbl, hRg⟩ := H.out.r.2.2.2 (by intro e; rw [e] at hx; simp at hx)
          obtain ⟨q1, q2⟩ := (hRg.below hbl hb) k x hx
          have hix := H.out.r.i32 hx
          have hZ := HMy.out x (List.mem_of_getElem? hx)
          clear hRg hx
          obtain ⟨lo, hi'⟩ := x
          have i1 : (k : Int) < (n : Int) := by omega
          have C2 := CM.out lo hi' hix
          rw [hZ] at C2
          have C2 := Lib.hid C2
          clear hZ
          go_wp2_with fail
          refine (C2.out _).mono ?_
          rintro e w4 ⟨rfl, hb4⟩
          have hbz := hb.trans (hb4.mono hb.size)
          clear hb hb4
          go_wp2
          go_roundw
          case rel => exact ⟨k + 1, by go_num, by omega, hbz⟩
          case measure => simp [RowKit.intOf]; omega
        · have hkn : k = n := by omega
          subst hkn
          have HS := Lib.hid (HS.out.below hb)
          have H := Lib.hid (H.out.below hb)
          have hb4 := hb3.trans (hb.mono hb3.size)
          clear hb hb3
          go_wp2_with fail
          refine (C3.out _ H.out).mono ?_
          rintro e w5 ⟨⟨A5, c5, rfl, hS5, hb⟩, hl5⟩
          have HS := Lib.hid (HS.out.below hb)
          have H := Lib.hid (H.out.below hb)
          have hb5 := hb4.trans (hb.mono hb4.size)
          have HS5 := Lib.hid hS5
          have HWC := Lib.hid (fun j => count_take HWR.out j)
          have HWS := Lib.hid (fun j x h => countR_step ws j x h)
          obtain ⟨L, hL⟩ : ∃ L, ws.length = L := ⟨_, rfl⟩
          rw [hL] at hl5
          have HL := Lib.hid hL
          rw [hL]
          clear hb hb4 hS5 hL
          go_wp2
          go_loopw [9, 10] (fun m i wr => ∃ j q : Nat, i = .int .i64 j ∧ m = .int .i64 (countR (ws.take j)) ∧ j ≤ L ∧ wr = w5.drewN q) (fun _ i _ => L - (RowKit.intOf i).toNat)
          case atStart => exact ⟨0, 0, rfl, rfl, Nat.zero_le _, rfl⟩
          case round =>
            obtain ⟨j, q, rfl, rfl, hj, rfl⟩ := hrel
            by_cases hlt2 : j < L
            · obtain ⟨x, hx⟩ : ∃ x, ws[j]? = some x := ⟨ws[j]'(by have := HL.out; omega), List.getElem?_eq_getElem _⟩
              obtain ⟨b, o, rfl, hbl, hRg⟩ := HS5.out.r.2.2.2 (by intro e; rw [e] at hx; simp at hx)
              obtain ⟨q1, q2⟩ := hRg j x hx
              have hmx := (may_iff x).1 (right_mays HWR.out x (List.mem_of_getElem? hx))
              have HSt := Lib.hid (HWS.out j x hx)
              have hcj := HWC.out j
              clear hRg hx
              obtain ⟨lo, hi'⟩ := x
              simp only at hmx
              obtain ⟨x1, x2, x3⟩ := hmx
              have j1 : (j : Int) < (L : Int) := by omega
              have j0 : (0 : Int) ≤ (j : Int) := by omega
              generalize countR (ws.take j) = cc at *
              obtain ⟨y1, y2⟩ := hcj
              go_wp2_with fail
              go_quiet (fail)
              go_wp2
              go_roundw
              case rel => exact ⟨j + 1, _, by go_num, by rw [HSt.out]; go_num, by omega, rfl⟩
              case measure => simp [RowKit.intOf]; omega
            · have hjl : j = L := by omega
              have e : ws.take j = ws := by rw [hjl, ← HL.out, List.take_length]
              rw [e]
              have hbq := below_drewN hb5 q
              have HS := Lib.hid (HS.out.below (below_drewN (Below.refl _ _) q))
              have HS5 := Lib.hid (HS5.out.below (below_drewN (Below.refl _ _) q))
              have H := Lib.hid (H.out.below (below_drewN (Below.refl _ _) q))
              generalize w5.drewN q = W at *
              obtain ⟨NC, hNC⟩ : ∃ NC, countR ws = NC := ⟨_, rfl⟩
              have D1 := is_any A3 c3 ws A5 c5 ws W HS.out.r HS5.out.r
              rw [show decide (ws = ws) = true by simp] at D1
              have D2 := Lib.hid (fun W' (hS : SW W' A3 c3 ws) => right_any A3 c3 ws W' hS.r)
              have D3 := Lib.hid (fun W' (hS : SW W' A3 c3 ws) => has_any2 A3 c3 ws r h0 h1 W' hS HWR.out)
              have D4 := Lib.hid (fun W' (hS : SW W' A3 c3 ws) => count_sp A3 c3 ws W' hS HWR.out)
              rw [HWR.out] at D2
              rw [HWH.out, HV.out] at D3
              rw [hNC] at D4
              rw [hNC]
              rw [HL.out] at D1 D2 D3 D4
              have D1 := Lib.hid D1
              subst hjl
              clear e hNC hb5
              go_wp2_with fail
              refine D1.out.mono ?_
              rintro e w6 ⟨rfl, hb⟩
              have HS := Lib.hid (HS.out.below hb)
              have H := Lib.hid (H.out.below hb)
              have hb6 := hbq.trans (hb.mono hbq.size)
              clear hb hbq D1
              go_wp2_with fail
              refine (D2.out _ HS.out).mono ?_
              rintro e w7 ⟨rfl, hb⟩
              have HS := Lib.hid (HS.out.below hb)
              have H := Lib.hid (H.out.below hb)
              have hb7 := hb6.trans (hb.mono hb6.size)
              clear hb hb6
              go_wp2_with fail
              refine (D3.out _ HS.out).mono ?_
              rintro e w8 ⟨rfl, hb⟩
              have HS := Lib.hid (HS.out.below hb)
              have H := Lib.hid (H.out.below hb)
              have hb8 := hb7.trans (hb.mono hb7.size)
              clear hb hb7
              go_wp2_with fail
              refine (C9.out _ H.out.r).mono ?_
              rintro e w9 ⟨rfl, rfl⟩
              go_wp2_with fail
              refine (D4.out _ HS.out).mono ?_
              rintro e w10 ⟨rfl, hb⟩
              have hb9 := hb8.trans (hb.mono hb8.size)
              clear hb hb8
              go_wp2
              go_ret
              exact ⟨rfl, hb9⟩
end Go.Proofs.YtimiinnnmdcmhaaDoor
