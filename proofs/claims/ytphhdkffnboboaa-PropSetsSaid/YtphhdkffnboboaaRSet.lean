/-
  Contracts: virguleref04.Set.
-/
import Derived.Test.YtphhdkffnboboaaSet2
import Derived.Test.YtphhdkffnboboaaGat
namespace Go.Proofs.Ytphhdkffnboboaa
open Go.RowKit Go.Shelf
open Go.Lib Go.Great

/-- The set of a class, as the document's answer makes it. -/
noncomputable def refSet (c : Nat) : List Rng := if c = 0 then norm (notR (norm (hasR (allP 35)))) else refS c
theorem allP_succ (n : Nat) : allP (n + 1) = allP n ++ refList (n + 1) := by
  unfold allP
  rw [List.range_succ]
  simp
theorem allP_len (n : Nat) : (allP n).length ≤ (allP (n + 1)).length := by rw [allP_succ]; simp
theorem allP_le (n : Nat) (h : n ≤ 35) : (allP n).length ≤ 200 := by
  have : ∀ m, n ≤ m → (allP n).length ≤ (allP m).length := by
    intro m hm
    induction m with
    | zero => obtain rfl : n = 0 := by omega
              omega
    | succ m ih =>
      by_cases c : n ≤ m
      · exact Nat.le_trans (ih c) (allP_len m)
      · obtain rfl : n = m + 1 := by omega
        omega
  exact Nat.le_trans (this 35 h) all_len
theorem SW.aw {w : World} {A : Option Addr} {c : Nat} {xs : List Rng} (h : SW w A c xs) : AW w A c xs := ⟨h.r, h.f.w⟩

set_option maxHeartbeats 4000000 in
set_option maxRecDepth 100000 in
theorem rset_14 (w : World) : Calls Try.prog 35 #[.int .i64 14] w (SP (syllP 14) w) := by
  obtain ⟨i0, hi, hz0, hz1, hz2⟩ := info_parts Try.info40
  have HI := Lib.hid (syll_i32 14)
  have HL := Lib.hid (syll_len 14)
  have HT := Lib.hid (syll_take 14)
  have H1 : Hid (∀ k : Nat, syl1 14 k = (44032 + 28 * (k : Int), 44032 + 28 * (k : Int))) := Lib.hid fun k => rfl
  go_enter Try.func35, Try.ntmps35
  go_wp2_with fail
  go_loopw [3, 4] (fun v i wr => ∃ k : Nat, ∃ r : Int, k ≤ 399 ∧ i = .int .i32 r ∧ Hid (r = 44032 + 28 * (k : Int)) ∧ 44032 ≤ r ∧ r ≤ 55204 ∧ wr.ownsRow w.heap.size 40 2 v k (cells2 ((syllP 14).take k)) ∧ Below w.heap.size w wr) (fun _ i _ => (55204 - RowKit.intOf i).toNat)
  case atStart => exact ⟨0, _, by omega, rfl, (rfl : (44032 : Int) = 44032 + 28 * ((0 : Nat) : Int)), by omega, by omega, World.ownsRow_nil _ _ _ _, Below.refl _ _⟩
  case round =>
    obtain ⟨k, r, hk, rfl, hr, r0, r1, hown, hb⟩ := hrel
    by_cases hlt : k < 399
    · have h2 : r ≤ 55203 := by have := hr.out; omega
      have own2 := hown.alloc (.cells #[.int .i32 r, .int .i32 r] 40)
      have hnews := news2 wr 40 (.int .i32 r) (.int .i32 r) rfl rfl
      have hlt0 := own_block_lt hown
      have hs := hb.size
      have HTk := Lib.hid (HT.out k hlt)
      have HQ := Lib.hid (H1.out k)
      go_wp2_with (at_builtin; refine wpList_append_own _ rfl _ _ 36 rfl w.heap.size 40 i0 (.agg #[.int .i32 0, .int .i32 0]) 2 8 Try.underlying36 hi hz0 hz1 hz2 rfl (by decide) u3 k (cells2 ((syllP 14).take k)) rfl own2 ⟨wr.heap.size, 0, none⟩ 1 1 [.int .i32 r, .int .i32 r] rfl rfl hnews ?c2 ?c3 ?c4 ?c5 ?_)
      case c2 => intro u hu; simp at hu; rcases hu with rfl | rfl <;> rfl
      case c3 => unfold maxLen; omega
      case c4 => omega
      case c5 => simp; omega
      intro v' w2 own3 hgrow _
      have hbz : Below w.heap.size w w2 := (hb.alloc hs _).grown hgrow (by simp; omega) (fun k e => (hlt0 k e).1)
      have e3 : cells2 ((syllP 14).take k) ++ [.int .i32 r, .int .i32 r] = cells2 ((syllP 14).take (k + 1)) := by
        rw [HTk.out, cells2_snoc, HQ.out]
        show _ = (_ : List Value) ++ [Value.int .i32 (44032 + 28 * (k : Int)), Value.int .i32 (44032 + 28 * (k : Int))]
        rw [show 44032 + 28 * (k : Int) = r by have := hr.out; omega]
      rw [e3] at own3
      clear e3 hgrow own2 hnews hown
      go_wp2
      go_roundw
      case rel => exact ⟨k + 1, _, by omega, rfl, (by have := hr.out; show r + 28 = 44032 + 28 * ((k + 1 : Nat) : Int); omega : Hid _), by omega, by have := hr.out; omega, own3, hbz⟩
      case measure => simp [RowKit.intOf]; omega
    · have hkn : k = 399 := by omega
      have h2 : 55203 < r := by have := hr.out; omega
      have e : (syllP 14).take k = syllP 14 := by rw [hkn, ← HL.out, List.take_length]
      rw [e] at hown
      have HO := Lib.hid hown
      have HZ := Lib.hid hb
      clear hown e hb
      subst hkn
      have d : decide (r ≤ (55203 : Int)) = false := by simpa using h2
      go_wp2
      go_ret
      exact sp_of ⟨_, rfl, by rw [HL.out]; exact HO.out, HZ.out⟩ HI.out
set_option maxHeartbeats 4000000 in
set_option maxRecDepth 100000 in
theorem rset_15 (w : World) : Calls Try.prog 35 #[.int .i64 15] w (SP (syllP 15) w) := by
  obtain ⟨i0, hi, hz0, hz1, hz2⟩ := info_parts Try.info40
  have HI := Lib.hid (syll_i32 15)
  have HL := Lib.hid (syll_len 15)
  have HT := Lib.hid (syll_take 15)
  have H2 : Hid (∀ k : Nat, syl1 15 k = (44032 + 28 * (k : Int) + 1, 44032 + 28 * (k : Int) + 27)) := Lib.hid fun k => rfl
  go_enter Try.func35, Try.ntmps35
  go_wp2_with fail
  go_loopw [3, 4] (fun v i wr => ∃ k : Nat, ∃ r : Int, k ≤ 399 ∧ i = .int .i32 r ∧ Hid (r = 44032 + 28 * (k : Int)) ∧ 44032 ≤ r ∧ r ≤ 55204 ∧ wr.ownsRow w.heap.size 40 2 v k (cells2 ((syllP 15).take k)) ∧ Below w.heap.size w wr) (fun _ i _ => (55204 - RowKit.intOf i).toNat)
  case atStart => exact ⟨0, _, by omega, rfl, (rfl : (44032 : Int) = 44032 + 28 * ((0 : Nat) : Int)), by omega, by omega, World.ownsRow_nil _ _ _ _, Below.refl _ _⟩
  case round =>
    obtain ⟨k, r, hk, rfl, hr, r0, r1, hown, hb⟩ := hrel
    by_cases hlt : k < 399
    · have h2 : r ≤ 55203 := by have := hr.out; omega
      have own2 := hown.alloc (.cells #[.int .i32 (r + 1), .int .i32 (r + 27)] 40)
      have hnews := news2 wr 40 (.int .i32 (r + 1)) (.int .i32 (r + 27)) rfl rfl
      have hlt0 := own_block_lt hown
      have hs := hb.size
      have HTk := Lib.hid (HT.out k hlt)
      have HQ := Lib.hid (H2.out k)
      go_wp2_with (at_builtin; refine wpList_append_own _ rfl _ _ 36 rfl w.heap.size 40 i0 (.agg #[.int .i32 0, .int .i32 0]) 2 8 Try.underlying36 hi hz0 hz1 hz2 rfl (by decide) u3 k (cells2 ((syllP 15).take k)) rfl own2 ⟨wr.heap.size, 0, none⟩ 1 1 [.int .i32 (r + 1), .int .i32 (r + 27)] rfl rfl hnews ?c2 ?c3 ?c4 ?c5 ?_)
      case c2 => intro u hu; simp at hu; rcases hu with rfl | rfl <;> rfl
      case c3 => unfold maxLen; omega
      case c4 => omega
      case c5 => simp; omega
      intro v' w2 own3 hgrow _
      have hbz : Below w.heap.size w w2 := (hb.alloc hs _).grown hgrow (by simp; omega) (fun k e => (hlt0 k e).1)
      have e3 : cells2 ((syllP 15).take k) ++ [.int .i32 (r + 1), .int .i32 (r + 27)] = cells2 ((syllP 15).take (k + 1)) := by
        rw [HTk.out, cells2_snoc, HQ.out]
        show _ = (_ : List Value) ++ [Value.int .i32 (44032 + 28 * (k : Int) + 1), Value.int .i32 (44032 + 28 * (k : Int) + 27)]
        rw [show 44032 + 28 * (k : Int) + 1 = r + 1 by have := hr.out; omega, show 44032 + 28 * (k : Int) + 27 = r + 27 by have := hr.out; omega]
      rw [e3] at own3
      clear e3 hgrow own2 hnews hown
      go_wp2
      go_roundw
      case rel => exact ⟨k + 1, _, by omega, rfl, (by have := hr.out; show r + 28 = 44032 + 28 * ((k + 1 : Nat) : Int); omega : Hid _), by omega, by have := hr.out; omega, own3, hbz⟩
      case measure => simp [RowKit.intOf]; omega
    · have hkn : k = 399 := by omega
      have h2 : 55203 < r := by have := hr.out; omega
      have e : (syllP 15).take k = syllP 15 := by rw [hkn, ← HL.out, List.take_length]
      rw [e] at hown
      have HO := Lib.hid hown
      have HZ := Lib.hid hb
      clear hown e hb
      subst hkn
      have d : decide (r ≤ (55203 : Int)) = false := by simpa using h2
      go_wp2
      go_ret
      exact sp_of ⟨_, rfl, by rw [HL.out]; exact HO.out, HZ.out⟩ HI.out

set_option maxHeartbeats 2000000 in
theorem rset_list (c : Nat) (h0 : 0 < c) (h : c < 36) (h14 : c ≠ 14 ∧ c ≠ 15) (w : World) : Calls Try.prog 35 #[.int .i64 (c : Int)] w (SP (refList c) w) := by
  have C := Lib.hid (list_any c h0 h)
  have d1 : ((c : Int) == 14) = false := by simp; omega
  have d2 : ((c : Int) == 15) = false := by simp; omega
  have d3 : ((c : Int) == 0) = false := by simp; omega
  have d4 : ((c : Int) != 0) = true := by simp; omega
  clear h0 h h14
  go_enter Try.func35, Try.ntmps35
  go_wp2_with fail
  refine (C.out _).mono ?_
  rintro e w1 ⟨A1, c1, rfl, hS, hb1⟩
  have H := Lib.hid (And.intro hS hb1)
  clear hS hb1
  go_wp2
  go_ret
  exact ⟨_, _, rfl, H.out.1, H.out.2⟩

set_option maxHeartbeats 4000000 in
set_option maxRecDepth 100000 in
theorem rset_other (w : World) : Calls Try.prog 35 #[.int .i64 0] w (SP (norm (notR (norm (hasR (allP 35))))) w) := by
  obtain ⟨i0, hi, hz0, hz1, hz2⟩ := info_parts Try.info40
  obtain ⟨F, hF⟩ : ∃ F : Nat → List Rng, ∀ k, F k = allP k := ⟨_, fun _ => rfl⟩
  have HF0 : Hid (F 0 = [(44032, 55203)]) := Lib.hid (by rw [hF]; rfl)
  have HFs : Hid (∀ k, F (k + 1) = F k ++ refList (k + 1)) := Lib.hid (fun k => by rw [hF, hF]; exact allP_succ k)
  have HFl : Hid (∀ k, k ≤ 35 → (F k).length ≤ 200) := Lib.hid (fun k hk => by rw [hF]; exact allP_le k hk)
  have HFT : Hid (F 35 = allP 35) := Lib.hid (hF 35)
  have hm := all_may
  have hl := all_len
  clear hF
  generalize allP 35 = T at *
  have CM := fun A c W (hS : SW W A c T) => rmake_sp A c T W hS.aw (List.all_eq_true.1 hm) (by omega)
  have hr := norm_right (hasR T)
  generalize norm (hasR T) = S at *
  have CN := fun A c W (hS : SW W A c S) (h : S.length ≤ 2000) => rnot_sp A c S W hS.aw hr h
  generalize norm (notR S) = S2 at *
  have HM := Lib.hid hm
  have HLT := Lib.hid hl
  have CM := Lib.hid CM
  have CN := Lib.hid CN
  have CL := Lib.hid list_any
  have hI : Hid (I32 (44032, 55203)) := Lib.hid (by unfold I32; simp)
  have hw0 := sw_new w [(44032, 55203)] 40 1 rfl (by simpa using hI.out) (by unfold maxLen; omega)
  have hown0 : (w.alloc (.cells #[.int .i32 44032, .int .i32 55203] 40)).ownsRow w.heap.size 40 2 (.slice (some ⟨w.heap.size, 0, none⟩) 1 1) (F 0).length (cells2 (F 0)) := by
    rw [HF0.out]
    exact ⟨rfl, .inr ⟨w.heap.size, 1, #[.int .i32 44032, .int .i32 55203], rfl, Nat.le_refl _, World.alloc_heap_new w _, Nat.le_refl _, by decide, rfl, rfl⟩⟩
  have hb0 := below_new w (.cells #[.int .i32 44032, .int .i32 55203] 40)
  generalize hW : w.alloc (.cells #[.int .i32 44032, .int .i32 55203] 40) = W0 at *
  have HW := Lib.hid hW
  have H0 := Lib.hid (And.intro hown0 hb0)
  clear hm hl hr hw0 hown0 hb0 hW
  go_enter Try.func35, Try.ntmps35
  go_wp2_with fail
  rw [HW.out]
  go_wp2_with fail
  go_loopw [5, 6] (fun v i wr => ∃ k : Nat, i = .int .i64 (k + 1 : Nat) ∧ k ≤ 35 ∧ wr.ownsRow w.heap.size 40 2 v (F k).length (cells2 (F k)) ∧ Below w.heap.size w wr) (fun _ i _ => 36 - (RowKit.intOf i).toNat)
  case atStart => exact ⟨0, rfl, by omega, H0.out.1, H0.out.2⟩
  case round =>
    obtain ⟨k, rfl, hk, hown, hb⟩ := hrel
    by_cases hlt : k < 35
    · have i1 : ((k : Int) + 1) ≤ 35 := by omega
      have C := CL.out (k + 1) (by omega) (by omega) wr
      have HF := Lib.hid (HFs.out k)
      have HLk := Lib.hid (HFl.out (k + 1) (by omega))
      rw [Int.natCast_add] at C
      generalize hP : refList (k + 1) = Pk at C HF
      clear hP
      have HO := Lib.hid (And.intro hown hb)
      have C := Lib.hid C
      clear hown hb
      go_wp2_with fail
      refine C.out.mono ?_
      rintro e w2 ⟨A1, c1, rfl, hS, hb2⟩
      have own2 := ownsRow_below HO.out.1 hb2
      have hbz := HO.out.2.trans (hb2.mono HO.out.2.size)
      have hlen : (F k).length + Pk.length ≤ 200 := by have := HLk.out; rw [HF.out, List.length_append] at this; omega
      have HX := Lib.hid (And.intro own2 (And.intro hS (And.intro hbz hlen)))
      clear own2 hS hbz hlen hb2
      go_wp2_with (refine wpList_append_rg rfl (.tmp 44) (.tmp 46) 36 36 rfl w.heap.size 40 i0 (.agg #[.int .i32 0, .int .i32 0]) Try.underlying36 Try.underlying36 hi hz0 hz1 hz2 rfl _ (F k) rfl HX.out.1 A1 c1 Pk rfl HX.out.2.1.r HX.out.2.1.f.w (by have := HX.out.2.2.2; omega) HX.out.2.2.1.size ?_; intro v2 w3 own3 hb3)
      rw [← HF.out] at own3
      have hbq := HX.out.2.2.1.trans hb3
      clear hb3
      go_wp2
      go_roundw
      case rel => exact ⟨k + 1, by go_num, by omega, own3, hbq⟩
      case measure => simp [RowKit.intOf]; omega
    · have hkn : k = 35 := by omega
      have e : F k = T := by rw [hkn, HFT.out]
      rw [e] at hown
      have i1 : (35 : Int) < (k : Int) + 1 := by omega
      have i2 : decide ((k : Int) + 1 ≤ 35) = false := by simp; omega
      clear hkn hlt e
      obtain ⟨A1, c1, hv, hS⟩ := sw_own hown (fun x hx => may_i32 (List.all_eq_true.1 HM.out) x hx)
      subst hv
      have C := Lib.hid (CM.out A1 c1 wr hS)
      have HB := Lib.hid hb
      clear hown hS hb
      go_wp2_with fail
      refine C.out.mono ?_
      rintro e w2 ⟨⟨A2, c2, rfl, hS, hb2⟩, hl⟩
      have C2 := Lib.hid (CN.out A2 c2 w2 hS (by have := HLT.out; omega))
      have HB2 := Lib.hid (HB.out.trans (hb2.mono HB.out.size))
      clear hS hb2 hl
      go_wp2_with fail
      refine C2.out.mono ?_
      rintro e w3 ⟨A3, c3, rfl, hS, hb3⟩
      have H := Lib.hid (And.intro hS (HB2.out.trans (hb3.mono HB2.out.size)))
      clear hS hb3
      go_wp2
      go_ret
      exact ⟨_, _, rfl, H.out.1, H.out.2⟩
theorem rset_any (c : Nat) (h : c < 36) (w : World) : Calls Try.prog 35 #[.int .i64 (c : Int)] w (SP (refSet c) w) := by
  unfold refSet
  by_cases h0 : c = 0
  · subst h0
    rw [if_pos rfl]
    exact rset_other w
  · rw [if_neg h0]
    unfold refS
    by_cases h1 : c = 14
    · subst h1
      exact rset_14 w
    · by_cases h2 : c = 15
      · subst h2
        exact rset_15 w
      · rw [if_neg (by omega)]
        exact rset_list c (by omega) h ⟨h1, h2⟩ w
end Go.Proofs.Ytphhdkffnboboaa
