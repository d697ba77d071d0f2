/-
  What the rows of flat lean on, part r.
-/
import Derived.Test.YtfafhbgkmlmmdaaGreatDoorYrq
import Derived.Test.YtfafhbgkmlmmdaaGreatDoorYqj
import Derived.Test.YtfafhbgkmlmmdaaGreatDoorYqi
import Derived.Test.YtfafhbgkmlmmdaaGreatDoorYqh
import Derived.Great.BuildSlice
set_option maxRecDepth 100000
set_option maxHeartbeats 40000000
namespace Go.Proofs.YtfafhbgkmlmmdaaGreatDoor
open Go.RowKit Go.Shelf Go.Lib Go.Maps Go.Great
theorem ends_any (xs : List Nat) (b o cap k : Nat) (nm : List Nat) (w : World) (hx : BY w w.heap.size xs (some ⟨b, o, none⟩) cap) (hl : xs.length ≤ 1000) (hk : k < xs.length) (hnm : nm.length ≤ 100) (hn : ∀ c ∈ nm, c < 256) :
  Calls Tryz.prog 43 #[.slice (some ⟨b, o, none⟩) xs.length cap, .int .i64 (k : Int), .string ⟨(G.u8s nm).toArray⟩] w fun e w' => e = .returned (.bool (endsD (xs.drop k) nm)) ∧ Below w.heap.size w w' := by
 obtain ⟨R, hR⟩ : ∃ r, endsD (xs.drop k) nm = r := ⟨_, rfl⟩
 rw [hR]
 unfold endsD at hR
 rw [List.length_drop] at hR
 have hcap := hx.l
 obtain ⟨K, hK⟩ : ∃ K, nm.length = K := ⟨_, rfl⟩
 obtain ⟨N, hN⟩ : ∃ N, xs.length = N := ⟨_, rfl⟩
 obtain ⟨SN, hSN⟩ : ∃ Sx : ByteArray, ⟨(G.u8s nm).toArray⟩ = Sx := ⟨_, rfl⟩
 obtain ⟨WS, hWS⟩ : ∃ Sx : ByteArray, (⟨#[60, 47]⟩ : ByteArray) ++ SN = Sx := ⟨_, rfl⟩
 have hWe : WS = ⟨(G.u8s (60 :: 47 :: nm)).toArray⟩ := by
  rw [← hWS, ← hSN]
  simp [ByteArray.ext_iff, G.u8s]
 have hWl : WS.toList = G.u8s (60 :: 47 :: nm) := by rw [hWe]; simp
 have hsz : WS.size = K + 2 := by
  rw [hWe]
  show (G.u8s (60 :: 47 :: nm)).toArray.size = K + 2
  simp [G.u8s]
  exact hK
 have hsn : SN.size ≤ 100 := by
  rw [← hSN]
  show (G.u8s nm).toArray.size ≤ 100
  simp [G.u8s]
  exact hnm
 clear hWe
 rw [hN, hK] at hR
 rw [hN] at hcap hk hl
 rw [hN, hSN]
 by_cases c : N < k + (K + 2)
 ·have c1 : (N : Int) < (k : Int) + ((K : Int) + 2) := by omega
  have hf : R = false := by rw [← hR, decide_eq_false (by omega)]; rfl
  subst hf
  clear hx hR hWl hSN
  go_enter Tryz.func43, Tryz.ntmps43
  go_wp2_with fail
  go_ret
  exact ⟨rfl, Below.refl _ _⟩
 ·have c1 : decide ((N : Int) < (k : Int) + ((K : Int) + 2)) = false := by rw [decide_eq_false_iff_not]; omega
  have hB := hx.win k (k + (K + 2)) (by omega) (by omega)
  obtain ⟨l', hl'⟩ : ∃ l', (xs.take (k + (K + 2))).drop k = l' := ⟨_, rfl⟩
  rw [hl'] at hB
  have hll : l'.length = K + 2 := by rw [← hl', List.length_drop, List.length_take]; omega
  have hlt : (xs.drop k).take (K + 2) = l' := by rw [← hl', List.drop_take]; congr 1; omega
  have h256 := hB.i
  rw [hlt] at hR
  have hcv := conv_by hB
  rw [hll] at hcv
  have hsl := slice_win b o N cap k (k + (K + 2)) (by omega) (by omega) (by omega)
  rw [show k + (K + 2) - k = K + 2 by omega, show ((k + (K + 2) : Nat) : Int) = (k : Int) + ((K : Int) + 2) by omega] at hsl
  have CL := G.refLower_any l' h256 (by omega) w
  unfold G.strV at CL
  obtain ⟨LS, hLS⟩ : ∃ Sx : ByteArray, ⟨(G.u8s l').toArray⟩ = Sx := ⟨_, rfl⟩
  obtain ⟨LW, hLW⟩ : ∃ Sx : ByteArray, ⟨(G.u8s (G.lowL l')).toArray⟩ = Sx := ⟨_, rfl⟩
  rw [hLS, hLW] at CL
  replace hcv : (convert 22 9 (.slice (some ⟨b, o + k, none⟩) (K + 2) (cap - k))).run Tryz.prog w = .ok (.string LS) w := by rw [← hLS]; exact hcv
  have hll2 : ∀ x ∈ G.lowL l', x < 256 := fun x hx => by
   unfold G.lowL at hx
   obtain ⟨y, hy, rfl⟩ := List.mem_map.1 hx
   have := h256 y hy
   unfold G.lowN
   split <;> omega
  obtain ⟨BQ, hBQ⟩ : ∃ q, (G.lowL l' == 60 :: 47 :: nm) = q := ⟨_, rfl⟩
  have hq : (LW.toList == WS.toList) = BQ := by
   rw [hWl, ← hLW, ← hBQ]
   have e1 : (⟨(G.u8s (G.lowL l')).toArray⟩ : ByteArray).toList = G.u8s (G.lowL l') := by simp
   rw [e1]
   cases hb : (G.lowL l' == 60 :: 47 :: nm) with
   | true => rw [eq_of_beq hb]; simp
   | false =>
    rw [beq_eq_false_iff_ne] at hb ⊢
    intro e
    exact hb (u8s_eq hll2 (fun x hx => by
     rcases List.mem_cons.1 hx with rfl | hx
     ·omega
     ·rcases List.mem_cons.1 hx with rfl | hx
      ·omega
      ·exact hn x hx) e)
  rw [hBQ] at hR
  have HX := Lib.hid (And.intro CL (And.intro hx (And.intro hR hN)))
  clear CL hx hR hBQ hLW hLS hWl hSN hlt hl' hB h256 hll2
  cases BQ with
  | false =>
   have hf : R = false := by rw [← HX.out.2.2.1]; simp
   subst hf
   go_enter Tryz.func43, Tryz.ntmps43
   go_wp2_with fail
   refine HX.out.1.mono ?_
   rintro e w1 ⟨rfl, hb⟩
   go_wp2_with fail
   go_ret
   exact ⟨rfl, hb⟩
  | true =>
   by_cases hq2 : k + (K + 2) = N
   ·have d : ((k : Int) + ((K : Int) + 2) == (N : Int)) = true := by simp; omega
    have hf : R = true := by
     rw [← HX.out.2.2.1, show N - k = K + 2 by omega]
     simp
    subst hf
    go_enter Tryz.func43, Tryz.ntmps43
    go_wp2_with fail
    refine HX.out.1.mono ?_
    rintro e w1 ⟨rfl, hb⟩
    go_wp2_with fail
    go_ret
    exact ⟨rfl, hb⟩
   ·have d : ((k : Int) + ((K : Int) + 2) == (N : Int)) = false := by simp; omega
    have i1 : (k : Int) + ((K : Int) + 2) < (N : Int) := by omega
    have i2 : ((k : Int) + ((K : Int) + 2)).toNat = k + (K + 2) := by omega
    obtain ⟨x, hxx⟩ : ∃ x, xs[k + (K + 2)]? = some x := ⟨_, List.getElem?_eq_getElem (by rw [HX.out.2.2.2]; omega)⟩
    have hf : R = dlm x := by
     rw [← HX.out.2.2.1, List.getD_eq_getElem?_getD, List.getElem?_drop, hxx, decide_eq_true (show K + 2 ≤ N - k by omega), decide_eq_false (show ¬ N - k = K + 2 by omega)]
     rfl
    subst hf
    clear hq2
    go_enter Tryz.func43, Tryz.ntmps43
    go_wp2_with fail
    refine HX.out.1.mono ?_
    rintro e w1 ⟨rfl, hb⟩
    have h1 := HX.out.2.1.on hb
    obtain ⟨b2, o2, e2, _, hcell⟩ := h1.at hxx
    obtain ⟨rfl, rfl⟩ : b2 = b ∧ o2 = o := by simpa [eq_comm] using e2
    have hx256 := h1.lt hxx
    have CB := fun W => G.blank_any x W
    have HB := Lib.hid hb
    clear hb h1 e2 hxx
    go_wp2_with fail
    refine (CB w1).mono ?_
    rintro e w2 ⟨rfl, hw⟩
    rw [hw]
    clear hw CB
    have hd : dlm x = (G.blkB x || x == 47 || x == 62) := rfl
    cases hbk : G.blkB x with
    | true =>
     have e : dlm x = true := by rw [hd, hbk]; rfl
     have HE := Lib.hid e
     clear hd e hbk
     go_wp2_with fail
     go_ret
     exact ⟨by rw [HE.out]; rfl, HB.out⟩
    | false =>
     by_cases h47 : x = 47
     ·have e : dlm x = true := by rw [hd, hbk, h47]; rfl
      have d1 : ((x : Int) == 47) = true := by simp; omega
      have HE := Lib.hid e
      clear hd e hbk h47
      go_wp2_with fail
      go_ret
      exact ⟨by rw [HE.out]; rfl, HB.out⟩
     ·have d1 : ((x : Int) == 47) = false := by simp; omega
      by_cases h62 : x = 62
      ·have e : dlm x = true := by rw [hd, hbk, h62]; rfl
       have d2 : ((x : Int) == 62) = true := by simp; omega
       have HE := Lib.hid e
       clear hd e hbk h47 h62
       go_wp2_with fail
       go_ret
       exact ⟨by rw [HE.out]; rfl, HB.out⟩
      ·have d2 : ((x : Int) == 62) = false := by simp; omega
       have e : dlm x = false := by rw [hd, hbk]; simp [h47, h62]
       have HE := Lib.hid e
       clear hd e hbk h47 h62
       go_wp2_with fail
       go_ret
       exact ⟨by rw [HE.out]; rfl, HB.out⟩
def hxL : List UInt8 := [48, 49, 50, 51, 52, 53, 54, 55, 56, 57, 97, 98, 99, 100, 101, 102, 65, 66, 67, 68, 69, 70]
def dgZ (c : Nat) : Int := if dgB 16 c then (dv c : Int) else -1
theorem dgZ_at : ∀ k, k < 22 → dgZ ((nats hxL).getD k 0) = if 15 < k then (k : Int) - 6 else (k : Int) := by decide +kernel
theorem dgZ_out : ∀ c, c < 256 → (∀ k, k < 22 → (nats hxL).getD k 0 ≠ c) → dgZ c = -1 := by decide +kernel
theorem dgZ_base : ∀ c, c < 256 → (dgB 10 c = (decide (0 ≤ dgZ c) && decide (dgZ c < 10))) ∧ (dgB 16 c = (decide (0 ≤ dgZ c) && decide (dgZ c < 16))) ∧ (0 ≤ dgZ c → dgZ c = (dv c : Int)) ∧ dgZ c ≤ 15 ∧ -1 ≤ dgZ c := by decide +kernel
theorem refDigit_any (c : Nat) (hc : c < 256) (w : World) : Calls Tryz.prog 169 #[.int .u8 (c : Int)] w fun e w' => e = .returned (.int .i64 (dgZ c)) ∧ w' = w := by
 obtain ⟨DZ, hDZ⟩ : ∃ v, dgZ c = v := ⟨_, rfl⟩
 rw [hDZ]
 have HD := Lib.hid (And.intro hDZ hc)
 clear hDZ hc
 go_enter Tryz.func169, Tryz.ntmps169
 go_wp2_with fail
 go_loopw [3] (fun i wr => ∃ k : Nat, i = .int .i64 (k : Int) ∧ k ≤ 22 ∧ (∀ j, j < k → (nats hxL).getD j 0 ≠ c) ∧ wr = w) (fun i _ => 22 - (RowKit.intOf i).toNat)
 case atStart => exact ⟨0, rfl, by decide, fun j hj => absurd hj (by omega), rfl⟩
 case round =>
  obtain ⟨k, rfl, hk, hj, rfl⟩ := hrel
  by_cases hlt : k < 22
  case neg =>
   obtain rfl : k = 22 := by omega
   have he : DZ = -1 := by rw [← HD.out.1]; exact dgZ_out c HD.out.2 hj
   have HE := Lib.hid he
   clear hj he
   go_wp2_with fail
   go_ret
   exact ⟨by rw [HE.out]; rfl, rfl⟩
  case pos =>
   have i1 : (k : Int) < 22 := by omega
   have hix := index_at hxL k hlt
   dsimp only [hxL] at hix
   obtain ⟨d, hd⟩ : ∃ d, (nats hxL).getD k 0 = d := ⟨_, rfl⟩
   have hd' := hd
   dsimp only [hxL] at hd'
   rw [hd'] at hix
   by_cases hcd : d = c
   case pos =>
    subst hcd
    have hz := dgZ_at k hlt
    rw [hd, HD.out.1] at hz
    by_cases h15 : 15 < k
    ·rw [if_pos h15] at hz
     have h15' : (15 : Int) < (k : Int) := by omega
     have w1 : wrap64 ((k : Int) - 6) = (k : Int) - 6 := by unfold wrap64; omega
     have HZ := Lib.hid hz
     clear hz hj hd hd'
     go_wp2_with fail
     go_ret
     exact ⟨by rw [HZ.out]; first | rfl | (simp [w1]), rfl⟩
    ·rw [if_neg h15] at hz
     have h15' : ¬ (15 : Int) < (k : Int) := by omega
     have HZ := Lib.hid hz
     clear hz hj hd hd'
     go_wp2_with fail
     go_ret
     exact ⟨by rw [HZ.out]; rfl, rfl⟩
   case neg =>
    have hc1 : ¬ (d : Int) = (c : Int) := by omega
    have hc2 : ((d : Int) == (c : Int)) = false := by simp; omega
    have hend : ∀ j, j < k + 1 → (nats hxL).getD j 0 ≠ c := fun j h => by
     by_cases e : j = k
     ·subst e; rw [hd]; exact hcd
     ·exact hj j (by omega)
    have HE := Lib.hid hend
    clear hend hj hd hd'
    go_wp2_with fail
    go_roundw
    case rel => exact ⟨k + 1, by go_num, by omega, HE.out, trivial⟩
    case measure => simp [RowKit.intOf]; omega
theorem wrap_id2 (x : Nat) (h : x ≤ 16 * 16777216) : wrap64 ((x : Nat) : Int) = ((x : Nat) : Int) := by unfold wrap64; omega
theorem wrap_add2 (x v : Nat) (d : Int) (hd : d = (v : Int)) (h : x + v ≤ 16 * 16777216 + 15) : wrap64 (((x : Nat) : Int) + d) = ((x + v : Nat) : Int) := by subst hd; unfold wrap64; omega
theorem mnR_num' {b : Nat} (hb : b = 10 ∨ b = 16) (l : List Nat) (h : ∀ x ∈ l, x < 256 ∧ dgB b x = true) (hm : l.length ≤ if b = 10 then 7 else 6) : nbV b l 0 < 16777216 := by
 have h1 := nbV_lt hb l 0 0 h (by rcases hb with rfl | rfl <;> decide)
 rcases hb with rfl | rfl
 ·have h3 : 10 ^ (0 + l.length) ≤ 10 ^ 7 := Nat.pow_le_pow_right (by decide) (by simp at hm; omega)
  have h4 : (10 : Nat) ^ 7 = 10000000 := by decide
  omega
 ·have h3 : 16 ^ (0 + l.length) ≤ 16 ^ 6 := Nat.pow_le_pow_right (by decide) (by simp at hm; omega)
  have h4 : (16 : Nat) ^ 6 = 16777216 := by decide
  omega
def numZ (b most : Nat) (u : List Nat) : Int := if u = [] ∨ most < u.length then -1 else if u.all (dgB b) then mnR (nbV b u 0) else -1
theorem dgB_iff {b c : Nat} (hb : b = 10 ∨ b = 16) (hc : c < 256) : dgB b c = (decide (0 ≤ dgZ c) && decide (dgZ c < (b : Int))) := by
 rcases hb with rfl | rfl
 ·exact (dgZ_base c hc).1
 ·exact (dgZ_base c hc).2.1
theorem nbV_snoc (b : Nat) : ∀ (l : List Nat) (c n : Nat), nbV b (l ++ [c]) n = b * nbV b l n + dv c
 | [], _c, _n => rfl
 | a :: l, c, n => nbV_snoc b l c (b * n + dv a)
theorem numZ_bad {b most : Nat} {u : List Nat} {c : Nat} (hm : c ∈ u) (hc : dgB b c = false) : numZ b most u = -1 := by
 unfold numZ
 split
 ·rfl
 ·rw [if_neg]
  intro h
  rw [List.all_eq_true.1 h c hm] at hc
  cases hc
theorem refNumber_any {b most : Nat} (hb : b = 10 ∨ b = 16) (hmo : most ≤ if b = 10 then 7 else 6) (l : List UInt8) (hl : l.length ≤ 1000000) (w : World) : Calls Tryz.prog 131 #[.string ⟨l.toArray⟩, .int .i64 (b : Int), .int .i64 (most : Int)] w fun e w' => e = .returned (.int .i32 (numZ b most (nats l))) ∧ w' = w := by
 obtain ⟨NZ, hNZ⟩ : ∃ v, numZ b most (nats l) = v := ⟨_, rfl⟩
 rw [hNZ]
 obtain ⟨N, hN⟩ : ∃ n, l.length = n := ⟨_, rfl⟩
 have hnl : (nats l).length = N := by rw [nats, List.length_map, hN]
 have h256 : ∀ x ∈ nats l, x < 256 := fun x hx => by
  obtain ⟨y, _, rfl⟩ := List.mem_map.1 hx
  exact UInt8.toNat_lt y
 have HD := Lib.hid (And.intro hNZ (And.intro hnl (And.intro h256 (And.intro hb hmo))))
 clear hNZ hnl h256 hb hmo
 by_cases h0 : N = 0
 case pos =>
  have he : NZ = -1 := by
   rw [← HD.out.1, numZ, if_pos (Or.inl (List.eq_nil_of_length_eq_zero (by rw [HD.out.2.1]; exact h0)))]
  have HE := Lib.hid he
  subst h0
  clear he
  go_enter Tryz.func131, Tryz.ntmps131
  go_wp2_with fail
  go_ret
  exact ⟨by rw [HE.out]; rfl, rfl⟩
 case neg =>
 have h0z : ¬ (N : Int) = 0 := by omega
 have h0b : ((N : Int) == 0) = false := by simp; omega
 by_cases hbig : most < N
 case pos =>
  have he : NZ = -1 := by rw [← HD.out.1, numZ, if_pos (Or.inr (by rw [HD.out.2.1]; exact hbig))]
  have HE := Lib.hid he
  have hb2 : (most : Int) < (N : Int) := by omega
  clear he
  go_enter Tryz.func131, Tryz.ntmps131
  go_wp2_with fail
  go_ret
  exact ⟨by rw [HE.out]; rfl, rfl⟩
 case neg =>
 have hb2 : ¬ (most : Int) < (N : Int) := by omega
 go_enter Tryz.func131, Tryz.ntmps131
 go_wp2_with fail
 go_loopw [7, 8] (fun n i wr => ∃ k : Nat, i = .int .i64 (k : Int) ∧ k ≤ N ∧ n = .int .i64 (nbV b ((nats l).take k) 0 : Nat) ∧ (∀ x ∈ (nats l).take k, dgB b x = true) ∧ wr = w) (fun _ i _ => N - (RowKit.intOf i).toNat)
 case atStart => exact ⟨0, rfl, by omega, rfl, fun x hx => by simp at hx, rfl⟩
 case round =>
  obtain ⟨k, rfl, hk, rfl, hd, rfl⟩ := hrel
  have hbd : nbV b ((nats l).take k) 0 < 16777216 := mnR_num' HD.out.2.2.2.1 _ (fun x hx => ⟨HD.out.2.2.1 x (List.mem_of_mem_take hx), hd x hx⟩) (by
   have h1 := HD.out.2.1
   have h2 := HD.out.2.2.2.2
   have h3 : ((nats l).take k).length ≤ N := by rw [List.length_take]; omega
   omega)
  by_cases hlt : k < N
  case neg =>
   obtain rfl : k = N := by omega
   have htk : (nats l).take k = nats l := List.take_of_length_le (by rw [HD.out.2.1]; exact Nat.le_refl _)
   rw [htk] at hd hbd ⊢
   have hz : NZ = mnR (nbV b (nats l) 0) := by
    rw [← HD.out.1, numZ, if_neg, if_pos (List.all_eq_true.2 hd)]
    rw [HD.out.2.1]
    rintro (e | e)
    ·have := HD.out.2.1
     rw [e] at this
     exact h0 this.symm
    ·exact hbig e
   generalize nbV b (nats l) 0 = n at *
   by_cases hn : n = 0
   case pos =>
    subst hn
    have HZ := Lib.hid hz
    clear hz hd hbd
    go_wp2_with fail
    go_ret
    exact ⟨by rw [HZ.out]; rfl, rfl⟩
   case neg =>
    have hn1 : ¬ (n : Int) = 0 := by omega
    have hn2 : ((n : Int) == 0) = false := by simp; omega
    have hw : IntKind.i32.wrap (n : Int) = (n : Int) := IntWalk.i32_in _ ⟨by omega, by omega⟩
    have R := rr_any (n : Int) wr
    cases hv : Lib.validRune (n : Int) with
    | true =>
     rw [hv] at R
     have HZ := Lib.hid (show NZ = (n : Int) by rw [hz, mnR, if_neg hn, scR, if_pos hv])
     have HR := Lib.hid R
     clear hz hd hbd R hv
     go_wp2_with fail
     refine HR.out.mono ?_
     rintro e w1 ⟨rfl, rfl⟩
     go_wp2_with fail
     go_ret
     exact ⟨by rw [HZ.out]; rfl, rfl⟩
    | false =>
     rw [hv] at R
     have HZ := Lib.hid (show NZ = 65533 by rw [hz, mnR, if_neg hn, scR, if_neg (by rw [hv]; decide)])
     have HR := Lib.hid R
     clear hz hd hbd R hv
     go_wp2_with fail
     refine HR.out.mono ?_
     rintro e w1 ⟨rfl, rfl⟩
     go_wp2_with fail
     go_ret
     exact ⟨by rw [HZ.out]; rfl, rfl⟩
  case pos =>
   have i1 : (k : Int) < (N : Int) := by omega
   obtain ⟨c, hc⟩ := at_lt (l := nats l) (k := k) (by rw [HD.out.2.1]; exact hlt)
   have hix := index_at l k (by rw [hN]; exact hlt)
   rw [show (nats l).getD k 0 = c by simp [List.getD_eq_getElem?_getD, hc]] at hix
   have hc256 := HD.out.2.2.1 c (List.mem_of_getElem? hc)
   have C := refDigit_any c hc256 wr
   have hz5 := dgZ_base c hc256
   have hdb := dgB_iff HD.out.2.2.2.1 hc256
   obtain ⟨D, hD⟩ : ∃ d, dgZ c = d := ⟨_, rfl⟩
   rw [hD] at C hz5 hdb
   generalize hn : nbV b ((nats l).take k) 0 = n at *
   cases hq : dgB b c with
   | false =>
    have hbad := numZ_bad (most := most) (List.mem_of_getElem? hc) hq
    have HE := Lib.hid (show NZ = -1 by rw [← HD.out.1]; exact hbad)
    have HC := Lib.hid C
    rw [hq] at hdb
    by_cases hneg : D < 0
    ·clear hd hbd hz5 hdb C hn hbad
     go_wp2_with fail
     refine HC.out.mono ?_
     rintro e w1 ⟨rfl, rfl⟩
     go_wp2_with fail
     go_ret
     exact ⟨by rw [HE.out]; rfl, rfl⟩
    ·have hge : (b : Int) ≤ D := by
      have h1 : (decide (D < (b : Int))) = false := by
       have h2 : decide (0 ≤ D) = true := by simp; omega
       rw [h2, Bool.true_and] at hdb
       exact hdb.symm
      simp at h1
      omega
     clear hd hbd hz5 hdb C hn hbad
     go_wp2_with fail
     refine HC.out.mono ?_
     rintro e w1 ⟨rfl, rfl⟩
     go_wp2_with fail
     go_ret
     exact ⟨by rw [HE.out]; rfl, rfl⟩
   | true =>
    rw [hq] at hdb
    have hdd := hdb.symm
    simp only [Bool.and_eq_true, decide_eq_true_eq] at hdd
    have hDv := hz5.2.2.1 hdd.1
    have hdvl : dv c ≤ 15 := by omega
    have hb16 : b ≤ 16 := by rcases HD.out.2.2.2.1 with e | e <;> omega
    have hbn : b * n ≤ 16 * n := Nat.mul_le_mul_right _ hb16
    have hneg : ¬ D < 0 := by omega
    have hge : ¬ (b : Int) ≤ D := by omega
    have w1 : wrap64 ((b : Int) * (n : Int)) = ((b * n : Nat) : Int) := by
     rw [← Int.natCast_mul]
     exact wrap_id2 _ (Nat.le_trans hbn (Nat.mul_le_mul_left 16 (Nat.le_of_lt hbd)))
    have w2 : wrap64 (((b * n : Nat) : Int) + D) = ((b * n + dv c : Nat) : Int) := wrap_add2 _ _ _ hDv (Nat.add_le_add (Nat.le_trans hbn (Nat.mul_le_mul_left 16 (Nat.le_of_lt hbd))) hdvl)
    have hnx : nbV b ((nats l).take (k + 1)) 0 = b * n + dv c := by
     rw [List.take_add_one, hc, Option.toList_some, nbV_snoc, hn]
    have hdx : ∀ x ∈ (nats l).take (k + 1), dgB b x = true := fun x hx => by
     rw [List.take_add_one, hc, Option.toList_some] at hx
     rcases List.mem_append.1 hx with h | h
     ·exact hd x h
     ·rw [List.mem_singleton.1 h]; exact hq
    have HE := Lib.hid (And.intro hnx (And.intro hdx (And.intro w1 w2)))
    have HC := Lib.hid C
    generalize b * n = bn at *
    clear hd hbd hz5 hdb C hn hdd hDv hdvl hbn hnx hdx
    go_wp2_with fail
    refine HC.out.mono ?_
    rintro e w1 ⟨rfl, rfl⟩
    go_wp2_with fail
    go_roundw
    case rel => exact ⟨k + 1, by go_num, by omega, by rw [HE.out.1]; first | rfl | rw [HE.out.2.2.2], HE.out.2.1, trivial⟩
    case measure => simp [RowKit.intOf]; omega
def nmStr (x : NmE) : ByteArray := ⟨x.1.toArray⟩
def NL : List ByteArray := nmE.map nmStr
attribute [local irreducible] wpList Code.wp NR ZNR FR nmE NL
theorem wpList_assignC {P : Program} {ops : Array Oper} {Q : Exit → Act → World → Prop} {rest : List Oper} {o : Oper} {a : Act} {w : World} (hg : o.guard = none) (x : Operand) (ho : o.op = .assign x) (h : wpList P ops Q rest (a.put o.dst (a.eval x)) w) : wpList P ops Q (o :: rest) a w :=
 wpList_plain hg fun _ hK => by
  unfold Oper.wp execOp
  simp only [ho]
  exact hK _ _ h
def FS (v : Value) : Array Value := (#[v] ++ (nmE.map fun x => Value.agg (ncell x).toArray).toArray) ++ #[undef]
theorem info39 : (Tryz.prog.info? 186).map (fun i => (i.zero, i.size)) = some (some (.agg #[.string ⟨#[]⟩, .int .i32 0]), 2) := by kernel_rfl
theorem refNames_any (w : World) : Calls Tryz.prog 130 #[] w fun e w' => e = .returned (.slice (some ⟨w.heap.size, 0, none⟩) 26 26) ∧ w' = w.alloc (.cells NR 186) := by
 refine calls_of_wp Tryz.func130 rfl ?_
 apply wp_seq_k; intro K hK
 apply wp_region_lit
 refine wpList_assignC rfl _ rfl ?_
 apply wpList_nil
 refine hK _ _ ?_
 clear hK K
 apply wp_seq_k; intro K hK
 apply wp_region_lit
 refine wpList_splitAt 26 _ (List.take_append_drop 26 _).symm ?_
 refine wpList_builds _ _ (FS (.slice none 0 0)) (by as_aux_lemma => kernel_rfl) ?_
 cases hie : Tryz.prog.info? 186 with
 | none => have := info39; rw [hie] at this; cases this
 | some ie =>
  have h39 := info39
  rw [hie] at h39
  simp only [Option.map_some, Option.some.injEq, Prod.mk.injEq] at h39
  refine wpList_buildSlice rfl 183 186 26 _ rfl NR ie _ (by as_aux_lemma => kernel_rfl) hie h39.1 (by rw [h39.2]; decide) (by rw [h39.2]; decide) (by rw [h39.2]; as_aux_lemma => kernel_rfl) ?_
  refine wpList_assignC rfl _ rfl ?_
  apply wpList_nil
  refine hK _ _ ?_
  refine wp_ret ?_
  refine bodyPost_ret (v := .slice (some ⟨w.heap.size, 0, none⟩) 26 26) ?_ rfl ⟨rfl, rfl⟩
  kernel_rfl
end Go.Proofs.YtfafhbgkmlmmdaaGreatDoor
namespace Go.Proofs.YtfafhbgkmlmmdaaGreatDoor
open Go.RowKit Go.Shelf Go.Lib Go.Maps Go.Great
attribute [local irreducible] NR ZNR FR nmE NL
def innZ (i : List UInt8) : Int := match nmE.find? (isNm i) with
 | some x => x.2
 | none => if (nats i).getD 0 0 ≠ 35 then -1 else if 1 < i.length ∧ ((nats i).getD 1 0 = 120 ∨ (nats i).getD 1 0 = 88) then numZ 16 6 (nats (i.drop 2)) else numZ 10 7 (nats (i.drop 1))
def wholeZ (l : List UInt8) : Int := if l.length < 3 ∨ (nats l).getD 0 0 ≠ 38 ∨ (nats l).getD (l.length - 1) 0 ≠ 59 then -1 else innZ ((l.take (l.length - 1)).drop 1)
theorem slice_str (s : List UInt8) (lo hi : Nat) (h1 : lo ≤ hi) (h2 : hi ≤ s.length) (w : World) : (Instr.slice 9 (.string ⟨s.toArray⟩) (some (.int .i64 (lo : Int))) (some (.int .i64 (hi : Int))) none).run Tryz.prog w = .ok (.string ⟨((s.take hi).drop lo).toArray⟩) w := by
 have := run_slice_string (P := Tryz.prog) w 9 ⟨s.toArray⟩ .i64 .i64 (lo : Int) (hi : Int) Tryz.underlying9 (by omega) (by omega) (by show (hi : Int) ≤ ((s.length : Nat) : Int); omega)
 rw [this]
 have e : (ByteArray.extract ⟨s.toArray⟩ (lo : Int).toNat (hi : Int).toNat) = ⟨((s.take hi).drop lo).toArray⟩ := by
  apply ByteArray.ext
  simp [List.drop_take]
 rw [e]
theorem slice_str_l (s : List UInt8) (lo : Nat) (h2 : lo ≤ s.length) (w : World) : (Instr.slice 9 (.string ⟨s.toArray⟩) (some (.int .i64 (lo : Int))) none none).run Tryz.prog w = .ok (.string ⟨(s.drop lo).toArray⟩) w := by
 have := run_slice_string_l (P := Tryz.prog) w 9 ⟨s.toArray⟩ Tryz.underlying9 .i64 (lo : Int) (by omega) (by show (lo : Int) ≤ ((s.length : Nat) : Int); omega)
 rw [this]
 have e : (ByteArray.extract ⟨s.toArray⟩ (lo : Int).toNat (ByteArray.size ⟨s.toArray⟩)) = ⟨(s.drop lo).toArray⟩ := by
  apply ByteArray.ext
  simp [ByteArray.size]
  exact List.take_of_length_le (by rw [List.length_drop]; exact Nat.le_refl _)
 rw [e]
theorem refWhole_any (l : List UInt8) (hl : l.length ≤ 1000000) (w : World) : Calls Tryz.prog 99 #[.string ⟨l.toArray⟩] w fun e w' => e = .returned (.int .i32 (wholeZ l)) ∧ Below w.heap.size w w' := by
 obtain ⟨WZ, hWZ⟩ : ∃ v, wholeZ l = v := ⟨_, rfl⟩
 rw [hWZ]
 obtain ⟨N, hN⟩ : ∃ n, l.length = n := ⟨_, rfl⟩
 have HD := Lib.hid (And.intro hWZ hl)
 clear hWZ hl
 by_cases h3 : N < 3
 case pos =>
  have he : WZ = -1 := by rw [← HD.out.1, wholeZ, if_pos (Or.inl (by rw [hN]; exact h3))]
  have HE := Lib.hid he
  have h3z : (N : Int) < 3 := by omega
  clear he
  go_enter Tryz.func99, Tryz.ntmps99
  go_wp2_with fail
  go_ret
  exact ⟨by rw [HE.out]; rfl, Below.refl _ _⟩
 case neg =>
 have h3z : ¬ (N : Int) < 3 := by omega
 obtain ⟨M, hM⟩ : ∃ m, N = m + 3 := ⟨N - 3, by omega⟩
 subst hM
 have ix0 := index_at l 0 (by omega)
 replace ix0 : ∀ w, (Instr.index 9 (.string ⟨l.toArray⟩) (.int .i64 0)).run Tryz.prog w = .ok (.int .u8 (((nats l).getD 0 0 : Nat) : Int)) w := ix0
 have ixe := index_at l (M + 2) (by omega)
 obtain ⟨c0, hc0⟩ : ∃ c, (nats l).getD 0 0 = c := ⟨_, rfl⟩
 obtain ⟨ce, hce⟩ : ∃ c, (nats l).getD (M + 2) 0 = c := ⟨_, rfl⟩
 rw [hc0] at ix0
 rw [hce] at ixe
 have hMl : M + 3 ≤ 1000000 := by rw [← hN]; exact HD.out.2
 have eM : (M : Int) + 3 - 1 = ((M + 2 : Nat) : Int) := by omega
 have h3y : ¬ (M : Int) + 3 < 3 := by omega
 replace ixe : ∀ w, (Instr.index 9 (.string ⟨l.toArray⟩) (.int .i64 ((M : Int) + 3 - 1))).run Tryz.prog w = .ok (.int .u8 (ce : Int)) w := fun w => by rw [eM]; exact ixe w
 obtain ⟨inn, hin⟩ : ∃ x, (l.take (M + 2)).drop 1 = x := ⟨_, rfl⟩
 have hsl : ∀ w, (Instr.slice 9 (.string ⟨l.toArray⟩) (some (.int .i64 1)) (some (.int .i64 ((M : Int) + 3 - 1))) none).run Tryz.prog w = .ok (.string ⟨inn.toArray⟩) w := by
  rw [← hin, eM]
  exact slice_str l 1 (M + 2) (by omega) (by omega)
 have hinl : inn.length = M + 1 := by rw [← hin]; simp; omega
 clear eM
 have hwz : WZ = if c0 ≠ 38 ∨ ce ≠ 59 then -1 else innZ inn := by
  rw [← HD.out.1, wholeZ, hN, show M + 3 - 1 = M + 2 by omega, hc0, hce, hin]
  simp [show ¬ M + 3 < 3 by omega]
 by_cases h0 : c0 = 38
 case neg =>
  have hE := Lib.hid (show WZ = -1 by rw [hwz, if_pos (Or.inl h0)])
  have h01 : ¬ (c0 : Int) = 38 := by omega
  have h02 : ((c0 : Int) == 38) = false := by simp; omega
  clear hwz hsl ixe hc0 hce
  go_enter Tryz.func99, Tryz.ntmps99
  go_wp2_with fail
  go_ret
  exact ⟨by rw [hE.out]; rfl, Below.refl _ _⟩
 case pos =>
 subst h0
 by_cases he : ce = 59
 case neg =>
  have hE := Lib.hid (show WZ = -1 by rw [hwz, if_pos (Or.inr he)])
  have h01 : ¬ (ce : Int) = 59 := by omega
  have h02 : ((ce : Int) == 59) = false := by simp; omega
  clear hwz hsl hc0 hce
  go_enter Tryz.func99, Tryz.ntmps99
  go_wp2_with fail
  go_ret
  exact ⟨by rw [hE.out]; rfl, Below.refl _ _⟩
 case pos =>
 subst he
 have hwz : WZ = innZ inn := by rw [hwz, if_neg (by simp)]
 have ii0 := index_at inn 0 (by omega)
 replace ii0 : ∀ w, (Instr.index 9 (.string ⟨inn.toArray⟩) (.int .i64 0)).run Tryz.prog w = .ok (.int .u8 (((nats inn).getD 0 0 : Nat) : Int)) w := ii0
 have HW := Lib.hid (And.intro hwz ii0)
 clear hwz hc0 hce hin ii0
 go_enter Tryz.func99, Tryz.ntmps99
 go_wp2_with fail
 refine (refNames_any w).mono ?_
 rintro r w1 ⟨rfl, hw1⟩
 have x1 : Cells w1 w.heap.size 186 NR := by rw [hw1]; exact cells_new _ _ _
 have hb1 : Below w.heap.size w w1 := by rw [hw1]; exact below_new _ _
 have H1 := Lib.hid (And.intro x1 hb1)
 clear x1 hb1 hw1
 go_wp2_with fail
 go_loopw [6] (fun i wr => ∃ k : Nat, i = .int .i64 (k : Int) ∧ k ≤ 26 ∧ (∀ (j : Nat) (y : NmE), j < k → nmE[j]? = some y → isNm inn y = false) ∧ wr = w1) (fun i _ => 26 - (RowKit.intOf i).toNat)
 case atStart => exact ⟨0, rfl, by decide, fun j y hj => absurd hj (by omega), rfl⟩
 case round =>
  obtain ⟨k, rfl, hk, hj, rfl⟩ := hrel
  by_cases hlt : k < 26
  case pos =>
   have i1 : (k : Int) < 26 := by omega
   obtain ⟨⟨s, z⟩, hx⟩ := at_lt (l := nmE) (k := k) (by rw [nmE_len]; exact hlt)
   obtain ⟨r0, r1⟩ := NR_at hx
   have c1 : wr.cell? ⟨w.heap.size, k * 2, none⟩ = some (.string ⟨s.toArray⟩) := (Cells.cell H1.out.1 (k * 2)).trans r0
   have c2 : wr.cell? ⟨w.heap.size, k * 2 + 1, none⟩ = some (.int .i32 z) := (Cells.cell H1.out.1 (k * 2 + 1)).trans r1
   by_cases hs : s = inn
   case pos =>
    have hf := (idx_some (p := isNm inn) hx (by simp [isNm, hs]) hj).2
    have hE := Lib.hid (show WZ = z by rw [HW.out.1, innZ, hf])
    have HS := Lib.hid hs
    subst hs
    clear hj hx r0 r1 hf
    go_wp2_with fail
    go_ret
    exact ⟨by first | rfl | (rw [hE.out]; rfl) | (rw [hE.out]) | (rw [← HW.out.1, hE.out]; rfl) | (rw [← HW.out.1, hE.out]), H1.out.2⟩
   case neg =>
    have hs2 : (s == inn) = false := by simpa using hs
    have hend : ∀ (j : Nat) (y : NmE), j < k + 1 → nmE[j]? = some y → isNm inn y = false := fun j y h hy => by
     by_cases e : j = k
     ·subst e
      obtain rfl := Option.some.inj (hx.symm.trans hy)
      exact hs2
     ·exact hj j y (by omega) hy
    have HE := Lib.hid hend
    clear hend hj hx r0 r1
    go_wp2_with fail
    go_roundw
    case rel => exact ⟨k + 1, by go_num, by omega, HE.out, trivial⟩
    case measure => simp [RowKit.intOf]; omega
  case neg =>
   obtain rfl : k = 26 := by omega
   have hf := (idx_none (p := isNm inn) fun j x hx => hj j x (by have := (List.getElem?_eq_some_iff.1 hx).1; rw [nmE_len] at this; exact this) hx).2
   have hz : WZ = if (nats inn).getD 0 0 ≠ 35 then -1 else if 1 < inn.length ∧ ((nats inn).getD 1 0 = 120 ∨ (nats inn).getD 1 0 = 88) then numZ 16 6 (nats (inn.drop 2)) else numZ 10 7 (nats (inn.drop 1)) := by
    rw [HW.out.1, innZ, hf]
   have ii0 := HW.out.2
   have N2 := fun W => refNumber_any (b := 16) (most := 6) (Or.inr rfl) (by decide) (inn.drop 2) (by rw [List.length_drop]; have := HD.out.2; omega) W
   have N1 := fun W => refNumber_any (b := 10) (most := 7) (Or.inl rfl) (by decide) (inn.drop 1) (by rw [List.length_drop]; have := HD.out.2; omega) W
   have sl1 : ∀ w, (Instr.slice 9 (.string ⟨inn.toArray⟩) (some (.int .i64 1)) none none).run Tryz.prog w = .ok (.string ⟨(inn.drop 1).toArray⟩) w := slice_str_l inn 1 (by omega)
   obtain ⟨t1, ht1⟩ : ∃ t, inn.drop 1 = t := ⟨_, rfl⟩
   rw [ht1] at hz N1 sl1
   obtain ⟨d0, hd0⟩ : ∃ d, (nats inn).getD 0 0 = d := ⟨_, rfl⟩
   obtain ⟨d1, hd1⟩ : ∃ d, (nats inn).getD 1 0 = d := ⟨_, rfl⟩
   rw [hd0] at hz ii0
   rw [hd1] at hz
   by_cases h35 : d0 = 35
   case neg =>
    have h351 : ¬ (d0 : Int) = 35 := by omega
    have h352 : ((d0 : Int) == 35) = false := by simp; omega
    have hE := Lib.hid (show WZ = -1 by rw [hz, if_pos h35])
    clear hz hf hj N1 N2 hd0 hd1 sl1 ht1
    go_wp2_with fail
    go_ret
    exact ⟨by rw [hE.out]; rfl, H1.out.2⟩
   case pos =>
   subst h35
   rw [if_neg (by simp), hinl] at hz
   by_cases hM0 : M = 0
   case pos =>
    have hM1 : ¬ (1 : Int) < (M : Int) + 1 := by omega
    have hM2 : (M : Int) + 1 ≤ 1 := by omega
    have hE := Lib.hid (show WZ = numZ 10 7 (nats t1) by rw [hz, if_neg (by omega)])
    have HN := Lib.hid N1
    clear hz hf hj N1 N2 hd0 hd1 ht1
    go_wp2_with fail
    refine (HN.out _).mono ?_
    rintro r w2 ⟨rfl, rfl⟩
    go_wp2_with fail
    go_ret
    exact ⟨by rw [hE.out]; rfl, H1.out.2⟩
   case neg =>
   have hM1 : (1 : Int) < (M : Int) + 1 := by omega
   have ii1 := index_at inn 1 (by omega)
   replace ii1 : ∀ w, (Instr.index 9 (.string ⟨inn.toArray⟩) (.int .i64 1)).run Tryz.prog w = .ok (.int .u8 (((nats inn).getD 1 0 : Nat) : Int)) w := ii1
   rw [hd1] at ii1
   have sl2 : ∀ w, (Instr.slice 9 (.string ⟨inn.toArray⟩) (some (.int .i64 2)) none none).run Tryz.prog w = .ok (.string ⟨(inn.drop 2).toArray⟩) w := slice_str_l inn 2 (by omega)
   have HN1 := Lib.hid N1
   have HN2 := Lib.hid N2
   clear N1 N2
   by_cases hX : d1 = 120
   case pos =>
    subst hX
    have hE := Lib.hid (show WZ = numZ 16 6 (nats (inn.drop 2)) by rw [hz, if_pos ⟨by omega, Or.inl rfl⟩])
    clear hz hf hj hd0 hd1 ht1
    go_wp2_with fail
    refine (HN2.out _).mono ?_
    rintro r w2 ⟨rfl, rfl⟩
    go_wp2_with fail
    go_ret
    exact ⟨by rw [hE.out]; rfl, H1.out.2⟩
   case neg =>
   have hX1 : ¬ (d1 : Int) = 120 := by omega
   have hX2 : ((d1 : Int) == 120) = false := by simp; omega
   by_cases hY : d1 = 88
   case pos =>
    subst hY
    have hE := Lib.hid (show WZ = numZ 16 6 (nats (inn.drop 2)) by rw [hz, if_pos ⟨by omega, Or.inr rfl⟩])
    clear hz hf hj hd0 hd1 ht1
    go_wp2_with fail
    refine (HN2.out _).mono ?_
    rintro r w2 ⟨rfl, rfl⟩
    go_wp2_with fail
    go_ret
    exact ⟨by rw [hE.out]; rfl, H1.out.2⟩
   case neg =>
    have hY1 : ¬ (d1 : Int) = 88 := by omega
    have hY2 : ((d1 : Int) == 88) = false := by simp; omega
    have hE := Lib.hid (show WZ = numZ 10 7 (nats t1) by rw [hz, if_neg (by
     rintro ⟨_, e | e⟩
     ·exact hX e
     ·exact hY e)])
    clear hz hf hj hd0 hd1 ht1
    go_wp2_with fail
    refine (HN1.out _).mono ?_
    rintro r w2 ⟨rfl, rfl⟩
    go_wp2_with fail
    go_ret
    exact ⟨by rw [hE.out]; rfl, H1.out.2⟩
def cutT (xs : List Nat) (k n : Nat) : List Nat := (xs.take (k + n)).drop k
def refFrom (xs : List Nat) (k : Nat) : Nat → Nat → Int × Nat
 | 0, _ => (0, 0)
 | f + 1, n => if k + n ≤ xs.length then (if 0 ≤ wholeZ (u8s (cutT xs k n)) then (wholeZ (u8s (cutT xs k n)), n) else refFrom xs k f (n + 1)) else (0, 0)
theorem refReadE_any (w : World) (xs : List Nat) (A : Option Addr) (cap : Nat) (hx : BY w w.heap.size xs A cap) (hlen : xs.length ≤ 1000) (k : Nat) (hk : k < xs.length) :
  Calls Tryz.prog 75 #[.slice A xs.length cap, .int .i64 (k : Int)] w fun e w' => e = .returned (.tuple #[.int .i32 (refFrom xs k 8 3).1, .int .i64 ((refFrom xs k 8 3).2 : Nat)]) ∧ Below w.heap.size w w' := by
 obtain ⟨RE, hRE⟩ : ∃ v, refFrom xs k 8 3 = v := ⟨_, rfl⟩
 rw [hRE]
 obtain ⟨b, o, rfl, hbl, _⟩ := hx.r (by rintro rfl; simp at hk)
 obtain ⟨N, hN⟩ : ∃ n, xs.length = n := ⟨_, rfl⟩
 have HD := Lib.hid (And.intro hRE (And.intro hx (And.intro hlen hk)))
 have hcl := hx.l
 rw [hN] at hlen hk hcl ⊢
 clear hRE hx hbl
 go_enter Tryz.func75, Tryz.ntmps75
 go_wp2_with fail
 go_loopw [6] (fun i wr => ∃ (f n : Nat), i = .int .i64 (n : Int) ∧ f + n = 11 ∧ 3 ≤ n ∧ RE = refFrom xs k f n ∧ Below w.heap.size w wr) (fun i _ => 12 - (RowKit.intOf i).toNat)
 case atStart => exact ⟨8, 3, rfl, rfl, by decide, HD.out.1.symm, Below.refl _ _⟩
 case round =>
  obtain ⟨f, n, rfl, hfn, h3, hre, hb⟩ := hrel
  cases f with
  | zero =>
   have hn : ¬ (n : Int) ≤ 10 := by omega
   have HE := Lib.hid (And.intro (show RE = (0, 0) from hre) hb)
   clear hre hb
   go_wp2_with fail
   refine bodyPost_ret (v := .tuple #[.int .i32 0, .int .i64 0]) ?_ rfl ⟨by rw [HE.out.1]; rfl, HE.out.2⟩
   simp [results, Tryz.results75, go_sem]
  | succ f =>
   have hn : (n : Int) ≤ 10 := by omega
   have wa : wrap64 ((k : Int) + (n : Int)) = (k : Int) + (n : Int) := by unfold wrap64; omega
   rw [refFrom, hN] at hre
   by_cases hkn : k + n ≤ N
   case neg =>
    have hkn2 : ¬ (k : Int) + (n : Int) ≤ (N : Int) := by omega
    rw [if_neg hkn] at hre
    have HE := Lib.hid (And.intro hre hb)
    clear hre hb
    go_wp2_with fail
    refine bodyPost_ret (v := .tuple #[.int .i32 0, .int .i64 0]) ?_ rfl ⟨by rw [HE.out.1]; rfl, HE.out.2⟩
    simp [results, Tryz.results75, go_sem]
   case pos =>
    have hkn2 : (k : Int) + (n : Int) ≤ (N : Int) := by omega
    rw [if_pos hkn] at hre
    have e1 : (k : Int) + (n : Int) = ((k + n : Nat) : Int) := by omega
    have e2 : k + n - k = n := by omega
    have hsl : ∀ W, (Instr.slice 22 (.slice (some ⟨b, o, none⟩) N cap) (some (.int .i64 (k : Int))) (some (.int .i64 ((k : Int) + (n : Int)))) none).run Tryz.prog W = .ok (.slice (some ⟨b, o + k, none⟩) n (cap - k)) W := fun W => by
     have := slice_win b o N cap k (k + n) (by omega) (by omega) (by omega) W
     rw [e2] at this
     rw [e1]
     exact this
    have hcl2 : (cutT xs k n).length = n := by rw [cutT, List.length_drop, List.length_take, hN]; omega
    have hcv := conv_by ((HD.out.2.1.on hb).win k (k + n) (by omega) (by rw [hN]; exact hkn))
    rw [show (xs.take (k + n)).drop k = cutT xs k n from rfl, hcl2] at hcv
    generalize cutT xs k n = C at *
    have K := refWhole_any (u8s C) (by rw [u8s, List.length_map]; omega) wr
    obtain ⟨Z, hZ⟩ : ∃ z, wholeZ (u8s C) = z := ⟨_, rfl⟩
    rw [hZ] at K hre
    by_cases hz : 0 ≤ Z
    case pos =>
     rw [if_pos hz] at hre
     have HE := Lib.hid (And.intro hre (And.intro hb K))
     clear hre hb K e1 e2 hcl2 hZ
     go_wp2_with fail
     refine HE.out.2.2.mono ?_
     rintro e w1 ⟨rfl, hb1⟩
     have HB := Lib.hid (HE.out.2.1.trans (hb1.mono HE.out.2.1.size))
     clear hb1
     go_wp2_with fail
     refine bodyPost_ret (v := .tuple #[.int .i32 Z, .int .i64 (n : Int)]) ?_ rfl ⟨by rw [HE.out.1], HB.out⟩
     simp [results, Tryz.results75, go_sem]
    case neg =>
     rw [if_neg hz] at hre
     have HE := Lib.hid (And.intro hre (And.intro hb K))
     clear hre hb K e1 e2 hcl2 hZ
     go_wp2_with fail
     refine HE.out.2.2.mono ?_
     rintro e w1 ⟨rfl, hb1⟩
     have HB := Lib.hid (HE.out.2.1.trans (hb1.mono HE.out.2.1.size))
     clear hb1
     go_wp2_with fail
     go_roundw
     case rel => exact ⟨f, n + 1, by go_num, by omega, by omega, HE.out.1, HB.out⟩
     case measure => simp [RowKit.intOf]; omega
end Go.Proofs.YtfafhbgkmlmmdaaGreatDoor
namespace Go.Proofs.YtfafhbgkmlmmdaaGreatDoor
open Go.RowKit Go.Shelf Go.Lib Go.Maps Go.Great
theorem refFrom_none {xs : List Nat} {k : Nat} : ∀ (f n : Nat), (∀ j, n ≤ j → k + j ≤ xs.length → ¬ 0 ≤ wholeZ (u8s (cutT xs k j))) → refFrom xs k f n = (0, 0)
 | 0, n, _ => rfl
 | f + 1, n, h => by
  rw [refFrom]
  split
  ·rename_i hk
   rw [if_neg (h n (Nat.le_refl _) hk), refFrom_none f (n + 1) (fun j hj => h j (by omega))]
  ·rfl
theorem refFrom_hit {xs : List Nat} {k p : Nat} (hp : k + p ≤ xs.length) (hw : 0 ≤ wholeZ (u8s (cutT xs k p))) : ∀ (f n : Nat), n ≤ p → p < n + f → (∀ j, n ≤ j → j < p → ¬ 0 ≤ wholeZ (u8s (cutT xs k j))) → refFrom xs k f n = (wholeZ (u8s (cutT xs k p)), p)
 | 0, n, h1, h2, _ => by omega
 | f + 1, n, h1, h2, h => by
  rw [refFrom, if_pos (by omega)]
  by_cases e : n = p
  ·subst e
   rw [if_pos hw]
  ·rw [if_neg (h n (Nat.le_refl _) (by omega)), refFrom_hit hp hw f (n + 1) (by omega) (by omega) (fun j hj => h j (by omega))]
theorem nm_inn : ∀ x ∈ nmE, 59 ∉ nats x.1 ∧ 2 ≤ x.1.length ∧ x.1.length ≤ 8 ∧ 0 ≤ x.2 ∧ (nats x.1).getD 0 0 ≠ 35 := by decide +kernel
theorem numZ_ok {b most : Nat} {u : List Nat} (h : 0 ≤ numZ b most u) : u ≠ [] ∧ u.length ≤ most ∧ (∀ x ∈ u, dgB b x = true) ∧ numZ b most u = mnR (nbV b u 0) := by
 unfold numZ at h ⊢
 split at h
 ·omega
 ·rename_i h1
  rw [if_neg h1]
  split at h
  ·rename_i h2
   rw [if_pos h2]
   exact ⟨fun e => h1 (Or.inl e), by
    rcases Nat.lt_or_ge most u.length with e | e
    ·exact absurd (Or.inr e) h1
    ·exact e, List.all_eq_true.1 h2, rfl⟩
  ·omega
theorem fol_last {may : List Nat → Nat → Bool} {xs : List Nat} {h m : Nat} : ∀ (r : List Nat) (n : Nat), r = xs.drop n → h ≤ n → fol may xs h n r = (m, true) → xs[m - 1]? = some 59 ∧ may ((xs.take (m - 1)).drop h) 59 = true ∧ ∀ j, n ≤ j → j < m - 1 → xs[j]? ≠ some 59
 | [], n, _, _, e => by simp [fol] at e
 | c :: r, n, hr, hh, e => by
  have hx : xs[n]? = some c := by have := congrArg (·[0]?) hr; simpa using this.symm
  have hr2 : r = xs.drop (n + 1) := by
   have := drop_at hx
   rw [← hr] at this
   injection this
  have hft := fun e => fol_true (may := may) (h := h) (m := m) r (n + 1) hr2 (by omega) e
  rw [fol] at e
  split at e
  ·rename_i hmay
   split at e
   ·rename_i hc
    simp at e
    obtain rfl := e
    subst hc
    refine ⟨by simpa using hx, by simpa using hmay, fun j h1 h2 => by omega⟩
   ·rename_i hc
    obtain ⟨h1, h2, h3⟩ := fol_last r (n + 1) hr2 (by omega) e
    refine ⟨h1, h2, fun j hj hjm => ?_⟩
    by_cases e2 : j = n
    ·subst e2
     rw [hx]
     intro e3
     injection e3 with e3
     exact hc e3
    ·exact h3 j (by omega) hjm
  ·simp at e
theorem fol_whole {may : List Nat → Nat → Bool} {xs : List Nat} {h p : Nat} (hp : xs[p]? = some 59) (hl : may ((xs.take p).drop h) 59 = true) (hm : ∀ j c, h ≤ j → j < p → xs[j]? = some c → c ≠ 59 ∧ may ((xs.take j).drop h) c = true) : ∀ (r : List Nat) (n : Nat), r = xs.drop n → h ≤ n → n ≤ p → fol may xs h n r = (p + 1, true)
 | [], n, hr, _, hn => by
  have := congrArg List.length hr
  have h1 := (List.getElem?_eq_some_iff.1 hp).1
  simp at this
  omega
 | c :: r, n, hr, hh, hn => by
  have hx : xs[n]? = some c := by have := congrArg (·[0]?) hr; simpa using this.symm
  have hr2 : r = xs.drop (n + 1) := by
   have := drop_at hx
   rw [← hr] at this
   injection this
  rw [fol]
  by_cases e : n = p
  ·subst e
   obtain rfl := Option.some.inj (hx.symm.trans hp)
   rw [if_pos hl, if_pos rfl]
  ·obtain ⟨h1, h2⟩ := hm n c hh (by omega) hx
   rw [if_pos h2, if_neg h1]
   exact fol_whole hp hl hm r (n + 1) hr2 (by omega) (by omega)
theorem scR_pos (r : Int) : 0 ≤ scR r := by
 have := (valid_iff (scR r)).1 (scR_valid r)
 omega
theorem mnR_pos (n : Nat) : 0 ≤ mnR n := by
 unfold mnR
 split
 ·decide
 ·exact scR_pos _
theorem numZ_eq {b most : Nat} {u : List Nat} (h0 : u ≠ []) (hm : u.length ≤ most) (hd : ∀ x ∈ u, dgB b x = true) : numZ b most u = mnR (nbV b u 0) := by
 rw [numZ, if_neg (fun e => e.elim h0 (fun e => absurd hm (by omega))), if_pos (List.all_eq_true.2 hd)]
theorem find_hash {l : List UInt8} (h : (nats l).getD 0 0 = 35) : nmE.find? (isNm l) = none := by
 rw [List.find?_eq_none]
 intro x hx e
 have h1 : x.1 = l := by simpa [isNm] using e
 exact (nm_inn x hx).2.2.2.2 (by rw [h1]; exact h)
theorem nats_drop (l : List UInt8) (k : Nat) : nats (l.drop k) = (nats l).drop k := by simp [nats]
theorem nats_length (l : List UInt8) : (nats l).length = l.length := by simp [nats]
theorem innZ_hex {l : List UInt8} {X : Nat} {ds : List Nat} (hl : nats l = 35 :: X :: ds) (hX : X = 120 ∨ X = 88) (h0 : ds ≠ []) (hm : ds.length ≤ 6) (hd : ∀ x ∈ ds, dgB 16 x = true) : innZ l = mnR (nbV 16 ds 0) := by
 have hf := find_hash (l := l) (by rw [hl]; rfl)
 have hlen : l.length = ds.length + 2 := by rw [← nats_length, hl]; rfl
 rw [innZ, hf]
 simp only
 rw [if_neg (by rw [hl]; simp), if_pos ⟨by omega, by rw [hl]; exact hX⟩, nats_drop, hl]
 exact numZ_eq h0 hm hd
theorem dg10_x {c : Nat} (h : dgB 10 c = true) : c ≠ 120 ∧ c ≠ 88 ∧ c ≠ 59 := by
 refine ⟨?_, ?_, ?_⟩ <;> (rintro rfl; revert h; decide)
theorem dg16_x {c : Nat} (h : dgB 16 c = true) : c ≠ 59 := by
 rintro rfl
 revert h
 decide
theorem innZ_dec {l : List UInt8} {ds : List Nat} (hl : nats l = 35 :: ds) (h0 : ds ≠ []) (hm : ds.length ≤ 7) (hd : ∀ x ∈ ds, dgB 10 x = true) : innZ l = mnR (nbV 10 ds 0) := by
 have hf := find_hash (l := l) (by rw [hl]; rfl)
 have hd0 : ¬ (1 < l.length ∧ ((nats l).getD 1 0 = 120 ∨ (nats l).getD 1 0 = 88)) := by
  rintro ⟨_, e⟩
  rw [hl] at e
  cases ds with
  | nil => exact h0 rfl
  | cons d r =>
   have := dg10_x (hd d (by simp))
   simp at e
   omega
 rw [innZ, hf]
 simp only
 rw [if_neg (by rw [hl]; simp), if_neg hd0, nats_drop, hl]
 exact numZ_eq h0 hm hd
theorem innZ_ok {l : List UInt8} (h : 0 ≤ innZ l) : (∃ x, x ∈ nmE ∧ nmE.find? (isNm l) = some x ∧ x.1 = l) ∨ (∃ X ds, nats l = 35 :: X :: ds ∧ (X = 120 ∨ X = 88) ∧ ds ≠ [] ∧ ds.length ≤ 6 ∧ ∀ x ∈ ds, dgB 16 x = true) ∨ (∃ ds, nats l = 35 :: ds ∧ ds ≠ [] ∧ ds.length ≤ 7 ∧ ∀ x ∈ ds, dgB 10 x = true) := by
 unfold innZ at h
 cases hf : nmE.find? (isNm l) with
 | some x => exact Or.inl ⟨x, List.mem_of_find?_eq_some hf, rfl, by simpa [isNm] using List.find?_some hf⟩
 | none =>
  rw [hf] at h
  simp only at h
  split at h
  ·omega
  ·rename_i h35
   have h35 : (nats l).getD 0 0 = 35 := by omega
   cases hl : nats l with
   | nil => rw [hl] at h35; simp at h35
   | cons c u =>
    obtain rfl : c = 35 := by rw [hl] at h35; simpa using h35
    split at h
    ·rename_i hx
     cases u with
     | nil =>
      have := nats_length l
      rw [hl] at this
      simp at this
      omega
     | cons X ds =>
      rw [nats_drop, hl] at h
      obtain ⟨a1, a2, a3, _⟩ := numZ_ok h
      exact Or.inr (Or.inl ⟨X, ds, rfl, by have := hx.2; rw [hl] at this; simpa using this, a1, a2, a3⟩)
    ·rw [nats_drop, hl] at h
     obtain ⟨a1, a2, a3, _⟩ := numZ_ok h
     exact Or.inr (Or.inr ⟨u, rfl, a1, a2, a3⟩)
theorem innZ_len {l : List UInt8} (h : 0 ≤ innZ l) : 59 ∉ nats l ∧ 2 ≤ l.length ∧ l.length ≤ 8 := by
 rcases innZ_ok h with ⟨x, hx, _, rfl⟩ | ⟨X, ds, hl, hX, h0, hm, hd⟩ | ⟨ds, hl, h0, hm, hd⟩
 ·have := nm_inn x hx
  exact ⟨this.1, this.2.1, this.2.2.1⟩
 ·have hlen := nats_length l
  rw [hl] at hlen ⊢
  have h1 : 0 < ds.length := List.length_pos_iff.2 h0
  simp at hlen
  refine ⟨?_, by omega, by omega⟩
  intro hm
  simp only [List.mem_cons] at hm
  rcases hm with e | e | e
  ·omega
  ·omega
  ·exact dg16_x (hd 59 e) rfl
 ·have hlen := nats_length l
  rw [hl] at hlen ⊢
  have h1 : 0 < ds.length := List.length_pos_iff.2 h0
  simp at hlen
  refine ⟨?_, by omega, by omega⟩
  intro hm
  simp only [List.mem_cons] at hm
  rcases hm with e | e
  ·omega
  ·exact (dg10_x (hd 59 e)).2.2 rfl
def inner (ys : List Nat) (n : Nat) : List Nat := (ys.take (n - 1)).drop 1
structure Good (ys : List Nat) (n : Nat) : Prop where
 h3 : 3 ≤ n
 hn : n ≤ ys.length
 he : ys[n - 1]? = some 59
 hi : 0 ≤ innZ (u8s (inner ys n))
theorem inner_len {ys : List Nat} {n : Nat} (h : n ≤ ys.length) : (inner ys n).length = n - 2 := by simp [inner]; omega
theorem inner_at {ys : List Nat} {n j c : Nat} (h1 : 1 ≤ j) (h2 : j < n - 1) (hc : ys[j]? = some c) : (inner ys n)[j - 1]? = some c := by
 rw [inner, List.getElem?_drop, show 1 + (j - 1) = j by omega, List.getElem?_take, if_pos h2, hc]
theorem u8s_lenE (l : List Nat) : (u8s l).length = l.length := by simp [u8s]
theorem inner_lt {ys : List Nat} (h : ∀ x ∈ ys, x < 256) (n : Nat) : ∀ x ∈ inner ys n, x < 256 := fun x hx => h x (List.mem_of_mem_take (List.mem_of_mem_drop hx))
theorem good_no {ys : List Nat} (h256 : ∀ x ∈ ys, x < 256) {n j : Nat} (h : Good ys n) (h1 : 1 ≤ j) (h2 : j < n - 1) : ys[j]? ≠ some 59 := fun hc => by
 have := (innZ_len h.hi).1
 rw [nats_u8s _ (inner_lt h256 n)] at this
 exact this (List.mem_of_getElem? (inner_at h1 h2 hc))
theorem good_uni {ys : List Nat} (h256 : ∀ x ∈ ys, x < 256) {n m : Nat} (h : Good ys n) (h' : Good ys m) : n = m := by
 have a := h.h3
 have b := h'.h3
 rcases Nat.lt_trichotomy n m with e | e | e
 ·exact absurd h.he (good_no h256 h' (j := n - 1) (by omega) (by omega))
 ·exact e
 ·exact absurd h'.he (good_no h256 h (j := m - 1) (by omega) (by omega))
theorem good_10 {ys : List Nat} {n : Nat} (h : Good ys n) : n ≤ 10 ∧ 4 ≤ n := by
 have h1 := (innZ_len h.hi).2
 have h3 := h.h3
 rw [u8s_lenE, inner_len h.hn] at h1
 omega
theorem cut_eq (xs : List Nat) (k n : Nat) : cutT xs k n = (xs.drop k).take n := by
 rw [cutT, List.drop_take]
 congr 1
 omega
theorem whole_eq {ys : List Nat} (h256 : ∀ x ∈ ys, x < 256) {n : Nat} (h3 : 3 ≤ n) (hn : n ≤ ys.length) : wholeZ (u8s (ys.take n)) = if ys.getD 0 0 ≠ 38 ∨ ys.getD (n - 1) 0 ≠ 59 then -1 else innZ (u8s (inner ys n)) := by
 have hl : (ys.take n).length = n := by rw [List.length_take]; omega
 have hN : nats (u8s (ys.take n)) = ys.take n := nats_u8s _ fun x hx => h256 x (List.mem_of_mem_take hx)
 have g0 : (ys.take n).getD 0 0 = ys.getD 0 0 := by
  simp only [List.getD_eq_getElem?_getD, List.getElem?_take]
  rw [if_pos (by omega)]
 have g1 : (ys.take n).getD (n - 1) 0 = ys.getD (n - 1) 0 := by
  simp only [List.getD_eq_getElem?_getD, List.getElem?_take]
  rw [if_pos (by omega)]
 have hin : ((u8s (ys.take n)).take (n - 1)).drop 1 = u8s (inner ys n) := by
  simp only [u8s, inner, List.map_drop, List.map_take, List.take_take]
  rw [show min (n - 1) n = n - 1 by omega]
 rw [wholeZ, u8s_lenE, hl, hN, g0, g1, hin]
 by_cases hc : ys.getD 0 0 ≠ 38 ∨ ys.getD (n - 1) 0 ≠ 59
 ·rw [if_pos hc, if_pos (Or.inr hc)]
 ·rw [if_neg hc, if_neg (fun e => e.elim (fun e => by omega) hc)]
theorem whole_good {ys : List Nat} (h256 : ∀ x ∈ ys, x < 256) {n : Nat} (h3 : 3 ≤ n) (hn : n ≤ ys.length) (h : 0 ≤ wholeZ (u8s (ys.take n))) : ys.getD 0 0 = 38 ∧ Good ys n := by
 rw [whole_eq h256 h3 hn] at h
 split at h
 ·omega
 ·rename_i hc
  have c0 : ys.getD 0 0 = 38 := Classical.byContradiction fun e => hc (Or.inl e)
  have c1 : ys.getD (n - 1) 0 = 59 := Classical.byContradiction fun e => hc (Or.inr e)
  refine ⟨c0, h3, hn, ?_, h⟩
  obtain ⟨c, hcc⟩ := at_lt (l := ys) (k := n - 1) (by omega)
  rw [List.getD_eq_getElem?_getD, hcc] at c1
  rw [hcc]
  exact congrArg some c1
theorem good_whole {ys : List Nat} (h256 : ∀ x ∈ ys, x < 256) {n : Nat} (h0 : ys.getD 0 0 = 38) (h : Good ys n) : wholeZ (u8s (ys.take n)) = innZ (u8s (inner ys n)) := by
 rw [whole_eq h256 h.h3 h.hn, if_neg]
 rintro (e | e)
 ·exact e h0
 ·rw [List.getD_eq_getElem?_getD, h.he] at e
  exact e rfl
theorem ref_good {xs : List Nat} {k n : Nat} (h256 : ∀ x ∈ xs.drop k, x < 256) (hk : k < xs.length) (h0 : (xs.drop k).getD 0 0 = 38) (h : Good (xs.drop k) n) : refFrom xs k 8 3 = (innZ (u8s (inner (xs.drop k) n)), n) := by
 have hl : (xs.drop k).length = xs.length - k := List.length_drop
 have hn := h.hn
 have hw := good_whole h256 h0 h
 have := refFrom_hit (xs := xs) (k := k) (p := n) (by omega) (by rw [cut_eq, hw]; exact h.hi) 8 3 h.h3 (by have := (good_10 h).1; omega) (fun j h3 hj hz => by
  rw [cut_eq] at hz
  have := (whole_good h256 h3 (by omega) hz).2
  have := good_uni h256 h this
  omega)
 rw [this, cut_eq, hw]
theorem ref_none {xs : List Nat} {k : Nat} (h256 : ∀ x ∈ xs.drop k, x < 256) (hk : k < xs.length) (h : ∀ n, (xs.drop k).getD 0 0 = 38 → ¬ Good (xs.drop k) n) : refFrom xs k 8 3 = (0, 0) := by
 have hl : (xs.drop k).length = xs.length - k := List.length_drop
 refine refFrom_none 8 3 fun j h3 hj hz => ?_
 rw [cut_eq] at hz
 obtain ⟨a, b⟩ := whole_good h256 h3 (by omega) hz
 exact h j a b
theorem readS_is {ys : List Nat} {Z : Int} {n : Nat} : ∀ (L : List Sty), (∀ s ∈ L, ∀ m, followR s.beg s.may ys = (m, true) → s.means ((ys.take (m - 1)).drop s.beg.length) = Z ∧ m = n) → (∃ s ∈ L, ∃ m, followR s.beg s.may ys = (m, true)) → readS L ys = (Z, n)
 | [], _, h => by obtain ⟨s, hs, _⟩ := h; cases hs
 | s :: L, h1, h2 => by
  rw [readS]
  obtain ⟨m, b, hf⟩ : ∃ m b, followR s.beg s.may ys = (m, b) := ⟨_, _, rfl⟩
  rw [hf]
  cases b with
  | true =>
   obtain ⟨e1, e2⟩ := h1 s (by simp) m hf
   simp only [if_true]
   rw [e1, e2]
  | false =>
   simp only [Bool.false_eq_true, if_false]
   refine readS_is L (fun s' hs' => h1 s' (by simp [hs'])) ?_
   obtain ⟨s', hs', m', hf'⟩ := h2
   rcases List.mem_cons.1 hs' with rfl | hs'
   ·rw [hf] at hf'
    cases hf'
   ·exact ⟨s', hs', m', hf'⟩
theorem readS_none {ys : List Nat} : ∀ (L : List Sty), (∀ s ∈ L, ∀ m, followR s.beg s.may ys ≠ (m, true)) → readS L ys = (0, 0)
 | [], _ => rfl
 | s :: L, h1 => by
  rw [readS]
  obtain ⟨m, b, hf⟩ : ∃ m b, followR s.beg s.may ys = (m, b) := ⟨_, _, rfl⟩
  rw [hf]
  cases b with
  | true => exact absurd hf (h1 s (by simp) m)
  | false =>
   simp only [Bool.false_eq_true, if_false]
   exact readS_none L fun s' hs' => h1 s' (by simp [hs'])
theorem isMy_59 (l : List Nat) : isMy l 59 = isNm (u8s l) := by
 funext x
 rw [isMy, if_pos rfl]
 rfl
theorem style_n {ys : List Nat} (_h256 : ∀ x ∈ ys, x < 256) {m : Nat} (h : followR [38] mayNm ys = (m, true)) : Good ys m ∧ nmR (u8s ((ys.take (m - 1)).drop 1)) = innZ (u8s (inner ys m)) := by
 have hm := follow_true h
 simp only [List.length_singleton] at hm
 rw [followR] at h
 split at h
 ·obtain ⟨h1, h2, _⟩ := fol_last (may := mayNm) (xs := ys) (h := 1) (m := m) _ 1 rfl (Nat.le_refl _) h
  rw [mayNm, isMy_59] at h2
  obtain ⟨x, hx⟩ := Option.isSome_iff_exists.1 h2
  have hxm := List.mem_of_find?_eq_some hx
  have he : x.1 = u8s (inner ys m) := by
   have hb : isNm (u8s (inner ys m)) x = true := List.find?_some hx
   exact eq_of_beq hb
  have hnx := nm_inn x hxm
  have hZ : innZ (u8s (inner ys m)) = x.2 := by rw [innZ, show nmE.find? (isNm (u8s (inner ys m))) = some x from hx]
  have hlen : (inner ys m).length = m - 2 := inner_len hm.2
  have h2l := hnx.2.1
  rw [he, u8s_lenE, hlen] at h2l
  refine ⟨⟨by omega, hm.2, h1, by rw [hZ]; exact hnx.2.2.2.1⟩, ?_⟩
  rw [hZ, nmR, show nmE.find? (isNm (u8s ((ys.take (m - 1)).drop 1))) = some x from hx]
  rfl
 ·simp at h
theorem style_d {ys : List Nat} (h256 : ∀ x ∈ ys, x < 256) {m : Nat} (h : followR [38, 35] (mayD 10 7) ys = (m, true)) : Good ys m ∧ mnR (nbV 10 ((ys.take (m - 1)).drop 2) 0) = innZ (u8s (inner ys m)) := by
 have hm := follow_true h
 obtain ⟨a1, a2, a3⟩ := follow_num h
 simp only [List.length_cons, List.length_nil, Nat.zero_add, Nat.reduceAdd] at hm a1 a2 a3
 rw [followR] at h
 split at h
 ·rename_i hp
  obtain ⟨h1, _, _⟩ := fol_last (may := mayD 10 7) (xs := ys) (h := 2) (m := m) _ 2 rfl (Nat.le_refl _) h
  obtain ⟨t, rfl⟩ := List.isPrefixOf_iff_prefix.1 hp
  obtain ⟨q, rfl⟩ : ∃ q, m = q + 3 := ⟨m - 3, by omega⟩
  have hi : inner (nats [38, 35] ++ t) (q + 3) = 35 :: t.take q := by simp [inner, nats]
  have hd : (List.take (q + 3 - 1) (nats [38, 35] ++ t)).drop 2 = t.take q := by simp [nats]
  have hn : nats (u8s (inner (nats [38, 35] ++ t) (q + 3))) = 35 :: t.take q := by rw [nats_u8s _ (inner_lt h256 _), hi]
  rw [hd] at a1 a2 a3
  have hz := innZ_dec hn a2 a3 a1
  refine ⟨⟨by omega, hm.2, h1, by rw [hz]; exact mnR_pos _⟩, ?_⟩
  rw [hz]
  exact congrArg (fun u => mnR (nbV 10 u 0)) hd
 ·simp at h
theorem style_h {X : UInt8} (hX : X.toNat = 120 ∨ X.toNat = 88) {ys : List Nat} (h256 : ∀ x ∈ ys, x < 256) {m : Nat} (h : followR [38, 35, X] (mayD 16 6) ys = (m, true)) : Good ys m ∧ mnR (nbV 16 ((ys.take (m - 1)).drop 3) 0) = innZ (u8s (inner ys m)) := by
 have hm := follow_true h
 obtain ⟨a1, a2, a3⟩ := follow_num h
 simp only [List.length_cons, List.length_nil, Nat.zero_add, Nat.reduceAdd] at hm a1 a2 a3
 rw [followR] at h
 split at h
 ·rename_i hp
  obtain ⟨h1, _, _⟩ := fol_last (may := mayD 16 6) (xs := ys) (h := 3) (m := m) _ 3 rfl (Nat.le_refl _) h
  obtain ⟨t, rfl⟩ := List.isPrefixOf_iff_prefix.1 hp
  obtain ⟨q, rfl⟩ : ∃ q, m = q + 4 := ⟨m - 4, by omega⟩
  have hi : inner (nats [38, 35, X] ++ t) (q + 4) = 35 :: X.toNat :: t.take q := by simp [inner, nats]
  have hd : (List.take (q + 4 - 1) (nats [38, 35, X] ++ t)).drop 3 = t.take q := by simp [nats]
  have hn : nats (u8s (inner (nats [38, 35, X] ++ t) (q + 4))) = 35 :: X.toNat :: t.take q := by rw [nats_u8s _ (inner_lt h256 _), hi]
  rw [hd] at a1 a2 a3
  have hz := innZ_hex hn hX a2 a3 a1
  refine ⟨⟨by omega, hm.2, h1, by rw [hz]; exact mnR_pos _⟩, ?_⟩
  rw [hz, hd]
 ·simp at h
theorem styles_good {ys : List Nat} (h256 : ∀ x ∈ ys, x < 256) : ∀ s ∈ styL, ∀ m, followR s.beg s.may ys = (m, true) → Good ys m ∧ s.means ((ys.take (m - 1)).drop s.beg.length) = innZ (u8s (inner ys m)) := by
 intro s hs m h
 simp only [styL, List.mem_cons, List.not_mem_nil, or_false] at hs
 rcases hs with rfl | rfl | rfl | rfl
 ·exact style_n h256 h
 ·exact style_d h256 h
 ·exact style_h (X := 120) (Or.inl rfl) h256 h
 ·exact style_h (X := 88) (Or.inr rfl) h256 h
theorem good_pref {ys : List Nat} {n : Nat} (h0 : ys.getD 0 0 = 38) (h : Good ys n) : ys = 38 :: (inner ys n ++ ys.drop (n - 1)) := by
 cases ys with
 | nil => have := h.h3; have := h.hn; simp at this; omega
 | cons y t =>
  obtain rfl : y = 38 := by simpa using h0
  have h3 := h.h3
  obtain ⟨q, rfl⟩ : ∃ q, n = q + 2 := ⟨n - 2, by omega⟩
  simp [inner]
theorem good_style {ys : List Nat} (h256 : ∀ x ∈ ys, x < 256) {n : Nat} (h0 : ys.getD 0 0 = 38) (h : Good ys n) : ∃ s ∈ styL, ∃ m, followR s.beg s.may ys = (m, true) := by
 have hp := good_pref h0 h
 have hN : nats (u8s (inner ys n)) = inner ys n := nats_u8s _ (inner_lt h256 n)
 have hn3 := h.h3
 have no := fun j c (h1 : 1 ≤ j) (h2 : j < n - 1) (hc : ys[j]? = some c) => show c ≠ 59 from fun e => good_no h256 h h1 h2 (by rw [hc, e])
 have take1 : ∀ j, 1 ≤ j → j < n - 1 → (ys.take j).drop 1 = (inner ys n).take (j - 1) := fun j h1 h2 => by
  rw [inner, List.take_drop, List.take_take, show min (1 + (j - 1)) (n - 1) = j by omega]
 rcases innZ_ok h.hi with ⟨x, hx, hf, he⟩ | ⟨X, ds, hl, hX, d0, dm, dd⟩ | ⟨ds, hl, d0, dm, dd⟩
 ·refine ⟨stN, by simp [styL], n - 1 + 1, ?_⟩
  show followR [38] mayNm ys = _
  have hpre : (nats [38]).isPrefixOf ys = true := by rw [hp]; rfl
  rw [followR, if_pos hpre]
  refine fol_whole h.he ?_ ?_ _ 1 rfl (Nat.le_refl _) (by omega)
  ·show (nmE.find? (isMy (inner ys n) 59)).isSome = true
   rw [isMy_59, hf]
   rfl
  ·intro j c h1 h2 hc
   have hne := no j c h1 h2 hc
   refine ⟨hne, ?_⟩
   show (nmE.find? (isMy ((ys.take j).drop 1) c)).isSome = true
   rw [take1 j h1 h2, List.find?_isSome]
   refine ⟨x, hx, ?_⟩
   have hil := inner_len h.hn
   have hxl : x.1.length = n - 2 := by rw [he, u8s_lenE, hil]
   have htl : ((inner ys n).take (j - 1)).length = j - 1 := by rw [List.length_take]; omega
   rw [isMy, if_neg hne, htl, hxl]
   have e1 : x.1.take (j - 1) = u8s ((inner ys n).take (j - 1)) := by rw [he]; simp [u8s, List.map_take]
   have e2 : (nats x.1).getD (j - 1) 0 = c := by rw [he, hN, List.getD_eq_getElem?_getD, inner_at h1 h2 hc]; rfl
   rw [e1, e2]
   have e3 : j - 1 < n - 2 := by omega
   simp [e3]
 ·rw [hN] at hl
  have hil := inner_len h.hn
  rw [hl] at hil
  simp at hil
  rw [hl] at hp
  have hXX : (UInt8.ofNat X).toNat = X := by rcases hX with rfl | rfl <;> rfl
  have hdn : (ys.take (n - 1)).drop 3 = ds := by
   have : (ys.take (n - 1)).drop 3 = ((ys.take (n - 1)).drop 1).drop 2 := by rw [List.drop_drop]
   rw [this]
   show (inner ys n).drop 2 = ds
   rw [hl]
   rfl
  have key : followR [38, 35, UInt8.ofNat X] (mayD 16 6) ys = (n - 1 + 1, true) := by
   have hpre : (nats [38, 35, UInt8.ofNat X]).isPrefixOf ys = true := by
    rw [hp]
    simp only [nats, List.map_cons, List.map_nil, hXX]
    simp
   rw [followR, if_pos hpre]
   refine fol_whole h.he ?_ ?_ _ 3 rfl (Nat.le_refl _) (by have := List.length_pos_iff.2 d0; omega)
   ·show mayD 16 6 ((ys.take (n - 1)).drop 3) 59 = true
    rw [hdn, mayD, if_pos rfl]
    simpa using List.length_pos_iff.2 d0
   ·intro j c h1 h2 hc
    have h1 : 3 ≤ j := h1
    have hne := no j c (by omega) h2 hc
    refine ⟨hne, ?_⟩
    have hcd : c ∈ ds := by
     have := inner_at (n := n) (by omega) h2 hc
     rw [hl, show j - 1 = (j - 3) + 2 by omega] at this
     exact List.mem_of_getElem? (by simpa using this)
    rw [mayD, if_neg hne, dd c hcd]
    have : ((ys.take j).drop 3).length = j - 3 := by rw [List.length_drop, List.length_take]; have := h.hn; omega
    show (decide (((ys.take j).drop 3).length < 6) && true) = true
    rw [this]
    simp
    omega
  rcases hX with rfl | rfl
  ·exact ⟨stD [38, 35, 120] 16 6, by simp [styL], _, key⟩
  ·exact ⟨stD [38, 35, 88] 16 6, by simp [styL], _, key⟩
 ·rw [hN] at hl
  have hil := inner_len h.hn
  rw [hl] at hil
  simp at hil
  rw [hl] at hp
  have hdn : (ys.take (n - 1)).drop 2 = ds := by
   have : (ys.take (n - 1)).drop 2 = ((ys.take (n - 1)).drop 1).drop 1 := by rw [List.drop_drop]
   rw [this]
   show (inner ys n).drop 1 = ds
   rw [hl]
   rfl
  refine ⟨stD [38, 35] 10 7, by simp [styL], n - 1 + 1, ?_⟩
  show followR [38, 35] (mayD 10 7) ys = _
  have hpre : (nats [38, 35]).isPrefixOf ys = true := by
   rw [hp]
   simp [nats]
  rw [followR, if_pos hpre]
  refine fol_whole h.he ?_ ?_ _ 2 rfl (Nat.le_refl _) (by have := List.length_pos_iff.2 d0; omega)
  ·show mayD 10 7 ((ys.take (n - 1)).drop 2) 59 = true
   rw [hdn, mayD, if_pos rfl]
   simpa using List.length_pos_iff.2 d0
  ·intro j c h1 h2 hc
   have h1 : 2 ≤ j := h1
   have hne := no j c (by omega) h2 hc
   refine ⟨hne, ?_⟩
   have hcd : c ∈ ds := by
    have := inner_at (n := n) (by omega) h2 hc
    rw [hl, show j - 1 = (j - 2) + 1 by omega] at this
    exact List.mem_of_getElem? (by simpa using this)
   rw [mayD, if_neg hne, dd c hcd]
   have : ((ys.take j).drop 2).length = j - 2 := by rw [List.length_drop, List.length_take]; have := h.hn; omega
   show (decide (((ys.take j).drop 2).length < 7) && true) = true
   rw [this]
   simp
   omega
theorem read_same (xs : List Nat) (h256 : ∀ x ∈ xs, x < 256) (k : Nat) (hk : k < xs.length) : readE xs (k : Int) = refFrom xs k 8 3 := by
 have hd : ∀ x ∈ xs.drop k, x < 256 := fun x hx => h256 x (List.mem_of_mem_drop hx)
 have hg : xs.getD k 0 = (xs.drop k).getD 0 0 := by simp [List.getD_eq_getElem?_getD]
 rw [readE, if_neg (by omega), Int.toNat_natCast, hg]
 by_cases h0 : (xs.drop k).getD 0 0 = 38
 ·rw [if_pos h0]
  by_cases hG : ∃ n, Good (xs.drop k) n
  ·obtain ⟨n, hn⟩ := hG
   rw [ref_good hd hk h0 hn]
   refine readS_is styL (fun s hs m hf => ?_) (good_style hd h0 hn)
   obtain ⟨g, e⟩ := styles_good hd s hs m hf
   obtain rfl := good_uni hd g hn
   exact ⟨e, rfl⟩
  ·rw [ref_none hd hk (fun n _ h => hG ⟨n, h⟩)]
   exact readS_none styL fun s hs m hf => hG ⟨m, (styles_good hd s hs m hf).1⟩
 ·rw [if_neg h0, ref_none hd hk (fun n h _ => h0 h)]
end Go.Proofs.YtfafhbgkmlmmdaaGreatDoor
