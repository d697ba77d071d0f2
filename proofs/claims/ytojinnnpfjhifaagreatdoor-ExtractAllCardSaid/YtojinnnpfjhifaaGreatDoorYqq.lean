/-
  
  
  
  
  
  
  
  
-/
import Derived.Test.YtojinnnpfjhifaaGreatDoorYqp
import Derived.Test.YtojinnnpfjhifaaGreatDoorYqi
import Derived.Test.YtojinnnpfjhifaaGreatDoorYqj
import Derived.Test.YtojinnnpfjhifaaGreatDoorYqg
namespace Go.Proofs.YtojinnnpfjhifaaGreatDoor
open Go.RowKit Go.Shelf Go.Lib Go.Maps Go.Great
attribute [local irreducible] NR ZNR FR nmE NL
def innZ (i : List UInt8) : Int := match nmE.find? (isNm i) with
 | some x => x.2
 | none => if (nats i).getD 0 0 ≠ 35 then -1 else if 1 < i.length ∧ ((nats i).getD 1 0 = 120 ∨ (nats i).getD 1 0 = 88) then numZ 16 6 (nats (i.drop 2)) else numZ 10 7 (nats (i.drop 1))
def wholeZ (l : List UInt8) : Int := if l.length < 3 ∨ (nats l).getD 0 0 ≠ 38 ∨ (nats l).getD (l.length - 1) 0 ≠ 59 then -1 else innZ ((l.take (l.length - 1)).drop 1)
theorem slice_str (s : List UInt8) (lo hi : Nat) (h1 : lo ≤ hi) (h2 : hi ≤ s.length) (w : World) : (Instr.slice 9 (.string ⟨s.toArray⟩) (some (.int .i64 (lo : Int))) (some (.int .i64 (hi : Int))) none).run Tryz.prog w = .ok (.string ⟨((s.take hi).drop lo).toArray⟩) w := by
 have := run_slice_string (P := Tryz.prog) w 9 ⟨s.toArray⟩ .i64 .i64 (lo : Int) (hi : Int) Tryz.underlying9 (by omega) (by omega) (by show (hi : Int) ≤ ((s.length : Nat) : Int); omega)
 rw [this]
 have e : (ByteArray.extract ⟨s.toArray⟩ (lo : Int).toNat (hi : Int).toNat) = ⟨((s.take hi).drop lo).toArray⟩ := by
  apply ByteArray.ext
  simp [List.drop_take]
 rw [e]
theorem slice_str_l (s : List UInt8) (lo : Nat) (h2 : lo ≤ s.length) (w : World) : (Instr.slice 9 (.string ⟨s.toArray⟩) (some (.int .i64 (lo : Int))) none none).run Tryz.prog w = .ok (.string ⟨(s.drop lo).toArray⟩) w := by
 have := run_slice_string_l (P := Tryz.prog) w 9 ⟨s.toArray⟩ Tryz.underlying9 .i64 (lo : Int) (by omega) (by show (lo : Int) ≤ ((s.length : Nat) : Int); omega)
 rw [this]
 have e : (ByteArray.extract ⟨s.toArray⟩ (lo : Int).toNat (ByteArray.size ⟨s.toArray⟩)) = ⟨(s.drop lo).toArray⟩ := by
  apply ByteArray.ext
  simp [ByteArray.size]
  exact List.take_of_length_le (by rw [List.length_drop]; exact Nat.le_refl _)
 rw [e]
set_option maxHeartbeats 4000000 in
set_option maxRecDepth 100000 in
theorem refWhole_any (l : List UInt8) (hl : l.length ≤ 1000000) (w : World) : Calls Tryz.prog 63 #[.string ⟨l.toArray⟩] w fun e w' => e = .returned (.int .i32 (wholeZ l)) ∧ Below w.heap.size w w' := by
 obtain ⟨WZ, hWZ⟩ : ∃ v, wholeZ l = v := ⟨_, rfl⟩
 rw [hWZ]
 obtain ⟨N, hN⟩ : ∃ n, l.length = n := ⟨_, rfl⟩
 have HD := Lib.hid (And.intro hWZ hl)
 clear hWZ hl
 by_cases h3 : N < 3
 case pos =>
  have he : WZ = -1 := by rw [← HD.out.1, wholeZ, if_pos (Or.inl (by rw [hN]; exact h3))]
  have HE := Lib.hid he
  have h3z : (N : Int) < 3 := by omega
  clear he
  go_enter Tryz.func63, Tryz.ntmps63
  go_wp2_with fail
  go_ret
  exact ⟨by rw [HE.out]; rfl, Below.refl _ _⟩
 case neg =>
 have h3z : ¬ (N : Int) < 3 := by omega
 obtain ⟨M, hM⟩ : ∃ m, N = m + 3 := ⟨N - 3, by omega⟩
 subst hM
 have ix0 := index_at l 0 (by omega)
 replace ix0 : ∀ w, (Instr.index 9 (.string ⟨l.toArray⟩) (.int .i64 0)).run Tryz.prog w = .ok (.int .u8 (((nats l).getD 0 0 : Nat) : Int)) w := ix0
 have ixe := index_at l (M + 2) (by omega)
 obtain ⟨c0, hc0⟩ : ∃ c, (nats l).getD 0 0 = c := ⟨_, rfl⟩
 obtain ⟨ce, hce⟩ : ∃ c, (nats l).getD (M + 2) 0 = c := ⟨_, rfl⟩
 rw [hc0] at ix0
 rw [hce] at ixe
 have hMl : M + 3 ≤ 1000000 := by rw [← hN]; exact HD.out.2
 have eM : (M : Int) + 3 - 1 = ((M + 2 : Nat) : Int) := by omega
 have h3y : ¬ (M : Int) + 3 < 3 := by omega
 replace ixe : ∀ w, (Instr.index 9 (.string ⟨l.toArray⟩) (.int .i64 ((M : Int) + 3 - 1))).run Tryz.prog w = .ok (.int .u8 (ce : Int)) w := fun w => by rw [eM]; exact ixe w
 obtain ⟨inn, hin⟩ : ∃ x, (l.take (M + 2)).drop 1 = x := ⟨_, rfl⟩
 have hsl : ∀ w, (Instr.slice 9 (.string ⟨l.toArray⟩) (some (.int .i64 1)) (some (.int .i64 ((M : Int) + 3 - 1))) none).run Tryz.prog w = .ok (.string ⟨inn.toArray⟩) w := by
  rw [← hin, eM]
  exact slice_str l 1 (M + 2) (by omega) (by omega)
 have hinl : inn.length = M + 1 := by rw [← hin]; simp; omega
 clear eM
 have hwz : WZ = if c0 ≠ 38 ∨ ce ≠ 59 then -1 else innZ inn := by
  rw [← HD.out.1, wholeZ, hN, show M + 3 - 1 = M + 2 by omega, hc0, hce, hin]
  simp [show ¬ M + 3 < 3 by omega]
 by_cases h0 : c0 = 38
 case neg =>
  have hE := Lib.hid (show WZ = -1 by rw [hwz, if_pos (Or.inl h0)])
  have h01 : ¬ (c0 : Int) = 38 := by omega
  have h02 : ((c0 : Int) == 38) = false := by simp; omega
  clear hwz hsl ixe hc0 hce
  go_enter Tryz.func63, Tryz.ntmps63
  go_wp2_with fail
  go_ret
  exact ⟨by rw [hE.out]; rfl, Below.refl _ _⟩
 case pos =>
 subst h0
 by_cases he : ce = 59
 case neg =>
  have hE := Lib.hid (show WZ = -1 by rw [hwz, if_pos (Or.inr he)])
  have h01 : ¬ (ce : Int) = 59 := by omega
  have h02 : ((ce : Int) == 59) = false := by simp; omega
  clear hwz hsl hc0 hce
  go_enter Tryz.func63, Tryz.ntmps63
  go_wp2_with fail
  go_ret
  exact ⟨by rw [hE.out]; rfl, Below.refl _ _⟩
 case pos =>
 subst he
 have hwz : WZ = innZ inn := by rw [hwz, if_neg (by simp)]
 have ii0 := index_at inn 0 (by omega)
 replace ii0 : ∀ w, (Instr.index 9 (.string ⟨inn.toArray⟩) (.int .i64 0)).run Tryz.prog w = .ok (.int .u8 (((nats inn).getD 0 0 : Nat) : Int)) w := ii0
 have HW := Lib.hid (And.intro hwz ii0)
 clear hwz hc0 hce hin ii0
 go_enter Tryz.func63, Tryz.ntmps63
 go_wp2_with fail
 refine (refNames_any w).mono ?_
 rintro r w1 ⟨rfl, hw1⟩
 have x1 : Cells w1 w.heap.size 130 NR := by rw [hw1]; exact cells_new _ _ _
 have hb1 : Below w.heap.size w w1 := by rw [hw1]; exact below_new _ _
 have H1 := Lib.hid (And.intro x1 hb1)
 clear x1 hb1 hw1
 go_wp2_with fail
 go_loopw [6] (fun i wr => ∃ k : Nat, i = .int .i64 (k : Int) ∧ k ≤ 26 ∧ (∀ (j : Nat) (y : NmE), j < k → nmE[j]? = some y → isNm inn y = false) ∧ wr = w1) (fun i _ => 26 - (RowKit.intOf i).toNat)
 case atStart => exact ⟨0, rfl, by decide, fun j y hj => absurd hj (by omega), rfl⟩
 case round =>
  obtain ⟨k, rfl, hk, hj, rfl⟩ := hrel
  by_cases hlt : k < 26
  case pos =>
   have i1 : (k : Int) < 26 := by omega
   obtain ⟨⟨s, z⟩, hx⟩ := at_lt (l := nmE) (k := k) (by rw [nmE_len]; exact hlt)
   obtain ⟨r0, r1⟩ := NR_at hx
   have c1 : wr.cell? ⟨w.heap.size, k * 2, none⟩ = some (.string ⟨s.toArray⟩) := (Cells.cell H1.out.1 (k * 2)).trans r0
   have c2 : wr.cell? ⟨w.heap.size, k * 2 + 1, none⟩ = some (.int .i32 z) := (Cells.cell H1.out.1 (k * 2 + 1)).trans r1
   by_cases hs : s = inn
   case pos =>
    have hf := (idx_some (p := isNm inn) hx (by simp [isNm, hs]) hj).2
    have hE := Lib.hid (show WZ = z by rw [HW.out.1, innZ, hf])
    have HS := Lib.hid hs
    subst hs
    clear hj hx r0 r1 hf
    go_wp2_with fail
    go_ret
    exact ⟨by first | rfl | (rw [hE.out]; rfl) | (rw [hE.out]) | (rw [← HW.out.1, hE.out]; rfl) | (rw [← HW.out.1, hE.out]), H1.out.2⟩
   case neg =>
    have hs2 : (s == inn) = false := by simpa using hs
    have hend : ∀ (j : Nat) (y : NmE), j < k + 1 → nmE[j]? = some y → isNm inn y = false := fun j y h hy => by
     by_cases e : j = k
     ·subst e
      obtain rfl := Option.some.inj (hx.symm.trans hy)
      exact hs2
     ·exact hj j y (by omega) hy
    have HE := Lib.hid hend
    clear hend hj hx r0 r1
    go_wp2_with fail
    go_roundw
    case rel => exact ⟨k + 1, by go_num, by omega, HE.out, trivial⟩
    case measure => simp [RowKit.intOf]; omega
  case neg =>
   obtain rfl : k = 26 := by omega
   have hf := (idx_none (p := isNm inn) fun j x hx => hj j x (by have := (List.getElem?_eq_some_iff.1 hx).1; rw [nmE_len] at this; exact this) hx).2
   have hz : WZ = if (nats inn).getD 0 0 ≠ 35 then -1 else if 1 < inn.length ∧ ((nats inn).getD 1 0 = 120 ∨ (nats inn).getD 1 0 = 88) then numZ 16 6 (nats (inn.drop 2)) else numZ 10 7 (nats (inn.drop 1)) := by
    rw [HW.out.1, innZ, hf]
   have ii0 := HW.out.2
   have N2 := fun W => refNumber_any (b := 16) (most := 6) (Or.inr rfl) (by decide) (inn.drop 2) (by rw [List.length_drop]; have := HD.out.2; omega) W
   have N1 := fun W => refNumber_any (b := 10) (most := 7) (Or.inl rfl) (by decide) (inn.drop 1) (by rw [List.length_drop]; have := HD.out.2; omega) W
   have sl1 : ∀ w, (Instr.slice 9 (.string ⟨inn.toArray⟩) (some (.int .i64 1)) none none).run Tryz.prog w = .ok (.string ⟨(inn.drop 1).toArray⟩) w := slice_str_l inn 1 (by omega)
   obtain ⟨t1, ht1⟩ : ∃ t, inn.drop 1 = t := ⟨_, rfl⟩
   rw [ht1] at hz N1 sl1
   obtain ⟨d0, hd0⟩ : ∃ d, (nats inn).getD 0 0 = d := ⟨_, rfl⟩
   obtain ⟨d1, hd1⟩ : ∃ d, (nats inn).getD 1 0 = d := ⟨_, rfl⟩
   rw [hd0] at hz ii0
   rw [hd1] at hz
   by_cases h35 : d0 = 35
   case neg =>
    have h351 : ¬ (d0 : Int) = 35 := by omega
    have h352 : ((d0 : Int) == 35) = false := by simp; omega
    have hE := Lib.hid (show WZ = -1 by rw [hz, if_pos h35])
    clear hz hf hj N1 N2 hd0 hd1 sl1 ht1
    go_wp2_with fail
    go_ret
    exact ⟨by rw [hE.out]; rfl, H1.out.2⟩
   case pos =>
   subst h35
   rw [if_neg (by simp), hinl] at hz
   by_cases hM0 : M = 0
   case pos =>
    have hM1 : ¬ (1 : Int) < (M : Int) + 1 := by omega
    have hM2 : (M : Int) + 1 ≤ 1 := by omega
    have hE := Lib.hid (show WZ = numZ 10 7 (nats t1) by rw [hz, if_neg (by omega)])
    have HN := Lib.hid N1
    clear hz hf hj N1 N2 hd0 hd1 ht1
    go_wp2_with fail
    refine (HN.out _).mono ?_
    rintro r w2 ⟨rfl, rfl⟩
    go_wp2_with fail
    go_ret
    exact ⟨by rw [hE.out]; rfl, H1.out.2⟩
   case neg =>
   have hM1 : (1 : Int) < (M : Int) + 1 := by omega
   have ii1 := index_at inn 1 (by omega)
   replace ii1 : ∀ w, (Instr.index 9 (.string ⟨inn.toArray⟩) (.int .i64 1)).run Tryz.prog w = .ok (.int .u8 (((nats inn).getD 1 0 : Nat) : Int)) w := ii1
   rw [hd1] at ii1
   have sl2 : ∀ w, (Instr.slice 9 (.string ⟨inn.toArray⟩) (some (.int .i64 2)) none none).run Tryz.prog w = .ok (.string ⟨(inn.drop 2).toArray⟩) w := slice_str_l inn 2 (by omega)
   have HN1 := Lib.hid N1
   have HN2 := Lib.hid N2
   clear N1 N2
   by_cases hX : d1 = 120
   case pos =>
    subst hX
    have hE := Lib.hid (show WZ = numZ 16 6 (nats (inn.drop 2)) by rw [hz, if_pos ⟨by omega, Or.inl rfl⟩])
    clear hz hf hj hd0 hd1 ht1
    go_wp2_with fail
    refine (HN2.out _).mono ?_
    rintro r w2 ⟨rfl, rfl⟩
    go_wp2_with fail
    go_ret
    exact ⟨by rw [hE.out]; rfl, H1.out.2⟩
   case neg =>
   have hX1 : ¬ (d1 : Int) = 120 := by omega
   have hX2 : ((d1 : Int) == 120) = false := by simp; omega
   by_cases hY : d1 = 88
   case pos =>
    subst hY
    have hE := Lib.hid (show WZ = numZ 16 6 (nats (inn.drop 2)) by rw [hz, if_pos ⟨by omega, Or.inr rfl⟩])
    clear hz hf hj hd0 hd1 ht1
    go_wp2_with fail
    refine (HN2.out _).mono ?_
    rintro r w2 ⟨rfl, rfl⟩
    go_wp2_with fail
    go_ret
    exact ⟨by rw [hE.out]; rfl, H1.out.2⟩
   case neg =>
    have hY1 : ¬ (d1 : Int) = 88 := by omega
    have hY2 : ((d1 : Int) == 88) = false := by simp; omega
    have hE := Lib.hid (show WZ = numZ 10 7 (nats t1) by rw [hz, if_neg (by
     rintro ⟨_, e | e⟩
     ·exact hX e
     ·exact hY e)])
    clear hz hf hj hd0 hd1 ht1
    go_wp2_with fail
    refine (HN1.out _).mono ?_
    rintro r w2 ⟨rfl, rfl⟩
    go_wp2_with fail
    go_ret
    exact ⟨by rw [hE.out]; rfl, H1.out.2⟩
end Go.Proofs.YtojinnnpfjhifaaGreatDoor

namespace Go.Proofs.YtojinnnpfjhifaaGreatDoor
open Go.RowKit Go.Shelf Go.Lib Go.Maps Go.Great
attribute [local irreducible] NR ZNR FR nmE NL
def cutT (xs : List Nat) (k n : Nat) : List Nat := (xs.take (k + n)).drop k
def refFrom (xs : List Nat) (k : Nat) : Nat → Nat → Int × Nat
 | 0, _ => (0, 0)
 | f + 1, n => if k + n ≤ xs.length then (if 0 ≤ wholeZ (u8s (cutT xs k n)) then (wholeZ (u8s (cutT xs k n)), n) else refFrom xs k f (n + 1)) else (0, 0)
set_option maxHeartbeats 4000000 in
set_option maxRecDepth 100000 in
theorem refReadE_any (w : World) (xs : List Nat) (A : Option Addr) (cap : Nat) (hx : BY w w.heap.size xs A cap) (hlen : xs.length ≤ 1000) (k : Nat) (hk : k < xs.length) :
  Calls Tryz.prog 49 #[.slice A xs.length cap, .int .i64 (k : Int)] w fun e w' => e = .returned (.tuple #[.int .i32 (refFrom xs k 8 3).1, .int .i64 ((refFrom xs k 8 3).2 : Nat)]) ∧ Below w.heap.size w w' := by
 obtain ⟨RE, hRE⟩ : ∃ v, refFrom xs k 8 3 = v := ⟨_, rfl⟩
 rw [hRE]
 obtain ⟨b, o, rfl, hbl, _⟩ := hx.r (by rintro rfl; simp at hk)
 obtain ⟨N, hN⟩ : ∃ n, xs.length = n := ⟨_, rfl⟩
 have HD := Lib.hid (And.intro hRE (And.intro hx (And.intro hlen hk)))
 have hcl := hx.l
 rw [hN] at hlen hk hcl ⊢
 clear hRE hx hbl
 go_enter Tryz.func49, Tryz.ntmps49
 go_wp2_with fail
 go_loopw [6] (fun i wr => ∃ (f n : Nat), i = .int .i64 (n : Int) ∧ f + n = 11 ∧ 3 ≤ n ∧ RE = refFrom xs k f n ∧ Below w.heap.size w wr) (fun i _ => 12 - (RowKit.intOf i).toNat)
 case atStart => exact ⟨8, 3, rfl, rfl, by decide, HD.out.1.symm, Below.refl _ _⟩
 case round =>
  obtain ⟨f, n, rfl, hfn, h3, hre, hb⟩ := hrel
  cases f with
  | zero =>
   have hn : ¬ (n : Int) ≤ 10 := by omega
   have HE := Lib.hid (And.intro (show RE = (0, 0) from hre) hb)
   clear hre hb
   go_wp2_with fail
   refine bodyPost_ret (v := .tuple #[.int .i32 0, .int .i64 0]) ?_ rfl ⟨by rw [HE.out.1]; rfl, HE.out.2⟩
   simp [results, Tryz.results49, go_sem]
  | succ f =>
   have hn : (n : Int) ≤ 10 := by omega
   have wa : wrap64 ((k : Int) + (n : Int)) = (k : Int) + (n : Int) := by unfold wrap64; omega
   rw [refFrom, hN] at hre
   by_cases hkn : k + n ≤ N
   case neg =>
    have hkn2 : ¬ (k : Int) + (n : Int) ≤ (N : Int) := by omega
    rw [if_neg hkn] at hre
    have HE := Lib.hid (And.intro hre hb)
    clear hre hb
    go_wp2_with fail
    refine bodyPost_ret (v := .tuple #[.int .i32 0, .int .i64 0]) ?_ rfl ⟨by rw [HE.out.1]; rfl, HE.out.2⟩
    simp [results, Tryz.results49, go_sem]
   case pos =>
    have hkn2 : (k : Int) + (n : Int) ≤ (N : Int) := by omega
    rw [if_pos hkn] at hre
    have e1 : (k : Int) + (n : Int) = ((k + n : Nat) : Int) := by omega
    have e2 : k + n - k = n := by omega
    have hsl : ∀ W, (Instr.slice 22 (.slice (some ⟨b, o, none⟩) N cap) (some (.int .i64 (k : Int))) (some (.int .i64 ((k : Int) + (n : Int)))) none).run Tryz.prog W = .ok (.slice (some ⟨b, o + k, none⟩) n (cap - k)) W := fun W => by
     have := slice_win b o N cap k (k + n) (by omega) (by omega) (by omega) W
     rw [e2] at this
     rw [e1]
     exact this
    have hcl2 : (cutT xs k n).length = n := by rw [cutT, List.length_drop, List.length_take, hN]; omega
    have hcv := conv_by ((HD.out.2.1.on hb).win k (k + n) (by omega) (by rw [hN]; exact hkn))
    rw [show (xs.take (k + n)).drop k = cutT xs k n from rfl, hcl2] at hcv
    generalize cutT xs k n = C at *
    have K := refWhole_any (u8s C) (by rw [u8s, List.length_map]; omega) wr
    obtain ⟨Z, hZ⟩ : ∃ z, wholeZ (u8s C) = z := ⟨_, rfl⟩
    rw [hZ] at K hre
    by_cases hz : 0 ≤ Z
    case pos =>
     rw [if_pos hz] at hre
     have HE := Lib.hid (And.intro hre (And.intro hb K))
     clear hre hb K e1 e2 hcl2 hZ
     go_wp2_with fail
     refine HE.out.2.2.mono ?_
     rintro e w1 ⟨rfl, hb1⟩
     have HB := Lib.hid (HE.out.2.1.trans (hb1.mono HE.out.2.1.size))
     clear hb1
     go_wp2_with fail
     refine bodyPost_ret (v := .tuple #[.int .i32 Z, .int .i64 (n : Int)]) ?_ rfl ⟨by rw [HE.out.1], HB.out⟩
     simp [results, Tryz.results49, go_sem]
    case neg =>
     rw [if_neg hz] at hre
     have HE := Lib.hid (And.intro hre (And.intro hb K))
     clear hre hb K e1 e2 hcl2 hZ
     go_wp2_with fail
     refine HE.out.2.2.mono ?_
     rintro e w1 ⟨rfl, hb1⟩
     have HB := Lib.hid (HE.out.2.1.trans (hb1.mono HE.out.2.1.size))
     clear hb1
     go_wp2_with fail
     go_roundw
     case rel => exact ⟨f, n + 1, by go_num, by omega, by omega, HE.out.1, HB.out⟩
     case measure => simp [RowKit.intOf]; omega
end Go.Proofs.YtojinnnpfjhifaaGreatDoor

namespace Go.Proofs.YtojinnnpfjhifaaGreatDoor
open Go.RowKit Go.Shelf Go.Lib Go.Maps Go.Great
theorem refFrom_none {xs : List Nat} {k : Nat} : ∀ (f n : Nat), (∀ j, n ≤ j → k + j ≤ xs.length → ¬ 0 ≤ wholeZ (u8s (cutT xs k j))) → refFrom xs k f n = (0, 0)
 | 0, n, _ => rfl
 | f + 1, n, h => by
  rw [refFrom]
  split
  ·rename_i hk
   rw [if_neg (h n (Nat.le_refl _) hk), refFrom_none f (n + 1) (fun j hj => h j (by omega))]
  ·rfl
theorem refFrom_hit {xs : List Nat} {k p : Nat} (hp : k + p ≤ xs.length) (hw : 0 ≤ wholeZ (u8s (cutT xs k p))) : ∀ (f n : Nat), n ≤ p → p < n + f → (∀ j, n ≤ j → j < p → ¬ 0 ≤ wholeZ (u8s (cutT xs k j))) → refFrom xs k f n = (wholeZ (u8s (cutT xs k p)), p)
 | 0, n, h1, h2, _ => by omega
 | f + 1, n, h1, h2, h => by
  rw [refFrom, if_pos (by omega)]
  by_cases e : n = p
  ·subst e
   rw [if_pos hw]
  ·rw [if_neg (h n (Nat.le_refl _) (by omega)), refFrom_hit hp hw f (n + 1) (by omega) (by omega) (fun j hj => h j (by omega))]
theorem nm_inn : ∀ x ∈ nmE, 59 ∉ nats x.1 ∧ 2 ≤ x.1.length ∧ x.1.length ≤ 8 ∧ 0 ≤ x.2 ∧ (nats x.1).getD 0 0 ≠ 35 := by decide +kernel
theorem numZ_ok {b most : Nat} {u : List Nat} (h : 0 ≤ numZ b most u) : u ≠ [] ∧ u.length ≤ most ∧ (∀ x ∈ u, dgB b x = true) ∧ numZ b most u = mnR (nbV b u 0) := by
 unfold numZ at h ⊢
 split at h
 ·omega
 ·rename_i h1
  rw [if_neg h1]
  split at h
  ·rename_i h2
   rw [if_pos h2]
   exact ⟨fun e => h1 (Or.inl e), by
    rcases Nat.lt_or_ge most u.length with e | e
    ·exact absurd (Or.inr e) h1
    ·exact e, List.all_eq_true.1 h2, rfl⟩
  ·omega
theorem fol_last {may : List Nat → Nat → Bool} {xs : List Nat} {h m : Nat} : ∀ (r : List Nat) (n : Nat), r = xs.drop n → h ≤ n → fol may xs h n r = (m, true) → xs[m - 1]? = some 59 ∧ may ((xs.take (m - 1)).drop h) 59 = true ∧ ∀ j, n ≤ j → j < m - 1 → xs[j]? ≠ some 59
 | [], n, _, _, e => by simp [fol] at e
 | c :: r, n, hr, hh, e => by
  have hx : xs[n]? = some c := by have := congrArg (·[0]?) hr; simpa using this.symm
  have hr2 : r = xs.drop (n + 1) := by
   have := drop_at hx
   rw [← hr] at this
   injection this
  have hft := fun e => fol_true (may := may) (h := h) (m := m) r (n + 1) hr2 (by omega) e
  rw [fol] at e
  split at e
  ·rename_i hmay
   split at e
   ·rename_i hc
    simp at e
    obtain rfl := e
    subst hc
    refine ⟨by simpa using hx, by simpa using hmay, fun j h1 h2 => by omega⟩
   ·rename_i hc
    obtain ⟨h1, h2, h3⟩ := fol_last r (n + 1) hr2 (by omega) e
    refine ⟨h1, h2, fun j hj hjm => ?_⟩
    by_cases e2 : j = n
    ·subst e2
     rw [hx]
     intro e3
     injection e3 with e3
     exact hc e3
    ·exact h3 j (by omega) hjm
  ·simp at e
theorem fol_whole {may : List Nat → Nat → Bool} {xs : List Nat} {h p : Nat} (hp : xs[p]? = some 59) (hl : may ((xs.take p).drop h) 59 = true) (hm : ∀ j c, h ≤ j → j < p → xs[j]? = some c → c ≠ 59 ∧ may ((xs.take j).drop h) c = true) : ∀ (r : List Nat) (n : Nat), r = xs.drop n → h ≤ n → n ≤ p → fol may xs h n r = (p + 1, true)
 | [], n, hr, _, hn => by
  have := congrArg List.length hr
  have h1 := (List.getElem?_eq_some_iff.1 hp).1
  simp at this
  omega
 | c :: r, n, hr, hh, hn => by
  have hx : xs[n]? = some c := by have := congrArg (·[0]?) hr; simpa using this.symm
  have hr2 : r = xs.drop (n + 1) := by
   have := drop_at hx
   rw [← hr] at this
   injection this
  rw [fol]
  by_cases e : n = p
  ·subst e
   obtain rfl := Option.some.inj (hx.symm.trans hp)
   rw [if_pos hl, if_pos rfl]
  ·obtain ⟨h1, h2⟩ := hm n c hh (by omega) hx
   rw [if_pos h2, if_neg h1]
   exact fol_whole hp hl hm r (n + 1) hr2 (by omega) (by omega)
end Go.Proofs.YtojinnnpfjhifaaGreatDoor

namespace Go.Proofs.YtojinnnpfjhifaaGreatDoor
open Go.RowKit Go.Shelf Go.Lib Go.Maps Go.Great
theorem scR_pos (r : Int) : 0 ≤ scR r := by
 have := (valid_iff (scR r)).1 (scR_valid r)
 omega
theorem mnR_pos (n : Nat) : 0 ≤ mnR n := by
 unfold mnR
 split
 ·decide
 ·exact scR_pos _
theorem numZ_eq {b most : Nat} {u : List Nat} (h0 : u ≠ []) (hm : u.length ≤ most) (hd : ∀ x ∈ u, dgB b x = true) : numZ b most u = mnR (nbV b u 0) := by
 rw [numZ, if_neg (fun e => e.elim h0 (fun e => absurd hm (by omega))), if_pos (List.all_eq_true.2 hd)]
theorem find_hash {l : List UInt8} (h : (nats l).getD 0 0 = 35) : nmE.find? (isNm l) = none := by
 rw [List.find?_eq_none]
 intro x hx e
 have h1 : x.1 = l := by simpa [isNm] using e
 exact (nm_inn x hx).2.2.2.2 (by rw [h1]; exact h)
theorem nats_drop (l : List UInt8) (k : Nat) : nats (l.drop k) = (nats l).drop k := by simp [nats]
theorem nats_length (l : List UInt8) : (nats l).length = l.length := by simp [nats]
theorem innZ_hex {l : List UInt8} {X : Nat} {ds : List Nat} (hl : nats l = 35 :: X :: ds) (hX : X = 120 ∨ X = 88) (h0 : ds ≠ []) (hm : ds.length ≤ 6) (hd : ∀ x ∈ ds, dgB 16 x = true) : innZ l = mnR (nbV 16 ds 0) := by
 have hf := find_hash (l := l) (by rw [hl]; rfl)
 have hlen : l.length = ds.length + 2 := by rw [← nats_length, hl]; rfl
 rw [innZ, hf]
 simp only
 rw [if_neg (by rw [hl]; simp), if_pos ⟨by omega, by rw [hl]; exact hX⟩, nats_drop, hl]
 exact numZ_eq h0 hm hd
theorem dg10_x {c : Nat} (h : dgB 10 c = true) : c ≠ 120 ∧ c ≠ 88 ∧ c ≠ 59 := by
 refine ⟨?_, ?_, ?_⟩ <;> (rintro rfl; revert h; decide)
theorem dg16_x {c : Nat} (h : dgB 16 c = true) : c ≠ 59 := by
 rintro rfl
 revert h
 decide
theorem innZ_dec {l : List UInt8} {ds : List Nat} (hl : nats l = 35 :: ds) (h0 : ds ≠ []) (hm : ds.length ≤ 7) (hd : ∀ x ∈ ds, dgB 10 x = true) : innZ l = mnR (nbV 10 ds 0) := by
 have hf := find_hash (l := l) (by rw [hl]; rfl)
 have hd0 : ¬ (1 < l.length ∧ ((nats l).getD 1 0 = 120 ∨ (nats l).getD 1 0 = 88)) := by
  rintro ⟨_, e⟩
  rw [hl] at e
  cases ds with
  | nil => exact h0 rfl
  | cons d r =>
   have := dg10_x (hd d (by simp))
   simp at e
   omega
 rw [innZ, hf]
 simp only
 rw [if_neg (by rw [hl]; simp), if_neg hd0, nats_drop, hl]
 exact numZ_eq h0 hm hd
theorem innZ_ok {l : List UInt8} (h : 0 ≤ innZ l) : (∃ x, x ∈ nmE ∧ nmE.find? (isNm l) = some x ∧ x.1 = l) ∨ (∃ X ds, nats l = 35 :: X :: ds ∧ (X = 120 ∨ X = 88) ∧ ds ≠ [] ∧ ds.length ≤ 6 ∧ ∀ x ∈ ds, dgB 16 x = true) ∨ (∃ ds, nats l = 35 :: ds ∧ ds ≠ [] ∧ ds.length ≤ 7 ∧ ∀ x ∈ ds, dgB 10 x = true) := by
 unfold innZ at h
 cases hf : nmE.find? (isNm l) with
 | some x => exact Or.inl ⟨x, List.mem_of_find?_eq_some hf, rfl, by simpa [isNm] using List.find?_some hf⟩
 | none =>
  rw [hf] at h
  simp only at h
  split at h
  ·omega
  ·rename_i h35
   have h35 : (nats l).getD 0 0 = 35 := by omega
   cases hl : nats l with
   | nil => rw [hl] at h35; simp at h35
   | cons c u =>
    obtain rfl : c = 35 := by rw [hl] at h35; simpa using h35
    split at h
    ·rename_i hx
     cases u with
     | nil =>
      have := nats_length l
      rw [hl] at this
      simp at this
      omega
     | cons X ds =>
      rw [nats_drop, hl] at h
      obtain ⟨a1, a2, a3, _⟩ := numZ_ok h
      exact Or.inr (Or.inl ⟨X, ds, rfl, by have := hx.2; rw [hl] at this; simpa using this, a1, a2, a3⟩)
    ·rw [nats_drop, hl] at h
     obtain ⟨a1, a2, a3, _⟩ := numZ_ok h
     exact Or.inr (Or.inr ⟨u, rfl, a1, a2, a3⟩)
theorem innZ_len {l : List UInt8} (h : 0 ≤ innZ l) : 59 ∉ nats l ∧ 2 ≤ l.length ∧ l.length ≤ 8 := by
 rcases innZ_ok h with ⟨x, hx, _, rfl⟩ | ⟨X, ds, hl, hX, h0, hm, hd⟩ | ⟨ds, hl, h0, hm, hd⟩
 ·have := nm_inn x hx
  exact ⟨this.1, this.2.1, this.2.2.1⟩
 ·have hlen := nats_length l
  rw [hl] at hlen ⊢
  have h1 : 0 < ds.length := List.length_pos_iff.2 h0
  simp at hlen
  refine ⟨?_, by omega, by omega⟩
  intro hm
  simp only [List.mem_cons] at hm
  rcases hm with e | e | e
  ·omega
  ·omega
  ·exact dg16_x (hd 59 e) rfl
 ·have hlen := nats_length l
  rw [hl] at hlen ⊢
  have h1 : 0 < ds.length := List.length_pos_iff.2 h0
  simp at hlen
  refine ⟨?_, by omega, by omega⟩
  intro hm
  simp only [List.mem_cons] at hm
  rcases hm with e | e
  ·omega
  ·exact (dg10_x (hd 59 e)).2.2 rfl
end Go.Proofs.YtojinnnpfjhifaaGreatDoor

namespace Go.Proofs.YtojinnnpfjhifaaGreatDoor
open Go.RowKit Go.Shelf Go.Lib Go.Maps Go.Great
def inner (ys : List Nat) (n : Nat) : List Nat := (ys.take (n - 1)).drop 1
structure Good (ys : List Nat) (n : Nat) : Prop where
 h3 : 3 ≤ n
 hn : n ≤ ys.length
 he : ys[n - 1]? = some 59
 hi : 0 ≤ innZ (u8s (inner ys n))
theorem inner_len {ys : List Nat} {n : Nat} (h : n ≤ ys.length) : (inner ys n).length = n - 2 := by simp [inner]; omega
theorem inner_at {ys : List Nat} {n j c : Nat} (h1 : 1 ≤ j) (h2 : j < n - 1) (hc : ys[j]? = some c) : (inner ys n)[j - 1]? = some c := by
 rw [inner, List.getElem?_drop, show 1 + (j - 1) = j by omega, List.getElem?_take, if_pos h2, hc]
theorem u8s_lenE (l : List Nat) : (u8s l).length = l.length := by simp [u8s]
theorem inner_lt {ys : List Nat} (h : ∀ x ∈ ys, x < 256) (n : Nat) : ∀ x ∈ inner ys n, x < 256 := fun x hx => h x (List.mem_of_mem_take (List.mem_of_mem_drop hx))
theorem good_no {ys : List Nat} (h256 : ∀ x ∈ ys, x < 256) {n j : Nat} (h : Good ys n) (h1 : 1 ≤ j) (h2 : j < n - 1) : ys[j]? ≠ some 59 := fun hc => by
 have := (innZ_len h.hi).1
 rw [nats_u8s _ (inner_lt h256 n)] at this
 exact this (List.mem_of_getElem? (inner_at h1 h2 hc))
theorem good_uni {ys : List Nat} (h256 : ∀ x ∈ ys, x < 256) {n m : Nat} (h : Good ys n) (h' : Good ys m) : n = m := by
 have a := h.h3
 have b := h'.h3
 rcases Nat.lt_trichotomy n m with e | e | e
 ·exact absurd h.he (good_no h256 h' (j := n - 1) (by omega) (by omega))
 ·exact e
 ·exact absurd h'.he (good_no h256 h (j := m - 1) (by omega) (by omega))
theorem good_10 {ys : List Nat} {n : Nat} (h : Good ys n) : n ≤ 10 ∧ 4 ≤ n := by
 have h1 := (innZ_len h.hi).2
 have h3 := h.h3
 rw [u8s_lenE, inner_len h.hn] at h1
 omega
theorem cut_eq (xs : List Nat) (k n : Nat) : cutT xs k n = (xs.drop k).take n := by
 rw [cutT, List.drop_take]
 congr 1
 omega
theorem whole_eq {ys : List Nat} (h256 : ∀ x ∈ ys, x < 256) {n : Nat} (h3 : 3 ≤ n) (hn : n ≤ ys.length) : wholeZ (u8s (ys.take n)) = if ys.getD 0 0 ≠ 38 ∨ ys.getD (n - 1) 0 ≠ 59 then -1 else innZ (u8s (inner ys n)) := by
 have hl : (ys.take n).length = n := by rw [List.length_take]; omega
 have hN : nats (u8s (ys.take n)) = ys.take n := nats_u8s _ fun x hx => h256 x (List.mem_of_mem_take hx)
 have g0 : (ys.take n).getD 0 0 = ys.getD 0 0 := by
  simp only [List.getD_eq_getElem?_getD, List.getElem?_take]
  rw [if_pos (by omega)]
 have g1 : (ys.take n).getD (n - 1) 0 = ys.getD (n - 1) 0 := by
  simp only [List.getD_eq_getElem?_getD, List.getElem?_take]
  rw [if_pos (by omega)]
 have hin : ((u8s (ys.take n)).take (n - 1)).drop 1 = u8s (inner ys n) := by
  simp only [u8s, inner, List.map_drop, List.map_take, List.take_take]
  rw [show min (n - 1) n = n - 1 by omega]
 rw [wholeZ, u8s_lenE, hl, hN, g0, g1, hin]
 by_cases hc : ys.getD 0 0 ≠ 38 ∨ ys.getD (n - 1) 0 ≠ 59
 ·rw [if_pos hc, if_pos (Or.inr hc)]
 ·rw [if_neg hc, if_neg (fun e => e.elim (fun e => by omega) hc)]
theorem whole_good {ys : List Nat} (h256 : ∀ x ∈ ys, x < 256) {n : Nat} (h3 : 3 ≤ n) (hn : n ≤ ys.length) (h : 0 ≤ wholeZ (u8s (ys.take n))) : ys.getD 0 0 = 38 ∧ Good ys n := by
 rw [whole_eq h256 h3 hn] at h
 split at h
 ·omega
 ·rename_i hc
  have c0 : ys.getD 0 0 = 38 := Classical.byContradiction fun e => hc (Or.inl e)
  have c1 : ys.getD (n - 1) 0 = 59 := Classical.byContradiction fun e => hc (Or.inr e)
  refine ⟨c0, h3, hn, ?_, h⟩
  obtain ⟨c, hcc⟩ := at_lt (l := ys) (k := n - 1) (by omega)
  rw [List.getD_eq_getElem?_getD, hcc] at c1
  rw [hcc]
  exact congrArg some c1
theorem good_whole {ys : List Nat} (h256 : ∀ x ∈ ys, x < 256) {n : Nat} (h0 : ys.getD 0 0 = 38) (h : Good ys n) : wholeZ (u8s (ys.take n)) = innZ (u8s (inner ys n)) := by
 rw [whole_eq h256 h.h3 h.hn, if_neg]
 rintro (e | e)
 ·exact e h0
 ·rw [List.getD_eq_getElem?_getD, h.he] at e
  exact e rfl
theorem ref_good {xs : List Nat} {k n : Nat} (h256 : ∀ x ∈ xs.drop k, x < 256) (hk : k < xs.length) (h0 : (xs.drop k).getD 0 0 = 38) (h : Good (xs.drop k) n) : refFrom xs k 8 3 = (innZ (u8s (inner (xs.drop k) n)), n) := by
 have hl : (xs.drop k).length = xs.length - k := List.length_drop
 have hn := h.hn
 have hw := good_whole h256 h0 h
 have := refFrom_hit (xs := xs) (k := k) (p := n) (by omega) (by rw [cut_eq, hw]; exact h.hi) 8 3 h.h3 (by have := (good_10 h).1; omega) (fun j h3 hj hz => by
  rw [cut_eq] at hz
  have := (whole_good h256 h3 (by omega) hz).2
  have := good_uni h256 h this
  omega)
 rw [this, cut_eq, hw]
theorem ref_none {xs : List Nat} {k : Nat} (h256 : ∀ x ∈ xs.drop k, x < 256) (hk : k < xs.length) (h : ∀ n, (xs.drop k).getD 0 0 = 38 → ¬ Good (xs.drop k) n) : refFrom xs k 8 3 = (0, 0) := by
 have hl : (xs.drop k).length = xs.length - k := List.length_drop
 refine refFrom_none 8 3 fun j h3 hj hz => ?_
 rw [cut_eq] at hz
 obtain ⟨a, b⟩ := whole_good h256 h3 (by omega) hz
 exact h j a b
theorem readS_is {ys : List Nat} {Z : Int} {n : Nat} : ∀ (L : List Sty), (∀ s ∈ L, ∀ m, followR s.beg s.may ys = (m, true) → s.means ((ys.take (m - 1)).drop s.beg.length) = Z ∧ m = n) → (∃ s ∈ L, ∃ m, followR s.beg s.may ys = (m, true)) → readS L ys = (Z, n)
 | [], _, h => by obtain ⟨s, hs, _⟩ := h; cases hs
 | s :: L, h1, h2 => by
  rw [readS]
  obtain ⟨m, b, hf⟩ : ∃ m b, followR s.beg s.may ys = (m, b) := ⟨_, _, rfl⟩
  rw [hf]
  cases b with
  | true =>
   obtain ⟨e1, e2⟩ := h1 s (by simp) m hf
   simp only [if_true]
   rw [e1, e2]
  | false =>
   simp only [Bool.false_eq_true, if_false]
   refine readS_is L (fun s' hs' => h1 s' (by simp [hs'])) ?_
   obtain ⟨s', hs', m', hf'⟩ := h2
   rcases List.mem_cons.1 hs' with rfl | hs'
   ·rw [hf] at hf'
    cases hf'
   ·exact ⟨s', hs', m', hf'⟩
theorem readS_none {ys : List Nat} : ∀ (L : List Sty), (∀ s ∈ L, ∀ m, followR s.beg s.may ys ≠ (m, true)) → readS L ys = (0, 0)
 | [], _ => rfl
 | s :: L, h1 => by
  rw [readS]
  obtain ⟨m, b, hf⟩ : ∃ m b, followR s.beg s.may ys = (m, b) := ⟨_, _, rfl⟩
  rw [hf]
  cases b with
  | true => exact absurd hf (h1 s (by simp) m)
  | false =>
   simp only [Bool.false_eq_true, if_false]
   exact readS_none L fun s' hs' => h1 s' (by simp [hs'])
end Go.Proofs.YtojinnnpfjhifaaGreatDoor

namespace Go.Proofs.YtojinnnpfjhifaaGreatDoor
open Go.RowKit Go.Shelf Go.Lib Go.Maps Go.Great
theorem isMy_59 (l : List Nat) : isMy l 59 = isNm (u8s l) := by
 funext x
 rw [isMy, if_pos rfl]
 rfl
theorem style_n {ys : List Nat} (_h256 : ∀ x ∈ ys, x < 256) {m : Nat} (h : followR [38] mayNm ys = (m, true)) : Good ys m ∧ nmR (u8s ((ys.take (m - 1)).drop 1)) = innZ (u8s (inner ys m)) := by
 have hm := follow_true h
 simp only [List.length_singleton] at hm
 rw [followR] at h
 split at h
 ·obtain ⟨h1, h2, _⟩ := fol_last (may := mayNm) (xs := ys) (h := 1) (m := m) _ 1 rfl (Nat.le_refl _) h
  rw [mayNm, isMy_59] at h2
  obtain ⟨x, hx⟩ := Option.isSome_iff_exists.1 h2
  have hxm := List.mem_of_find?_eq_some hx
  have he : x.1 = u8s (inner ys m) := by
   have hb : isNm (u8s (inner ys m)) x = true := List.find?_some hx
   exact eq_of_beq hb
  have hnx := nm_inn x hxm
  have hZ : innZ (u8s (inner ys m)) = x.2 := by rw [innZ, show nmE.find? (isNm (u8s (inner ys m))) = some x from hx]
  have hlen : (inner ys m).length = m - 2 := inner_len hm.2
  have h2l := hnx.2.1
  rw [he, u8s_lenE, hlen] at h2l
  refine ⟨⟨by omega, hm.2, h1, by rw [hZ]; exact hnx.2.2.2.1⟩, ?_⟩
  rw [hZ, nmR, show nmE.find? (isNm (u8s ((ys.take (m - 1)).drop 1))) = some x from hx]
  rfl
 ·simp at h
theorem style_d {ys : List Nat} (h256 : ∀ x ∈ ys, x < 256) {m : Nat} (h : followR [38, 35] (mayD 10 7) ys = (m, true)) : Good ys m ∧ mnR (nbV 10 ((ys.take (m - 1)).drop 2) 0) = innZ (u8s (inner ys m)) := by
 have hm := follow_true h
 obtain ⟨a1, a2, a3⟩ := follow_num h
 simp only [List.length_cons, List.length_nil, Nat.zero_add, Nat.reduceAdd] at hm a1 a2 a3
 rw [followR] at h
 split at h
 ·rename_i hp
  obtain ⟨h1, _, _⟩ := fol_last (may := mayD 10 7) (xs := ys) (h := 2) (m := m) _ 2 rfl (Nat.le_refl _) h
  obtain ⟨t, rfl⟩ := List.isPrefixOf_iff_prefix.1 hp
  obtain ⟨q, rfl⟩ : ∃ q, m = q + 3 := ⟨m - 3, by omega⟩
  have hi : inner (nats [38, 35] ++ t) (q + 3) = 35 :: t.take q := by simp [inner, nats]
  have hd : (List.take (q + 3 - 1) (nats [38, 35] ++ t)).drop 2 = t.take q := by simp [nats]
  have hn : nats (u8s (inner (nats [38, 35] ++ t) (q + 3))) = 35 :: t.take q := by rw [nats_u8s _ (inner_lt h256 _), hi]
  rw [hd] at a1 a2 a3
  have hz := innZ_dec hn a2 a3 a1
  refine ⟨⟨by omega, hm.2, h1, by rw [hz]; exact mnR_pos _⟩, ?_⟩
  rw [hz]
  exact congrArg (fun u => mnR (nbV 10 u 0)) hd
 ·simp at h
theorem style_h {X : UInt8} (hX : X.toNat = 120 ∨ X.toNat = 88) {ys : List Nat} (h256 : ∀ x ∈ ys, x < 256) {m : Nat} (h : followR [38, 35, X] (mayD 16 6) ys = (m, true)) : Good ys m ∧ mnR (nbV 16 ((ys.take (m - 1)).drop 3) 0) = innZ (u8s (inner ys m)) := by
 have hm := follow_true h
 obtain ⟨a1, a2, a3⟩ := follow_num h
 simp only [List.length_cons, List.length_nil, Nat.zero_add, Nat.reduceAdd] at hm a1 a2 a3
 rw [followR] at h
 split at h
 ·rename_i hp
  obtain ⟨h1, _, _⟩ := fol_last (may := mayD 16 6) (xs := ys) (h := 3) (m := m) _ 3 rfl (Nat.le_refl _) h
  obtain ⟨t, rfl⟩ := List.isPrefixOf_iff_prefix.1 hp
  obtain ⟨q, rfl⟩ : ∃ q, m = q + 4 := ⟨m - 4, by omega⟩
  have hi : inner (nats [38, 35, X] ++ t) (q + 4) = 35 :: X.toNat :: t.take q := by simp [inner, nats]
  have hd : (List.take (q + 4 - 1) (nats [38, 35, X] ++ t)).drop 3 = t.take q := by simp [nats]
  have hn : nats (u8s (inner (nats [38, 35, X] ++ t) (q + 4))) = 35 :: X.toNat :: t.take q := by rw [nats_u8s _ (inner_lt h256 _), hi]
  rw [hd] at a1 a2 a3
  have hz := innZ_hex hn hX a2 a3 a1
  refine ⟨⟨by omega, hm.2, h1, by rw [hz]; exact mnR_pos _⟩, ?_⟩
  rw [hz, hd]
 ·simp at h
theorem styles_good {ys : List Nat} (h256 : ∀ x ∈ ys, x < 256) : ∀ s ∈ styL, ∀ m, followR s.beg s.may ys = (m, true) → Good ys m ∧ s.means ((ys.take (m - 1)).drop s.beg.length) = innZ (u8s (inner ys m)) := by
 intro s hs m h
 simp only [styL, List.mem_cons, List.not_mem_nil, or_false] at hs
 rcases hs with rfl | rfl | rfl | rfl
 ·exact style_n h256 h
 ·exact style_d h256 h
 ·exact style_h (X := 120) (Or.inl rfl) h256 h
 ·exact style_h (X := 88) (Or.inr rfl) h256 h
theorem good_pref {ys : List Nat} {n : Nat} (h0 : ys.getD 0 0 = 38) (h : Good ys n) : ys = 38 :: (inner ys n ++ ys.drop (n - 1)) := by
 cases ys with
 | nil => have := h.h3; have := h.hn; simp at this; omega
 | cons y t =>
  obtain rfl : y = 38 := by simpa using h0
  have h3 := h.h3
  obtain ⟨q, rfl⟩ : ∃ q, n = q + 2 := ⟨n - 2, by omega⟩
  simp [inner]
theorem good_style {ys : List Nat} (h256 : ∀ x ∈ ys, x < 256) {n : Nat} (h0 : ys.getD 0 0 = 38) (h : Good ys n) : ∃ s ∈ styL, ∃ m, followR s.beg s.may ys = (m, true) := by
 have hp := good_pref h0 h
 have hN : nats (u8s (inner ys n)) = inner ys n := nats_u8s _ (inner_lt h256 n)
 have hn3 := h.h3
 have no := fun j c (h1 : 1 ≤ j) (h2 : j < n - 1) (hc : ys[j]? = some c) => show c ≠ 59 from fun e => good_no h256 h h1 h2 (by rw [hc, e])
 have take1 : ∀ j, 1 ≤ j → j < n - 1 → (ys.take j).drop 1 = (inner ys n).take (j - 1) := fun j h1 h2 => by
  rw [inner, List.take_drop, List.take_take, show min (1 + (j - 1)) (n - 1) = j by omega]
 rcases innZ_ok h.hi with ⟨x, hx, hf, he⟩ | ⟨X, ds, hl, hX, d0, dm, dd⟩ | ⟨ds, hl, d0, dm, dd⟩
 ·refine ⟨stN, by simp [styL], n - 1 + 1, ?_⟩
  show followR [38] mayNm ys = _
  have hpre : (nats [38]).isPrefixOf ys = true := by rw [hp]; rfl
  rw [followR, if_pos hpre]
  refine fol_whole h.he ?_ ?_ _ 1 rfl (Nat.le_refl _) (by omega)
  ·show (nmE.find? (isMy (inner ys n) 59)).isSome = true
   rw [isMy_59, hf]
   rfl
  ·intro j c h1 h2 hc
   have hne := no j c h1 h2 hc
   refine ⟨hne, ?_⟩
   show (nmE.find? (isMy ((ys.take j).drop 1) c)).isSome = true
   rw [take1 j h1 h2, List.find?_isSome]
   refine ⟨x, hx, ?_⟩
   have hil := inner_len h.hn
   have hxl : x.1.length = n - 2 := by rw [he, u8s_lenE, hil]
   have htl : ((inner ys n).take (j - 1)).length = j - 1 := by rw [List.length_take]; omega
   rw [isMy, if_neg hne, htl, hxl]
   have e1 : x.1.take (j - 1) = u8s ((inner ys n).take (j - 1)) := by rw [he]; simp [u8s, List.map_take]
   have e2 : (nats x.1).getD (j - 1) 0 = c := by rw [he, hN, List.getD_eq_getElem?_getD, inner_at h1 h2 hc]; rfl
   rw [e1, e2]
   have e3 : j - 1 < n - 2 := by omega
   simp [e3]
 ·rw [hN] at hl
  have hil := inner_len h.hn
  rw [hl] at hil
  simp at hil
  rw [hl] at hp
  have hXX : (UInt8.ofNat X).toNat = X := by rcases hX with rfl | rfl <;> rfl
  have hdn : (ys.take (n - 1)).drop 3 = ds := by
   have : (ys.take (n - 1)).drop 3 = ((ys.take (n - 1)).drop 1).drop 2 := by rw [List.drop_drop]
   rw [this]
   show (inner ys n).drop 2 = ds
   rw [hl]
   rfl
  have key : followR [38, 35, UInt8.ofNat X] (mayD 16 6) ys = (n - 1 + 1, true) := by
   have hpre : (nats [38, 35, UInt8.ofNat X]).isPrefixOf ys = true := by
    rw [hp]
    simp only [nats, List.map_cons, List.map_nil, hXX]
    simp
   rw [followR, if_pos hpre]
   refine fol_whole h.he ?_ ?_ _ 3 rfl (Nat.le_refl _) (by have := List.length_pos_iff.2 d0; omega)
   ·show mayD 16 6 ((ys.take (n - 1)).drop 3) 59 = true
    rw [hdn, mayD, if_pos rfl]
    simpa using List.length_pos_iff.2 d0
   ·intro j c h1 h2 hc
    have h1 : 3 ≤ j := h1
    have hne := no j c (by omega) h2 hc
    refine ⟨hne, ?_⟩
    have hcd : c ∈ ds := by
     have := inner_at (n := n) (by omega) h2 hc
     rw [hl, show j - 1 = (j - 3) + 2 by omega] at this
     exact List.mem_of_getElem? (by simpa using this)
    rw [mayD, if_neg hne, dd c hcd]
    have : ((ys.take j).drop 3).length = j - 3 := by rw [List.length_drop, List.length_take]; have := h.hn; omega
    show (decide (((ys.take j).drop 3).length < 6) && true) = true
    rw [this]
    simp
    omega
  rcases hX with rfl | rfl
  ·exact ⟨stD [38, 35, 120] 16 6, by simp [styL], _, key⟩
  ·exact ⟨stD [38, 35, 88] 16 6, by simp [styL], _, key⟩
 ·rw [hN] at hl
  have hil := inner_len h.hn
  rw [hl] at hil
  simp at hil
  rw [hl] at hp
  have hdn : (ys.take (n - 1)).drop 2 = ds := by
   have : (ys.take (n - 1)).drop 2 = ((ys.take (n - 1)).drop 1).drop 1 := by rw [List.drop_drop]
   rw [this]
   show (inner ys n).drop 1 = ds
   rw [hl]
   rfl
  refine ⟨stD [38, 35] 10 7, by simp [styL], n - 1 + 1, ?_⟩
  show followR [38, 35] (mayD 10 7) ys = _
  have hpre : (nats [38, 35]).isPrefixOf ys = true := by
   rw [hp]
   simp [nats]
  rw [followR, if_pos hpre]
  refine fol_whole h.he ?_ ?_ _ 2 rfl (Nat.le_refl _) (by have := List.length_pos_iff.2 d0; omega)
  ·show mayD 10 7 ((ys.take (n - 1)).drop 2) 59 = true
   rw [hdn, mayD, if_pos rfl]
   simpa using List.length_pos_iff.2 d0
  ·intro j c h1 h2 hc
   have h1 : 2 ≤ j := h1
   have hne := no j c (by omega) h2 hc
   refine ⟨hne, ?_⟩
   have hcd : c ∈ ds := by
    have := inner_at (n := n) (by omega) h2 hc
    rw [hl, show j - 1 = (j - 2) + 1 by omega] at this
    exact List.mem_of_getElem? (by simpa using this)
   rw [mayD, if_neg hne, dd c hcd]
   have : ((ys.take j).drop 2).length = j - 2 := by rw [List.length_drop, List.length_take]; have := h.hn; omega
   show (decide (((ys.take j).drop 2).length < 7) && true) = true
   rw [this]
   simp
   omega
theorem read_same (xs : List Nat) (h256 : ∀ x ∈ xs, x < 256) (k : Nat) (hk : k < xs.length) : readE xs (k : Int) = refFrom xs k 8 3 := by
 have hd : ∀ x ∈ xs.drop k, x < 256 := fun x hx => h256 x (List.mem_of_mem_drop hx)
 have hg : xs.getD k 0 = (xs.drop k).getD 0 0 := by simp [List.getD_eq_getElem?_getD]
 rw [readE, if_neg (by omega), Int.toNat_natCast, hg]
 by_cases h0 : (xs.drop k).getD 0 0 = 38
 ·rw [if_pos h0]
  by_cases hG : ∃ n, Good (xs.drop k) n
  ·obtain ⟨n, hn⟩ := hG
   rw [ref_good hd hk h0 hn]
   refine readS_is styL (fun s hs m hf => ?_) (good_style hd h0 hn)
   obtain ⟨g, e⟩ := styles_good hd s hs m hf
   obtain rfl := good_uni hd g hn
   exact ⟨e, rfl⟩
  ·rw [ref_none hd hk (fun n _ h => hG ⟨n, h⟩)]
   exact readS_none styL fun s hs m hf => hG ⟨m, (styles_good hd s hs m hf).1⟩
 ·rw [if_neg h0, ref_none hd hk (fun n h _ => h0 h)]
end Go.Proofs.YtojinnnpfjhifaaGreatDoor

namespace Go.Proofs.YtojinnnpfjhifaaGreatDoor
open Go.RowKit Go.Shelf Go.Lib Go.Maps
theorem inR_yes {lo hi c : Nat} (h1 : lo ≤ c) (h2 : c ≤ hi) : inR lo hi c = true := by simp [inR, h1, h2]
theorem inR_no {lo hi c : Nat} (h : c < lo ∨ hi < c) : inR lo hi c = false := by simp [inR]; omega
theorem rr_nil (st n : Nat) : refR st n [] = ⟨n, false, true, 0⟩ := by rw [refR]
theorem rr0_91 (n : Nat) (r : List Nat) : refR 0 n (91 :: r) = refR 1 (n + 1) r := by rw [refR, if_pos rfl, if_pos rfl]
theorem rr0_mid {n c : Nat} {r : List Nat} (h : c ≠ 91) (h1 : 64 ≤ c) (h2 : c ≤ 95) : refR 0 n (c :: r) = ⟨2, true, false, c⟩ := by rw [refR, if_pos rfl, if_neg h, if_pos (inR_yes h1 h2)]
theorem rr0_no {n c : Nat} {r : List Nat} (h1 : c < 64 ∨ 95 < c) : refR 0 n (c :: r) = ⟨1, false, false, 0⟩ := by rw [refR, if_pos rfl, if_neg (by omega), if_neg (by simp [inR_no h1])]
theorem rr1_par {n c : Nat} {r : List Nat} (h1 : 48 ≤ c) (h2 : c ≤ 63) : refR 1 n (c :: r) = refR 1 (n + 1) r := by rw [refR, if_neg (by decide), if_pos ⟨rfl, inR_yes h1 h2⟩]
theorem rrS_int {st n c : Nat} {r : List Nat} (hs : st ≠ 0) (h1 : 32 ≤ c) (h2 : c ≤ 47) : refR st n (c :: r) = refR 2 (n + 1) r := by
 rw [refR, if_neg hs, if_neg (by simp [inR_no (show c < 48 ∨ 63 < c by omega)]), if_pos (inR_yes h1 h2)]
theorem rrS_fin {st n c : Nat} {r : List Nat} (hs : st ≠ 0) (h1 : 64 ≤ c) (h2 : c ≤ 126) : refR st n (c :: r) = ⟨n + 1, true, false, c⟩ := by
 rw [refR, if_neg hs, if_neg (by simp [inR_no (show c < 48 ∨ 63 < c by omega)]), if_neg (by simp [inR_no (show c < 32 ∨ 47 < c by omega)]), if_pos (inR_yes h1 h2)]
theorem rrS_no {st n c : Nat} {r : List Nat} (hs : st ≠ 0) (h : c < 32 ∨ 126 < c ∨ (st = 2 ∧ 48 ≤ c ∧ c ≤ 63)) : refR st n (c :: r) = ⟨n, false, false, 0⟩ := by
 have a : ¬ (st = 1 ∧ inR 48 63 c = true) := by
  rintro ⟨h1, h2⟩
  simp [inR] at h2
  omega
 rw [refR, if_neg hs, if_neg a, if_neg (by simp [inR_no (show c < 32 ∨ 47 < c by omega)]), if_neg (by simp [inR_no (show c < 64 ∨ 126 < c by omega)])]
set_option maxHeartbeats 8000000 in
set_option maxRecDepth 100000 in
theorem refRead_any (xs : List Nat) (A : Option Addr) (cap : Nat) (I : Int) (w : World) (h : BY w w.heap.size xs A cap) :
  Calls Tryz.prog 50 #[.slice A xs.length cap, .int .i64 I] w fun r w' => r = .returned (escV (readAt xs I)) ∧ Below w.heap.size w w' := by
 have hlen := h.len
 obtain ⟨N, hN⟩ : ∃ N, xs.length = N := ⟨_, rfl⟩
 rw [hN] at hlen ⊢
 by_cases h0 : I < 0
 ·have d0 : decide (I < 0) = true := by simpa using h0
  rw [show readAt xs I = escNone by rw [readAt, if_pos h0]]
  clear h hN
  go_enter Tryz.func50, Tryz.ntmps50
  go_wp2_with fail
  refine bodyPost_ret (v := .agg #[.int .i64 0, .bool false, .bool false, .int .u8 0]) (by simp [results, Tryz.results50, go_sem]) rfl ⟨rfl, below_new w _⟩
 have d0 : decide (I < 0) = false := by simpa using h0
 obtain ⟨k, rfl⟩ := Int.eq_ofNat_of_zero_le (show 0 ≤ I by omega)
 rw [show readAt xs (k : Int) = readT (xs.drop k) by rw [readAt, if_neg h0, Int.toNat_natCast]]
 clear h0
 by_cases hlt : k < N
 case neg =>
  have d1 : decide ((N : Int) ≤ (k : Int)) = true := by simp; omega
  rw [List.drop_of_length_le (by omega)]
  clear h hN
  go_enter Tryz.func50, Tryz.ntmps50
  go_wp2_with fail
  refine bodyPost_ret (v := .agg #[.int .i64 0, .bool false, .bool false, .int .u8 0]) (by simp [results, Tryz.results50, go_sem]) rfl ⟨rfl, below_new w _⟩
 have d1 : decide ((N : Int) ≤ (k : Int)) = false := by simp; omega
 obtain ⟨x, hx⟩ := at_lt (l := xs) (k := k) (by rw [hN]; exact hlt)
 obtain ⟨b, o, rfl, hbl, e0⟩ := h.at hx
 have hcap := h.l
 have hmx := h.m
 unfold maxLen at hmx
 rw [hN] at hcap
 by_cases hc : x = 27
 case neg =>
  have d2 : ((x : Int) != 27) = true := by rw [bne_iff_ne]; omega
  rw [drop_at hx, readT_not _ hc]
  clear h hN hx hc
  generalize (x : Int) = X at *
  go_enter Tryz.func50, Tryz.ntmps50
  go_wp2_with fail
  refine bodyPost_ret (v := .agg #[.int .i64 0, .bool false, .bool false, .int .u8 0]) (by simp [results, Tryz.results50, go_sem]) rfl ⟨rfl, below_new w _⟩
 subst hc
 have e0 : w.cell? ⟨b, o + k, none⟩ = some (.int .u8 27) := e0
 obtain ⟨R, hR⟩ : ∃ R, readT (xs.drop k) = R := ⟨_, rfl⟩
 rw [hR]
 rw [drop_at hx, ← ref_read] at hR
 have HH := Lib.hid (And.intro hR (And.intro h hN))
 clear hR h hN hx
 go_enter Tryz.func50, Tryz.ntmps50
 go_wp2_with fail
 go_loopw [5, 6, 7, 8] (fun s i _ _ wr => ∃ st j m : Nat, s = .int .i64 (st : Int) ∧ i = .int .i64 (j : Int) ∧ j = k + m ∧ j ≤ N ∧ 1 ≤ m ∧ st ≤ 2 ∧ refR st m (xs.drop j) = R ∧ wr = w.alloc (.cells #[.int .i64 0, .bool false, .bool false, .int .u8 0] 98)) (fun _ i _ _ _ => N - (RowKit.intOf i).toNat)
 case atStart => exact ⟨0, k + 1, 1, rfl, by go_num, rfl, by omega, by omega, by omega, HH.out.1, rfl⟩
 case round =>
  obtain ⟨st, j, m, rfl, rfl, hjm, hj, hm, hst, hke, rfl⟩ := hrel
  have hsub : (j : Int) - (k : Int) = (m : Int) := by omega
  by_cases hlt2 : j < N
  case neg =>
   obtain rfl : j = N := by omega
   have i1 : ¬ (j : Int) < (j : Int) := by omega
   have hn : R = ⟨m, false, true, 0⟩ := by rw [← hke, ← HH.out.2.2, List.drop_length, rr_nil]
   subst hn
   clear hke hjm
   go_wp2_with fail
   refine bodyPost_ret (v := .agg #[.int .i64 (m : Int), .bool false, .bool true, .int .u8 0]) (by simp [results, Tryz.results50, go_sem]) rfl ⟨rfl, below_new w _⟩
  have i1 : (j : Int) < (N : Int) := by omega
  obtain ⟨c, hc⟩ := at_lt (l := xs) (k := j) (by rw [HH.out.2.2]; exact hlt2)
  obtain ⟨b', o', e, _, e1⟩ := HH.out.2.1.at hc
  obtain ⟨rfl, rfl⟩ : b = b' ∧ o = o' := by simpa using e
  rw [drop_at hc] at hke
  have hnx : j + 1 = k + (m + 1) := by omega
  obtain ⟨C, hC⟩ : ∃ C : Int, (c : Int) = C := ⟨_, rfl⟩
  rw [hC] at e1
  clear hc e
  rcases (show st = 0 ∨ st = 1 ∨ st = 2 by omega) with rfl | rfl | rfl
  ·by_cases h91 : c = 91
   ·subst h91
    have c1 : (C == 91) = true := by rw [beq_iff_eq]; omega
    rw [rr0_91] at hke
    have HK := Lib.hid hke
    have HC := Lib.hid hC
    have HS := Lib.hid (And.intro hnx hjm)
    clear hke hC hnx hjm 
    go_wp2_with fail
    go_roundw
    case rel => exact ⟨1, j + 1, m + 1, rfl, by go_num, HS.out.1, by omega, by omega, by omega, HK.out, trivial⟩
    case measure => simp [RowKit.intOf]; omega
   ·by_cases hm2 : 64 ≤ c ∧ c ≤ 95
    ·obtain ⟨ha, hb⟩ := hm2
     have c1 : (C == 91) = false := by rw [beq_eq_false_iff_ne]; omega
     have c2 : (decide (64 ≤ C)) = true := by simp; omega
     have c3 : (decide (C ≤ 95)) = true := by simp; omega
     rw [rr0_mid h91 ha hb] at hke
     subst hke
     have HC := Lib.hid hC
     clear hC hnx hjm h91 ha hb
     go_wp2_with fail
     refine bodyPost_ret (v := .agg #[.int .i64 2, .bool true, .bool false, .int .u8 C]) (by simp [results, Tryz.results50, go_sem]) rfl ⟨by rw [← HC.out]; rfl, below_new w _⟩
    ·by_cases hlo : c < 64
     ·have c1 : (C == 91) = false := by rw [beq_eq_false_iff_ne]; omega
      have c2 : (decide (64 ≤ C)) = false := by simp; omega
      rw [rr0_no (.inl hlo)] at hke
      subst hke
      have HC := Lib.hid hC
      clear hC hnx hjm h91 hm2 hlo
      go_wp2_with fail
      refine bodyPost_ret (v := .agg #[.int .i64 1, .bool false, .bool false, .int .u8 0]) (by simp [results, Tryz.results50, go_sem]) rfl ⟨rfl, below_new w _⟩
     ·have c1 : (C == 91) = false := by rw [beq_eq_false_iff_ne]; omega
      have c2 : (decide (64 ≤ C)) = true := by simp; omega
      have c3 : (decide (C ≤ 95)) = false := by simp; omega
      rw [rr0_no (.inr (by omega))] at hke
      subst hke
      have HC := Lib.hid hC
      clear hC hnx hjm h91 hm2 hlo
      go_wp2_with fail
      refine bodyPost_ret (v := .agg #[.int .i64 1, .bool false, .bool false, .int .u8 0]) (by simp [results, Tryz.results50, go_sem]) rfl ⟨rfl, below_new w _⟩
  ·rcases (show c < 32 ∨ (32 ≤ c ∧ c ≤ 47) ∨ (48 ≤ c ∧ c ≤ 63) ∨ (64 ≤ c ∧ c ≤ 126) ∨ 126 < c by omega) with h | h | h | h | h
   ·have a48 : (decide (48 ≤ C)) = false := by simp; omega
    have b63 : (decide (C ≤ 63)) = true := by simp; omega
    have a32 : (decide (32 ≤ C)) = false := by simp; omega
    have b47 : (decide (C ≤ 47)) = true := by simp; omega
    have a64 : (decide (64 ≤ C)) = false := by simp; omega
    have b126 : (decide (C ≤ 126)) = true := by simp; omega
    rw [rrS_no (by decide) (.inl h)] at hke
    subst hke
    have HC := Lib.hid hC
    clear hC hnx hjm h
    go_wp2_with fail
    refine bodyPost_ret (v := .agg #[.int .i64 (m : Int), .bool false, .bool false, .int .u8 0]) (by simp [results, Tryz.results50, go_sem]) rfl ⟨rfl, below_new w _⟩
   ·have a48 : (decide (48 ≤ C)) = false := by simp; omega
    have b63 : (decide (C ≤ 63)) = true := by simp; omega
    have a32 : (decide (32 ≤ C)) = true := by simp; omega
    have b47 : (decide (C ≤ 47)) = true := by simp; omega
    have a64 : (decide (64 ≤ C)) = false := by simp; omega
    have b126 : (decide (C ≤ 126)) = true := by simp; omega
    rw [rrS_int (by decide) h.1 h.2] at hke
    have HK := Lib.hid hke
    have HC := Lib.hid hC
    have HS := Lib.hid (And.intro hnx hjm)
    clear hke hC hnx hjm h
    go_wp2_with fail
    go_roundw
    case rel => exact ⟨2, j + 1, m + 1, rfl, by go_num, HS.out.1, by omega, by omega, by omega, HK.out, trivial⟩
    case measure => simp [RowKit.intOf]; omega
   ·have a48 : (decide (48 ≤ C)) = true := by simp; omega
    have b63 : (decide (C ≤ 63)) = true := by simp; omega
    have a32 : (decide (32 ≤ C)) = true := by simp; omega
    have b47 : (decide (C ≤ 47)) = false := by simp; omega
    have a64 : (decide (64 ≤ C)) = false := by simp; omega
    have b126 : (decide (C ≤ 126)) = true := by simp; omega
    rw [rr1_par h.1 h.2] at hke
    have HK := Lib.hid hke
    have HC := Lib.hid hC
    have HS := Lib.hid (And.intro hnx hjm)
    clear hke hC hnx hjm h
    go_wp2_with fail
    go_roundw
    case rel => exact ⟨1, j + 1, m + 1, rfl, by go_num, HS.out.1, by omega, by omega, by omega, HK.out, trivial⟩
    case measure => simp [RowKit.intOf]; omega
   ·have a48 : (decide (48 ≤ C)) = true := by simp; omega
    have b63 : (decide (C ≤ 63)) = false := by simp; omega
    have a32 : (decide (32 ≤ C)) = true := by simp; omega
    have b47 : (decide (C ≤ 47)) = false := by simp; omega
    have a64 : (decide (64 ≤ C)) = true := by simp; omega
    have b126 : (decide (C ≤ 126)) = true := by simp; omega
    rw [rrS_fin (by decide) h.1 h.2] at hke
    subst hke
    have HC := Lib.hid hC
    clear hC hnx hjm h
    go_wp2_with fail
    refine bodyPost_ret (v := .agg #[.int .i64 ((m : Int) + 1), .bool true, .bool false, .int .u8 C]) (by simp [results, Tryz.results50, go_sem]) rfl ⟨by rw [← HC.out]; rfl, below_new w _⟩
   ·have a48 : (decide (48 ≤ C)) = true := by simp; omega
    have b63 : (decide (C ≤ 63)) = false := by simp; omega
    have a32 : (decide (32 ≤ C)) = true := by simp; omega
    have b47 : (decide (C ≤ 47)) = false := by simp; omega
    have a64 : (decide (64 ≤ C)) = true := by simp; omega
    have b126 : (decide (C ≤ 126)) = false := by simp; omega
    rw [rrS_no (by decide) (.inr (.inl h))] at hke
    subst hke
    have HC := Lib.hid hC
    clear hC hnx hjm h
    go_wp2_with fail
    refine bodyPost_ret (v := .agg #[.int .i64 (m : Int), .bool false, .bool false, .int .u8 0]) (by simp [results, Tryz.results50, go_sem]) rfl ⟨rfl, below_new w _⟩
  ·rcases (show c < 32 ∨ (32 ≤ c ∧ c ≤ 47) ∨ (48 ≤ c ∧ c ≤ 63) ∨ (64 ≤ c ∧ c ≤ 126) ∨ 126 < c by omega) with h | h | h | h | h
   ·have a48 : (decide (48 ≤ C)) = false := by simp; omega
    have b63 : (decide (C ≤ 63)) = true := by simp; omega
    have a32 : (decide (32 ≤ C)) = false := by simp; omega
    have b47 : (decide (C ≤ 47)) = true := by simp; omega
    have a64 : (decide (64 ≤ C)) = false := by simp; omega
    have b126 : (decide (C ≤ 126)) = true := by simp; omega
    rw [rrS_no (by decide) (.inl h)] at hke
    subst hke
    have HC := Lib.hid hC
    clear hC hnx hjm h
    go_wp2_with fail
    refine bodyPost_ret (v := .agg #[.int .i64 (m : Int), .bool false, .bool false, .int .u8 0]) (by simp [results, Tryz.results50, go_sem]) rfl ⟨rfl, below_new w _⟩
   ·have a48 : (decide (48 ≤ C)) = false := by simp; omega
    have b63 : (decide (C ≤ 63)) = true := by simp; omega
    have a32 : (decide (32 ≤ C)) = true := by simp; omega
    have b47 : (decide (C ≤ 47)) = true := by simp; omega
    have a64 : (decide (64 ≤ C)) = false := by simp; omega
    have b126 : (decide (C ≤ 126)) = true := by simp; omega
    rw [rrS_int (by decide) h.1 h.2] at hke
    have HK := Lib.hid hke
    have HC := Lib.hid hC
    have HS := Lib.hid (And.intro hnx hjm)
    clear hke hC hnx hjm h
    go_wp2_with fail
    go_roundw
    case rel => exact ⟨2, j + 1, m + 1, rfl, by go_num, HS.out.1, by omega, by omega, by omega, HK.out, trivial⟩
    case measure => simp [RowKit.intOf]; omega
   ·have a48 : (decide (48 ≤ C)) = true := by simp; omega
    have b63 : (decide (C ≤ 63)) = true := by simp; omega
    have a32 : (decide (32 ≤ C)) = true := by simp; omega
    have b47 : (decide (C ≤ 47)) = false := by simp; omega
    have a64 : (decide (64 ≤ C)) = false := by simp; omega
    have b126 : (decide (C ≤ 126)) = true := by simp; omega
    rw [rrS_no (by decide) (.inr (.inr ⟨rfl, h⟩))] at hke
    subst hke
    have HC := Lib.hid hC
    clear hC hnx hjm h
    go_wp2_with fail
    refine bodyPost_ret (v := .agg #[.int .i64 (m : Int), .bool false, .bool false, .int .u8 0]) (by simp [results, Tryz.results50, go_sem]) rfl ⟨rfl, below_new w _⟩
   ·have a48 : (decide (48 ≤ C)) = true := by simp; omega
    have b63 : (decide (C ≤ 63)) = false := by simp; omega
    have a32 : (decide (32 ≤ C)) = true := by simp; omega
    have b47 : (decide (C ≤ 47)) = false := by simp; omega
    have a64 : (decide (64 ≤ C)) = true := by simp; omega
    have b126 : (decide (C ≤ 126)) = true := by simp; omega
    rw [rrS_fin (by decide) h.1 h.2] at hke
    subst hke
    have HC := Lib.hid hC
    clear hC hnx hjm h
    go_wp2_with fail
    refine bodyPost_ret (v := .agg #[.int .i64 ((m : Int) + 1), .bool true, .bool false, .int .u8 C]) (by simp [results, Tryz.results50, go_sem]) rfl ⟨by rw [← HC.out]; rfl, below_new w _⟩
   ·have a48 : (decide (48 ≤ C)) = true := by simp; omega
    have b63 : (decide (C ≤ 63)) = false := by simp; omega
    have a32 : (decide (32 ≤ C)) = true := by simp; omega
    have b47 : (decide (C ≤ 47)) = false := by simp; omega
    have a64 : (decide (64 ≤ C)) = true := by simp; omega
    have b126 : (decide (C ≤ 126)) = false := by simp; omega
    rw [rrS_no (by decide) (.inr (.inl h))] at hke
    subst hke
    have HC := Lib.hid hC
    clear hC hnx hjm h
    go_wp2_with fail
    refine bodyPost_ret (v := .agg #[.int .i64 (m : Int), .bool false, .bool false, .int .u8 0]) (by simp [results, Tryz.results50, go_sem]) rfl ⟨rfl, below_new w _⟩
end Go.Proofs.YtojinnnpfjhifaaGreatDoor

namespace Go.Proofs.YtojinnnpfjhifaaGreatDoor.G
open Go.RowKit Go.Shelf Go.Lib Go.Maps Go.Sort
theorem slice_mid (b o len cap l k : Nat) (hc : l < cap) (hh : l + k ≤ cap) (W : World) :
  (Instr.slice 22 (.slice (some ⟨b, o, none⟩) len cap) (some (.int .i64 (l : Int))) (some (.int .i64 ((l : Int) + (k : Int)))) none).run Tryz.prog W = .ok (.slice (some ⟨b, o + l, none⟩) k (cap - l)) W := by
 have := slice_win b o len cap l (l + k) (by omega) hh hc W
 rw [Nat.add_sub_cancel_left] at this
 exact this
theorem upGo_short (N kind : Nat) (e : List Nat) : ∀ l, l.length < e.length → upGo N kind e l = ⟨kind, N, [], [], false, false⟩
 | [], _ => rfl
 | c :: t, h => by
  rw [upGo]
  have hp : e.isPrefixOf (c :: t) = false := by
   rw [Bool.eq_false_iff]
   intro hh
   have := (List.isPrefixOf_iff_prefix.1 hh).length_le
   omega
  rw [hp]
  simp at h
  exact upGo_short N kind e t (by omega)
theorem prefix_take {e l : List Nat} (_h : e.length ≤ l.length) : e.isPrefixOf l = (l.take e.length == e) := by
 rw [Bool.eq_iff_iff, List.isPrefixOf_iff_prefix, beq_iff_eq, List.prefix_iff_eq_take]
 exact eq_comm
set_option maxHeartbeats 8000000 in
set_option maxRecDepth 100000 in
theorem upToC_any (b o cap : Nat) (xs : List Nat) (w : World) (hb : BY w w.heap.size xs (some ⟨b, o, none⟩) cap) (hl : xs.length ≤ 100000) :
  Calls Tryz.prog 60 #[.slice (some ⟨b, o, none⟩) xs.length cap, .int .i64 4, .int .i64 2, .string ⟨#[45, 45, 62]⟩] w (UpOk w (upGo xs.length 2 [45, 45, 62] (xs.drop 4))) := by
 have hcap := hb.l
 obtain ⟨T, hT⟩ : ∃ T, upGo xs.length 2 [45, 45, 62] (xs.drop 4) = T := ⟨_, rfl⟩
 rw [hT]
 have hok : ∀ (v : Value) w', v = .agg #[.int .i64 (T.kind : Int), .int .i64 (T.size : Int), .string ⟨#[]⟩, .slice none 0 0, .bool false, .bool T.closed] → Below w.heap.size w w' → UpOk w T (.returned v) w' := fun v w' h1 h2 => ⟨by rw [h1], h2⟩
 obtain ⟨Q, hQ⟩ : ∃ Q, UpOk w T = Q := ⟨_, rfl⟩
 rw [hQ] at hok ⊢
 obtain ⟨W1, hW1⟩ : ∃ W, w.alloc (.cells #[.int .i64 0, .int .i64 0, .string ⟨#[]⟩, .slice none 0 0, .bool false, .bool false] 94) = W := ⟨_, rfl⟩
 have b1 : Below w.heap.size w W1 := by rw [← hW1]; exact below_new _ _
 have x1 : Cells W1 w.heap.size 94 #[.int .i64 0, .int .i64 0, .string ⟨#[]⟩, .slice none 0 0, .bool false, .bool false] := by rw [← hW1]; exact cells_new _ _ _
 have hb1 := hb.on b1
 obtain ⟨N, hN⟩ : ∃ N, xs.length = N := ⟨_, rfl⟩
 rw [hN] at hcap hl hT ⊢
 have s0 := x1.cell 0
 have s1 := x1.cell 1
 have s2 := x1.cell 2
 have s3 := x1.cell 3
 have s4 := x1.cell 4
 have s5 := x1.cell 5
 have t0 := x1.froz 0
 have t1 := x1.froz 1
 have t2 := x1.froz 2
 have t3 := x1.froz 3
 have t4 := x1.froz 4
 have t5 := x1.froz 5
 have hg := x1.lt
 simp at s0 s1 s2 s3 s4 s5
 have HH := Lib.hid (And.intro hok (And.intro b1 (And.intro hb1 (And.intro hN hT))))
 clear hok b1 x1 hb1 hb hN hQ hT
 go_enter Tryz.func60, Tryz.ntmps60
 go_wp2_with fail
 clear hW1
 go_loopw [9] (fun i wr => ∃ j : Nat, i = .int .i64 (j : Int) ∧ j ≤ N + 4 ∧ upGo N 2 [45, 45, 62] (xs.drop j) = T ∧ wr = W1) (fun i _ => N + 10 - (RowKit.intOf i).toNat)
 case atStart => exact ⟨4, rfl, by omega, HH.out.2.2.2.2, rfl⟩
 case round =>
  obtain ⟨j, rfl, hj, hT, e⟩ := hrel
  obtain rfl := e.symm
  have e1 : IntKind.i64.wrap ((j : Int) + 3) = (j : Int) + 3 := IntWalk.i64_in _ (by omega)
  by_cases hlt : j + 3 ≤ N
  case neg =>
   have i1 : ¬ ((j : Int) + 3 ≤ (N : Int)) := by omega
   rw [upGo_short N 2 [45, 45, 62] (xs.drop j) (by rw [List.length_drop, HH.out.2.2.2.1]; simp; omega)] at hT
   have HT := Lib.hid hT
   clear hT
   go_wp2_with fail
   refine bodyPost_ret (v := .agg #[.int .i64 2, .int .i64 (N : Int), .string ⟨#[]⟩, .slice none 0 0, .bool false, .bool false]) ?_ rfl ?_
   ·simp [results, Tryz.results60, go_sem, s0, s1, s2, s3, s4, s5]
   ·exact HH.out.1 _ _ (by rw [← HT.out]; rfl) ((((((HH.out.2.1.setc (Nat.le_refl _) 0 _).setc (Nat.le_refl _) 1 _).setc (Nat.le_refl _) 2 _).setc (Nat.le_refl _) 3 _).setc (Nat.le_refl _) 4 _).setc (Nat.le_refl _) 5 _)
  case pos =>
   have i1 : (j : Int) + 3 ≤ (N : Int) := by omega
   have hsl : ∀ W, (Instr.slice 22 (.slice (some ⟨b, o, none⟩) N cap) (some (.int .i64 (j : Int))) (some (.int .i64 ((j : Int) + 3))) none).run Tryz.prog W = .ok (.slice (some ⟨b, o + j, none⟩) 3 (cap - j)) W := fun W => slice_mid b o N cap j 3 (by omega) (by omega) W
   have hwin : BY W1 W1.heap.size ((xs.drop j).take 3) (some ⟨b, o + j, none⟩) (cap - j) := (HH.out.2.2.1.dropL (by rw [HH.out.2.2.2.1]; omega)).take 3
   have htl : ((xs.drop j).take 3).length = 3 := by rw [List.length_take, List.length_drop, HH.out.2.2.2.1]; omega
   have hcv : (convert 22 9 (.slice (some ⟨b, o + j, none⟩) 3 (cap - j))).run Tryz.prog W1 = .ok (.string ⟨(u8s ((xs.drop j).take 3)).toArray⟩) W1 := by
    have h := conv_by hwin
    rw [htl] at h
    exact h
   have h256 : ∀ x ∈ (xs.drop j).take 3, x < 256 := hwin.i
   have hp := prefix_take (e := [45, 45, 62]) (l := xs.drop j) (by rw [List.length_drop, HH.out.2.2.2.1]; simp; omega)
   obtain ⟨x, hx⟩ := at_lt (l := xs) (k := j) (by rw [HH.out.2.2.2.1]; omega)
   have hdx := drop_at hx
   have hlen2 : (xs.drop (j + 1)).length = N - (j + 1) := by rw [List.length_drop, HH.out.2.2.2.1]
   have e2 : IntKind.i64.wrap ((j : Int) + 1) = (j : Int) + 1 := IntWalk.i64_in _ (by omega)
   by_cases htk : (xs.drop j).take 3 = [45, 45, 62]
   ·have hT2 : (⟨2, j + 3, [], [], false, true⟩ : TG) = T := by
     rw [show ([45, 45, 62] : List Nat).length = 3 from rfl, htk] at hp
     rw [← hT]
     rw [hdx] at hp ⊢
     rw [upGo, hp, hlen2]
     simp
     omega
    rw [htk] at hcv
    have HT := Lib.hid hT2
    clear hT hT2 hwin htl h256 hp hx hdx hlen2 htk
    go_wp2_with fail
    refine bodyPost_ret (v := .agg #[.int .i64 2, .int .i64 ((j : Int) + 3), .string ⟨#[]⟩, .slice none 0 0, .bool false, .bool true]) ?_ rfl ?_
    ·simp [results, Tryz.results60, go_sem, s0, s1, s2, s3, s4, s5]
    ·exact HH.out.1 _ _ (by rw [← HT.out]; rfl) ((((((HH.out.2.1.setc (Nat.le_refl _) 0 _).setc (Nat.le_refl _) 1 _).setc (Nat.le_refl _) 2 _).setc (Nat.le_refl _) 3 _).setc (Nat.le_refl _) 4 _).setc (Nat.le_refl _) 5 _)
   ·have hT2 : upGo N 2 [45, 45, 62] (xs.drop (j + 1)) = T := by
     rw [show ([45, 45, 62] : List Nat).length = 3 from rfl, beq_eq_false_iff_ne.2 htk] at hp
     rw [← hT]
     rw [hdx] at hp ⊢
     rw [upGo, hp]
     rfl
    have hne : ¬ u8s ((xs.drop j).take 3) = u8s [45, 45, 62] := fun e => htk (u8s_inj h256 (by decide) e)
    obtain ⟨SA, hSA⟩ : ∃ S : ByteArray, ⟨(u8s ((xs.drop j).take 3)).toArray⟩ = S := ⟨_, rfl⟩
    rw [hSA] at hcv
    have hl1 : (SA.toList == [45, 45, 62]) = false := by
     rw [beq_eq_false_iff_ne, ← hSA]
     intro e
     apply hne
     have : (⟨(u8s ((xs.drop j).take 3)).toArray⟩ : ByteArray).toList = u8s ((xs.drop j).take 3) := by first | exact ByteArray.toList_mk _ | simp
     rw [← this, e]
     rfl
    have HT := Lib.hid hT2
    clear hT hT2 hwin htl h256 hp hx hdx hlen2 htk hne hSA
    go_wp2_with fail
    go_roundw
    case rel => exact ⟨j + 1, by go_num, by omega, HT.out, trivial⟩
    case measure => simp [RowKit.intOf]; omega
set_option maxHeartbeats 8000000 in
set_option maxRecDepth 100000 in
theorem upToD_any (b o cap : Nat) (xs : List Nat) (w : World) (hb : BY w w.heap.size xs (some ⟨b, o, none⟩) cap) (hl : xs.length ≤ 100000) :
  Calls Tryz.prog 60 #[.slice (some ⟨b, o, none⟩) xs.length cap, .int .i64 2, .int .i64 3, .string ⟨#[62]⟩] w (UpOk w (upGo xs.length 3 [62] (xs.drop 2))) := by
 have hcap := hb.l
 obtain ⟨T, hT⟩ : ∃ T, upGo xs.length 3 [62] (xs.drop 2) = T := ⟨_, rfl⟩
 rw [hT]
 have hok : ∀ (v : Value) w', v = .agg #[.int .i64 (T.kind : Int), .int .i64 (T.size : Int), .string ⟨#[]⟩, .slice none 0 0, .bool false, .bool T.closed] → Below w.heap.size w w' → UpOk w T (.returned v) w' := fun v w' h1 h2 => ⟨by rw [h1], h2⟩
 obtain ⟨Q, hQ⟩ : ∃ Q, UpOk w T = Q := ⟨_, rfl⟩
 rw [hQ] at hok ⊢
 obtain ⟨W1, hW1⟩ : ∃ W, w.alloc (.cells #[.int .i64 0, .int .i64 0, .string ⟨#[]⟩, .slice none 0 0, .bool false, .bool false] 94) = W := ⟨_, rfl⟩
 have b1 : Below w.heap.size w W1 := by rw [← hW1]; exact below_new _ _
 have x1 : Cells W1 w.heap.size 94 #[.int .i64 0, .int .i64 0, .string ⟨#[]⟩, .slice none 0 0, .bool false, .bool false] := by rw [← hW1]; exact cells_new _ _ _
 have hb1 := hb.on b1
 obtain ⟨N, hN⟩ : ∃ N, xs.length = N := ⟨_, rfl⟩
 rw [hN] at hcap hl hT ⊢
 have s0 := x1.cell 0
 have s1 := x1.cell 1
 have s2 := x1.cell 2
 have s3 := x1.cell 3
 have s4 := x1.cell 4
 have s5 := x1.cell 5
 have t0 := x1.froz 0
 have t1 := x1.froz 1
 have t2 := x1.froz 2
 have t3 := x1.froz 3
 have t4 := x1.froz 4
 have t5 := x1.froz 5
 have hg := x1.lt
 simp at s0 s1 s2 s3 s4 s5
 have HH := Lib.hid (And.intro hok (And.intro b1 (And.intro hb1 (And.intro hN hT))))
 clear hok b1 x1 hb1 hb hN hQ hT
 go_enter Tryz.func60, Tryz.ntmps60
 go_wp2_with fail
 clear hW1
 go_loopw [9] (fun i wr => ∃ j : Nat, i = .int .i64 (j : Int) ∧ j ≤ N + 2 ∧ upGo N 3 [62] (xs.drop j) = T ∧ wr = W1) (fun i _ => N + 10 - (RowKit.intOf i).toNat)
 case atStart => exact ⟨2, rfl, by omega, HH.out.2.2.2.2, rfl⟩
 case round =>
  obtain ⟨j, rfl, hj, hT, e⟩ := hrel
  obtain rfl := e.symm
  have e1 : IntKind.i64.wrap ((j : Int) + 1) = (j : Int) + 1 := IntWalk.i64_in _ (by omega)
  by_cases hlt : j + 1 ≤ N
  case neg =>
   have i1 : ¬ ((j : Int) + 1 ≤ (N : Int)) := by omega
   rw [upGo_short N 3 [62] (xs.drop j) (by rw [List.length_drop, HH.out.2.2.2.1]; simp; omega)] at hT
   have HT := Lib.hid hT
   clear hT
   go_wp2_with fail
   refine bodyPost_ret (v := .agg #[.int .i64 3, .int .i64 (N : Int), .string ⟨#[]⟩, .slice none 0 0, .bool false, .bool false]) ?_ rfl ?_
   ·simp [results, Tryz.results60, go_sem, s0, s1, s2, s3, s4, s5]
   ·exact HH.out.1 _ _ (by rw [← HT.out]; rfl) ((((((HH.out.2.1.setc (Nat.le_refl _) 0 _).setc (Nat.le_refl _) 1 _).setc (Nat.le_refl _) 2 _).setc (Nat.le_refl _) 3 _).setc (Nat.le_refl _) 4 _).setc (Nat.le_refl _) 5 _)
  case pos =>
   have i1 : (j : Int) + 1 ≤ (N : Int) := by omega
   have hsl : ∀ W, (Instr.slice 22 (.slice (some ⟨b, o, none⟩) N cap) (some (.int .i64 (j : Int))) (some (.int .i64 ((j : Int) + 1))) none).run Tryz.prog W = .ok (.slice (some ⟨b, o + j, none⟩) 1 (cap - j)) W := fun W => slice_mid b o N cap j 1 (by omega) (by omega) W
   have hwin : BY W1 W1.heap.size ((xs.drop j).take 1) (some ⟨b, o + j, none⟩) (cap - j) := (HH.out.2.2.1.dropL (by rw [HH.out.2.2.2.1]; omega)).take 1
   have htl : ((xs.drop j).take 1).length = 1 := by rw [List.length_take, List.length_drop, HH.out.2.2.2.1]; omega
   have hcv : (convert 22 9 (.slice (some ⟨b, o + j, none⟩) 1 (cap - j))).run Tryz.prog W1 = .ok (.string ⟨(u8s ((xs.drop j).take 1)).toArray⟩) W1 := by
    have h := conv_by hwin
    rw [htl] at h
    exact h
   have h256 : ∀ x ∈ (xs.drop j).take 1, x < 256 := hwin.i
   have hp := prefix_take (e := [62]) (l := xs.drop j) (by rw [List.length_drop, HH.out.2.2.2.1]; simp; omega)
   obtain ⟨x, hx⟩ := at_lt (l := xs) (k := j) (by rw [HH.out.2.2.2.1]; omega)
   have hdx := drop_at hx
   have hlen2 : (xs.drop (j + 1)).length = N - (j + 1) := by rw [List.length_drop, HH.out.2.2.2.1]
   have e2 : IntKind.i64.wrap ((j : Int) + 1) = (j : Int) + 1 := IntWalk.i64_in _ (by omega)
   by_cases htk : (xs.drop j).take 1 = [62]
   ·have hT2 : (⟨3, j + 1, [], [], false, true⟩ : TG) = T := by
     rw [show ([62] : List Nat).length = 1 from rfl, htk] at hp
     rw [← hT]
     rw [hdx] at hp ⊢
     rw [upGo, hp, hlen2]
     simp
     omega
    rw [htk] at hcv
    have HT := Lib.hid hT2
    clear hT hT2 hwin htl h256 hp hx hdx hlen2 htk
    go_wp2_with fail
    refine bodyPost_ret (v := .agg #[.int .i64 3, .int .i64 ((j : Int) + 1), .string ⟨#[]⟩, .slice none 0 0, .bool false, .bool true]) ?_ rfl ?_
    ·simp [results, Tryz.results60, go_sem, s0, s1, s2, s3, s4, s5]
    ·exact HH.out.1 _ _ (by rw [← HT.out]; rfl) ((((((HH.out.2.1.setc (Nat.le_refl _) 0 _).setc (Nat.le_refl _) 1 _).setc (Nat.le_refl _) 2 _).setc (Nat.le_refl _) 3 _).setc (Nat.le_refl _) 4 _).setc (Nat.le_refl _) 5 _)
   ·have hT2 : upGo N 3 [62] (xs.drop (j + 1)) = T := by
     rw [show ([62] : List Nat).length = 1 from rfl, beq_eq_false_iff_ne.2 htk] at hp
     rw [← hT]
     rw [hdx] at hp ⊢
     rw [upGo, hp]
     rfl
    have hne : ¬ u8s ((xs.drop j).take 1) = u8s [62] := fun e => htk (u8s_inj h256 (by decide) e)
    obtain ⟨SA, hSA⟩ : ∃ S : ByteArray, ⟨(u8s ((xs.drop j).take 1)).toArray⟩ = S := ⟨_, rfl⟩
    rw [hSA] at hcv
    have hl1 : (SA.toList == [62]) = false := by
     rw [beq_eq_false_iff_ne, ← hSA]
     intro e
     apply hne
     have : (⟨(u8s ((xs.drop j).take 1)).toArray⟩ : ByteArray).toList = u8s ((xs.drop j).take 1) := by first | exact ByteArray.toList_mk _ | simp
     rw [← this, e]
     rfl
    have HT := Lib.hid hT2
    clear hT hT2 hwin htl h256 hp hx hdx hlen2 htk hne hSA
    go_wp2_with fail
    go_roundw
    case rel => exact ⟨j + 1, by go_num, by omega, HT.out, trivial⟩
    case measure => simp [RowKit.intOf]; omega
end Go.Proofs.YtojinnnpfjhifaaGreatDoor.G

