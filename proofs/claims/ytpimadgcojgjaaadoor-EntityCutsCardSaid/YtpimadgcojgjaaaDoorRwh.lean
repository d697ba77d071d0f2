/-
  Contract, the document's side: virguleref16.Whole.
-/
import Derived.Test.YtpimadgcojgjaaaDoorRdi
import Derived.Test.YtpimadgcojgjaaaDoorNms
namespace Go.Proofs.YtpimadgcojgjaaaDoor
open Go.RowKit Go.Shelf Go.Lib Go.Maps Go.Great
attribute [local irreducible] NR ZNR FR nmE NL

/-- The scalar of a reference that is all of a text; -1: it is none. -/
def innZ (i : List UInt8) : Int := match nmE.find? (isNm i) with
  | some x => x.2
  | none => if (nats i).getD 0 0 ≠ 35 then -1 else if 1 < i.length ∧ ((nats i).getD 1 0 = 120 ∨ (nats i).getD 1 0 = 88) then numZ 16 6 (nats (i.drop 2)) else numZ 10 7 (nats (i.drop 1))
def wholeZ (l : List UInt8) : Int := if l.length < 3 ∨ (nats l).getD 0 0 ≠ 38 ∨ (nats l).getD (l.length - 1) 0 ≠ 59 then -1 else innZ ((l.take (l.length - 1)).drop 1)
theorem slice_str (s : List UInt8) (lo hi : Nat) (h1 : lo ≤ hi) (h2 : hi ≤ s.length) (w : World) : (Instr.slice 9 (.string ⟨s.toArray⟩) (some (.int .i64 (lo : Int))) (some (.int .i64 (hi : Int))) none).run Tryd.prog w = .ok (.string ⟨((s.take hi).drop lo).toArray⟩) w := by
  have := run_slice_string (P := Tryd.prog) w 9 ⟨s.toArray⟩ .i64 .i64 (lo : Int) (hi : Int) Tryd.underlying9 (by omega) (by omega) (by show (hi : Int) ≤ ((s.length : Nat) : Int); omega)
  rw [this]
  have e : (ByteArray.extract ⟨s.toArray⟩ (lo : Int).toNat (hi : Int).toNat) = ⟨((s.take hi).drop lo).toArray⟩ := by
    apply ByteArray.ext
    simp [List.drop_take]
  rw [e]
theorem slice_str_l (s : List UInt8) (lo : Nat) (h2 : lo ≤ s.length) (w : World) : (Instr.slice 9 (.string ⟨s.toArray⟩) (some (.int .i64 (lo : Int))) none none).run Tryd.prog w = .ok (.string ⟨(s.drop lo).toArray⟩) w := by
  have := run_slice_string_l (P := Tryd.prog) w 9 ⟨s.toArray⟩ Tryd.underlying9 .i64 (lo : Int) (by omega) (by show (lo : Int) ≤ ((s.length : Nat) : Int); omega)
  rw [this]
  have e : (ByteArray.extract ⟨s.toArray⟩ (lo : Int).toNat (ByteArray.size ⟨s.toArray⟩)) = ⟨(s.drop lo).toArray⟩ := by
    apply ByteArray.ext
    simp [ByteArray.size]
    exact List.take_of_length_le (by rw [List.length_drop]; exact Nat.le_refl _)
  rw [e]
set_option maxHeartbeats 4000000 in
set_option maxRecDepth 100000 in
theorem refWhole_any (l : List UInt8) (hl : l.length ≤ 1000000) (w : World) : Calls Tryd.prog 36 #[.string ⟨l.toArray⟩] w fun e w' => e = .returned (.int .i32 (wholeZ l)) ∧ Below w.heap.size w w' := by
  obtain ⟨WZ, hWZ⟩ : ∃ v, wholeZ l = v := ⟨_, rfl⟩
  rw [hWZ]
  obtain ⟨N, hN⟩ : ∃ n, l.length = n := ⟨_, rfl⟩
  have HD := Lib.hid (And.intro hWZ hl)
  clear hWZ hl
  by_cases h3 : N < 3
  case pos =>
    have he : WZ = -1 := by rw [← HD.out.1, wholeZ, if_pos (Or.inl (by rw [hN]; exact h3))]
    have HE := Lib.hid he
    have h3z : (N : Int) < 3 := by omega
    clear he
    go_enter Tryd.func36, Tryd.ntmps36
    go_wp2_with fail
    go_ret
    exact ⟨by rw [HE.out]; rfl, Below.refl _ _⟩
  case neg =>
  have h3z : ¬ (N : Int) < 3 := by omega
  obtain ⟨M, hM⟩ : ∃ m, N = m + 3 := ⟨N - 3, by omega⟩
  subst hM
  have ix0 := index_at l 0 (by omega)
  replace ix0 : ∀ w, (Instr.index 9 (.string ⟨l.toArray⟩) (.int .i64 0)).run Tryd.prog w = .ok (.int .u8 (((nats l).getD 0 0 : Nat) : Int)) w := ix0
  have ixe := index_at l (M + 2) (by omega)
  obtain ⟨c0, hc0⟩ : ∃ c, (nats l).getD 0 0 = c := ⟨_, rfl⟩
  obtain ⟨ce, hce⟩ : ∃ c, (nats l).getD (M + 2) 0 = c := ⟨_, rfl⟩
  rw [hc0] at ix0
  rw [hce] at ixe
  have hMl : M + 3 ≤ 1000000 := by rw [← hN]; exact HD.out.2
  have eM : (M : Int) + 3 - 1 = ((M + 2 : Nat) : Int) := by omega
  have h3y : ¬ (M : Int) + 3 < 3 := by omega
  replace ixe : ∀ w, (Instr.index 9 (.string ⟨l.toArray⟩) (.int .i64 ((M : Int) + 3 - 1))).run Tryd.prog w = .ok (.int .u8 (ce : Int)) w := fun w => by rw [eM]; exact ixe w
  obtain ⟨inn, hin⟩ : ∃ x, (l.take (M + 2)).drop 1 = x := ⟨_, rfl⟩
  have hsl : ∀ w, (Instr.slice 9 (.string ⟨l.toArray⟩) (some (.int .i64 1)) (some (.int .i64 ((M : Int) + 3 - 1))) none).run Tryd.prog w = .ok (.string ⟨inn.toArray⟩) w := by
    rw [← hin, eM]
    exact slice_str l 1 (M + 2) (by omega) (by omega)
  have hinl : inn.length = M + 1 := by rw [← hin]; simp; omega
  clear eM
  have hwz : WZ = if c0 ≠ 38 ∨ ce ≠ 59 then -1 else innZ inn := by
    rw [← HD.out.1, wholeZ, hN, show M + 3 - 1 = M + 2 by omega, hc0, hce, hin]
    simp [show ¬ M + 3 < 3 by omega]
  by_cases h0 : c0 = 38
  case neg =>
    have hE := Lib.hid (show WZ = -1 by rw [hwz, if_pos (Or.inl h0)])
    have h01 : ¬ (c0 : Int) = 38 := by omega
    have h02 : ((c0 : Int) == 38) = false := by simp; omega
    clear hwz hsl ixe hc0 hce
    go_enter Tryd.func36, Tryd.ntmps36
    go_wp2_with fail
    go_ret
    exact ⟨by rw [hE.out]; rfl, Below.refl _ _⟩
  case pos =>
  subst h0
  by_cases he : ce = 59
  case neg =>
    have hE := Lib.hid (show WZ = -1 by rw [hwz, if_pos (Or.inr he)])
    have h01 : ¬ (ce : Int) = 59 := by omega
    have h02 : ((ce : Int) == 59) = false := by simp; omega
    clear hwz hsl hc0 hce
    go_enter Tryd.func36, Tryd.ntmps36
    go_wp2_with fail
    go_ret
    exact ⟨by rw [hE.out]; rfl, Below.refl _ _⟩
  case pos =>
  subst he
  have hwz : WZ = innZ inn := by rw [hwz, if_neg (by simp)]
  have ii0 := index_at inn 0 (by omega)
  replace ii0 : ∀ w, (Instr.index 9 (.string ⟨inn.toArray⟩) (.int .i64 0)).run Tryd.prog w = .ok (.int .u8 (((nats inn).getD 0 0 : Nat) : Int)) w := ii0
  have HW := Lib.hid (And.intro hwz ii0)
  clear hwz hc0 hce hin ii0
  go_enter Tryd.func36, Tryd.ntmps36
  go_wp2_with fail
  refine (refNames_any w).mono ?_
  rintro r w1 ⟨rfl, hw1⟩
  have x1 : Cells w1 w.heap.size 39 NR := by rw [hw1]; exact cells_new _ _ _
  have hb1 : Below w.heap.size w w1 := by rw [hw1]; exact below_new _ _
  have H1 := Lib.hid (And.intro x1 hb1)
  clear x1 hb1 hw1
  go_wp2_with fail
  go_loopw [6] (fun i wr => ∃ k : Nat, i = .int .i64 (k : Int) ∧ k ≤ 26 ∧ (∀ (j : Nat) (y : NmE), j < k → nmE[j]? = some y → isNm inn y = false) ∧ wr = w1) (fun i _ => 26 - (RowKit.intOf i).toNat)
  case atStart => exact ⟨0, rfl, by decide, fun j y hj => absurd hj (by omega), rfl⟩
  case round =>
    obtain ⟨k, rfl, hk, hj, rfl⟩ := hrel
    by_cases hlt : k < 26
    case pos =>
      have i1 : (k : Int) < 26 := by omega
      obtain ⟨⟨s, z⟩, hx⟩ := at_lt (l := nmE) (k := k) (by rw [nmE_len]; exact hlt)
      obtain ⟨r0, r1⟩ := NR_at hx
      have c1 : wr.cell? ⟨w.heap.size, k * 2, none⟩ = some (.string ⟨s.toArray⟩) := (Cells.cell H1.out.1 (k * 2)).trans r0
      have c2 : wr.cell? ⟨w.heap.size, k * 2 + 1, none⟩ = some (.int .i32 z) := (Cells.cell H1.out.1 (k * 2 + 1)).trans r1
      by_cases hs : s = inn
      case pos =>
        have hf := (idx_some (p := isNm inn) hx (by simp [isNm, hs]) hj).2
        have hE := Lib.hid (show WZ = z by rw [HW.out.1, innZ, hf])
        have HS := Lib.hid hs
        subst hs
        clear hj hx r0 r1 hf
        go_wp2_with fail
        go_ret
        exact ⟨by first | rfl | (rw [hE.out]; rfl) | (rw [hE.out]) | (rw [← HW.out.1, hE.out]; rfl) | (rw [← HW.out.1, hE.out]), H1.out.2⟩
      case neg =>
        have hs2 : (s == inn) = false := by simpa using hs
        have hend : ∀ (j : Nat) (y : NmE), j < k + 1 → nmE[j]? = some y → isNm inn y = false := fun j y h hy => by
          by_cases e : j = k
          · subst e
            obtain rfl := Option.some.inj (hx.symm.trans hy)
            exact hs2
          · exact hj j y (by omega) hy
        have HE := Lib.hid hend
        clear hend hj hx r0 r1
        go_wp2_with fail
        go_roundw
        case rel => exact ⟨k + 1, by go_num, by omega, HE.out, trivial⟩
        case measure => simp [RowKit.intOf]; omega
    case neg =>
      obtain rfl : k = 26 := by omega
      have hf := (idx_none (p := isNm inn) fun j x hx => hj j x (by have := (List.getElem?_eq_some_iff.1 hx).1; rw [nmE_len] at this; exact this) hx).2
      have hz : WZ = if (nats inn).getD 0 0 ≠ 35 then -1 else if 1 < inn.length ∧ ((nats inn).getD 1 0 = 120 ∨ (nats inn).getD 1 0 = 88) then numZ 16 6 (nats (inn.drop 2)) else numZ 10 7 (nats (inn.drop 1)) := by
        rw [HW.out.1, innZ, hf]
      have ii0 := HW.out.2
      have N2 := fun W => refNumber_any (b := 16) (most := 6) (Or.inr rfl) (by decide) (inn.drop 2) (by rw [List.length_drop]; have := HD.out.2; omega) W
      have N1 := fun W => refNumber_any (b := 10) (most := 7) (Or.inl rfl) (by decide) (inn.drop 1) (by rw [List.length_drop]; have := HD.out.2; omega) W
      have sl1 : ∀ w, (Instr.slice 9 (.string ⟨inn.toArray⟩) (some (.int .i64 1)) none none).run Tryd.prog w = .ok (.string ⟨(inn.drop 1).toArray⟩) w := slice_str_l inn 1 (by omega)
      obtain ⟨t1, ht1⟩ : ∃ t, inn.drop 1 = t := ⟨_, rfl⟩
      rw [ht1] at hz N1 sl1
      obtain ⟨d0, hd0⟩ : ∃ d, (nats inn).getD 0 0 = d := ⟨_, rfl⟩
      obtain ⟨d1, hd1⟩ : ∃ d, (nats inn).getD 1 0 = d := ⟨_, rfl⟩
      rw [hd0] at hz ii0
      rw [hd1] at hz
      by_cases h35 : d0 = 35
      case neg =>
        have h351 : ¬ (d0 : Int) = 35 := by omega
        have h352 : ((d0 : Int) == 35) = false := by simp; omega
        have hE := Lib.hid (show WZ = -1 by rw [hz, if_pos h35])
        clear hz hf hj N1 N2 hd0 hd1 sl1 ht1
        go_wp2_with fail
        go_ret
        exact ⟨by rw [hE.out]; rfl, H1.out.2⟩
      case pos =>
      subst h35
      rw [if_neg (by simp), hinl] at hz
      by_cases hM0 : M = 0
      case pos =>
        have hM1 : ¬ (1 : Int) < (M : Int) + 1 := by omega
        have hM2 : (M : Int) + 1 ≤ 1 := by omega
        have hE := Lib.hid (show WZ = numZ 10 7 (nats t1) by rw [hz, if_neg (by omega)])
        have HN := Lib.hid N1
        clear hz hf hj N1 N2 hd0 hd1 ht1
        go_wp2_with fail
        refine (HN.out _).mono ?_
        rintro r w2 ⟨rfl, rfl⟩
        go_wp2_with fail
        go_ret
        exact ⟨by rw [hE.out]; rfl, H1.out.2⟩
      case neg =>
      have hM1 : (1 : Int) < (M : Int) + 1 := by omega
      have ii1 := index_at inn 1 (by omega)
      replace ii1 : ∀ w, (Instr.index 9 (.string ⟨inn.toArray⟩) (.int .i64 1)).run Tryd.prog w = .ok (.int .u8 (((nats inn).getD 1 0 : Nat) : Int)) w := ii1
      rw [hd1] at ii1
      have sl2 : ∀ w, (Instr.slice 9 (.string ⟨inn.toArray⟩) (some (.int .i64 2)) none none).run Tryd.prog w = .ok (.string ⟨(inn.drop 2).toArray⟩) w := slice_str_l inn 2 (by omega)
      have HN1 := Lib.hid N1
      have HN2 := Lib.hid N2
      clear N1 N2
      by_cases hX : d1 = 120
      case pos =>
        subst hX
        have hE := Lib.hid (show WZ = numZ 16 6 (nats (inn.drop 2)) by rw [hz, if_pos ⟨by omega, Or.inl rfl⟩])
        clear hz hf hj hd0 hd1 ht1
        go_wp2_with fail
        refine (HN2.out _).mono ?_
        rintro r w2 ⟨rfl, rfl⟩
        go_wp2_with fail
        go_ret
        exact ⟨by rw [hE.out]; rfl, H1.out.2⟩
      case neg =>
      have hX1 : ¬ (d1 : Int) = 120 := by omega
      have hX2 : ((d1 : Int) == 120) = false := by simp; omega
      by_cases hY : d1 = 88
      case pos =>
        subst hY
        have hE := Lib.hid (show WZ = numZ 16 6 (nats (inn.drop 2)) by rw [hz, if_pos ⟨by omega, Or.inr rfl⟩])
        clear hz hf hj hd0 hd1 ht1
        go_wp2_with fail
        refine (HN2.out _).mono ?_
        rintro r w2 ⟨rfl, rfl⟩
        go_wp2_with fail
        go_ret
        exact ⟨by rw [hE.out]; rfl, H1.out.2⟩
      case neg =>
        have hY1 : ¬ (d1 : Int) = 88 := by omega
        have hY2 : ((d1 : Int) == 88) = false := by simp; omega
        have hE := Lib.hid (show WZ = numZ 10 7 (nats t1) by rw [hz, if_neg (by
          rintro ⟨_, e | e⟩
          · exact hX e
          · exact hY e)])
        clear hz hf hj hd0 hd1 ht1
        go_wp2_with fail
        refine (HN1.out _).mono ?_
        rintro r w2 ⟨rfl, rfl⟩
        go_wp2_with fail
        go_ret
        exact ⟨by rw [hE.out]; rfl, H1.out.2⟩
end Go.Proofs.YtpimadgcojgjaaaDoor
