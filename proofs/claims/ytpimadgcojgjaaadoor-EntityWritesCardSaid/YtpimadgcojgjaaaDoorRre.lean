/-
  Contract, the document's side: virguleref16.Read.
-/
import Derived.Test.YtpimadgcojgjaaaDoorRwh
import Derived.Test.YtpimadgcojgjaaaDoorFol
namespace Go.Proofs.YtpimadgcojgjaaaDoor
open Go.RowKit Go.Shelf Go.Lib Go.Maps Go.Great
attribute [local irreducible] NR ZNR FR nmE NL

def cutT (xs : List Nat) (k n : Nat) : List Nat := (xs.take (k + n)).drop k
/-- All lengths, tried one by one. -/
def refFrom (xs : List Nat) (k : Nat) : Nat → Nat → Int × Nat
  | 0, _ => (0, 0)
  | f + 1, n => if k + n ≤ xs.length then (if 0 ≤ wholeZ (u8s (cutT xs k n)) then (wholeZ (u8s (cutT xs k n)), n) else refFrom xs k f (n + 1)) else (0, 0)
set_option maxHeartbeats 4000000 in
set_option maxRecDepth 100000 in
theorem refReadE_any (w : World) (xs : List Nat) (A : Option Addr) (cap : Nat) (hx : BY w w.heap.size xs A cap) (hlen : xs.length ≤ 1000) (k : Nat) (hk : k < xs.length) :
    Calls Tryd.prog 15 #[.slice A xs.length cap, .int .i64 (k : Int)] w fun e w' => e = .returned (.tuple #[.int .i32 (refFrom xs k 8 3).1, .int .i64 ((refFrom xs k 8 3).2 : Nat)]) ∧ Below w.heap.size w w' := by
  obtain ⟨RE, hRE⟩ : ∃ v, refFrom xs k 8 3 = v := ⟨_, rfl⟩
  rw [hRE]
  obtain ⟨b, o, rfl, hbl, _⟩ := hx.r (by rintro rfl; simp at hk)
  obtain ⟨N, hN⟩ : ∃ n, xs.length = n := ⟨_, rfl⟩
  have HD := Lib.hid (And.intro hRE (And.intro hx (And.intro hlen hk)))
  have hcl := hx.l
  rw [hN] at hlen hk hcl ⊢
  clear hRE hx hbl
  go_enter Tryd.func15, Tryd.ntmps15
  go_wp2_with fail
  go_loopw [6] (fun i wr => ∃ (f n : Nat), i = .int .i64 (n : Int) ∧ f + n = 11 ∧ 3 ≤ n ∧ RE = refFrom xs k f n ∧ Below w.heap.size w wr) (fun i _ => 12 - (RowKit.intOf i).toNat)
  case atStart => exact ⟨8, 3, rfl, rfl, by decide, HD.out.1.symm, Below.refl _ _⟩
  case round =>
    obtain ⟨f, n, rfl, hfn, h3, hre, hb⟩ := hrel
    cases f with
    | zero =>
      have hn : ¬ (n : Int) ≤ 10 := by omega
      have HE := Lib.hid (And.intro (show RE = (0, 0) from hre) hb)
      clear hre hb
      go_wp2_with fail
      refine bodyPost_ret (v := .tuple #[.int .i32 0, .int .i64 0]) ?_ rfl ⟨by rw [HE.out.1]; rfl, HE.out.2⟩
      simp [results, Tryd.results15, go_sem]
    | succ f =>
      have hn : (n : Int) ≤ 10 := by omega
      have wa : wrap64 ((k : Int) + (n : Int)) = (k : Int) + (n : Int) := by unfold wrap64; omega
      rw [refFrom, hN] at hre
      by_cases hkn : k + n ≤ N
      case neg =>
        have hkn2 : ¬ (k : Int) + (n : Int) ≤ (N : Int) := by omega
        rw [if_neg hkn] at hre
        have HE := Lib.hid (And.intro hre hb)
        clear hre hb
        go_wp2_with fail
        refine bodyPost_ret (v := .tuple #[.int .i32 0, .int .i64 0]) ?_ rfl ⟨by rw [HE.out.1]; rfl, HE.out.2⟩
        simp [results, Tryd.results15, go_sem]
      case pos =>
        have hkn2 : (k : Int) + (n : Int) ≤ (N : Int) := by omega
        rw [if_pos hkn] at hre
        have e1 : (k : Int) + (n : Int) = ((k + n : Nat) : Int) := by omega
        have e2 : k + n - k = n := by omega
        have hsl : ∀ W, (Instr.slice 22 (.slice (some ⟨b, o, none⟩) N cap) (some (.int .i64 (k : Int))) (some (.int .i64 ((k : Int) + (n : Int)))) none).run Tryd.prog W = .ok (.slice (some ⟨b, o + k, none⟩) n (cap - k)) W := fun W => by
          have := slice_win b o N cap k (k + n) (by omega) (by omega) (by omega) W
          rw [e2] at this
          rw [e1]
          exact this
        have hcl2 : (cutT xs k n).length = n := by rw [cutT, List.length_drop, List.length_take, hN]; omega
        have hcv := conv_by ((HD.out.2.1.on hb).win k (k + n) (by omega) (by rw [hN]; exact hkn))
        rw [show (xs.take (k + n)).drop k = cutT xs k n from rfl, hcl2] at hcv
        generalize cutT xs k n = C at *
        have K := refWhole_any (u8s C) (by rw [u8s, List.length_map]; omega) wr
        obtain ⟨Z, hZ⟩ : ∃ z, wholeZ (u8s C) = z := ⟨_, rfl⟩
        rw [hZ] at K hre
        by_cases hz : 0 ≤ Z
        case pos =>
          rw [if_pos hz] at hre
          have HE := Lib.hid (And.intro hre (And.intro hb K))
          clear hre hb K e1 e2 hcl2 hZ
          go_wp2_with fail
          refine HE.out.2.2.mono ?_
          rintro e w1 ⟨rfl, hb1⟩
          have HB := Lib.hid (HE.out.2.1.trans (hb1.mono HE.out.2.1.size))
          clear hb1
          go_wp2_with fail
          refine bodyPost_ret (v := .tuple #[.int .i32 Z, .int .i64 (n : Int)]) ?_ rfl ⟨by rw [HE.out.1], HB.out⟩
          simp [results, Tryd.results15, go_sem]
        case neg =>
          rw [if_neg hz] at hre
          have HE := Lib.hid (And.intro hre (And.intro hb K))
          clear hre hb K e1 e2 hcl2 hZ
          go_wp2_with fail
          refine HE.out.2.2.mono ?_
          rintro e w1 ⟨rfl, hb1⟩
          have HB := Lib.hid (HE.out.2.1.trans (hb1.mono HE.out.2.1.size))
          clear hb1
          go_wp2_with fail
          go_roundw
          case rel => exact ⟨f, n + 1, by go_num, by omega, by omega, HE.out.1, HB.out⟩
          case measure => simp [RowKit.intOf]; omega
end Go.Proofs.YtpimadgcojgjaaaDoor
