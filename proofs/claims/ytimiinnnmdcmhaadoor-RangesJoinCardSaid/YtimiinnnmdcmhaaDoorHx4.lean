/-
  Contracts: ranges.Print of one range; virgulelaw02.awake.
-/
import Derived.Test.YtimiinnnmdcmhaaDoorHx3
import Derived.Test.YtimiinnnmdcmhaaDoorMk
namespace Go.Proofs.YtimiinnnmdcmhaaDoor
open Go.RowKit Go.Shelf
open Go.Lib

set_option maxHeartbeats 2000000 in
theorem print_one (A : Option Addr) (cap : Nat) (x : Rng) (w : World) (h : RS w w.heap.size A cap [x]) (hF : Fm A cap) (hr : right [x] = true) (hT : TZ w) :
    Calls Tryd.prog 52 #[.slice A 1 cap] w fun e w' => e = .returned (.string ⟨(rgText x).toArray⟩) ∧ Below w.heap.size w w' := by
  have C := valid_known A cap [x] w h hF
  unfold KnownPost at C
  rw [known_of hr] at C
  have hm : may x = true := (right_may (b := -1) hr x (by simp)).1
  have CP := Lib.hid (fun W (hW : TZ W) => pr_any x hm W hW)
  have CJ := Lib.hid join1_any
  have HT := Lib.hid hT
  have hmk : ∀ w, (Instr.makeSlice 100 (.int .i64 1) (.int .i64 1)).run Tryd.prog w = .ok (.slice (some ⟨w.heap.size, 0, none⟩) 1 1) (w.alloc (.cells #[.string ⟨#[]⟩] 9)) := fun _ => by kernel_rfl
  have C := Lib.hid C
  simp only [List.length_singleton] at C
  generalize rgText x = t at *
  clear h hF hr hT hm
  go_enter Tryd.func52, Tryd.ntmps52
  go_wp2_with fail
  refine C.out.mono ?_
  rintro e w1 ⟨A1, c1, rfl, hR, _, hb⟩
  obtain ⟨b, o, rfl, hbl, hg⟩ := hR.2.2.2 (by simp)
  obtain ⟨q1, q2⟩ := hg 0 x rfl
  simp only [Nat.zero_mul, Nat.add_zero] at q1 q2
  clear hg hR
  obtain ⟨lo, hi⟩ := x
  simp only at q1 q2
  have hb0 := hb.alloc hb.size (.cells #[.string ⟨#[]⟩] 9)
  have hs0 := hb.size
  have r1 : (w1.alloc (.cells #[.string ⟨#[]⟩] 9)).cell? ⟨b, o, none⟩ = some (.int .i32 lo) := (World.cell?_alloc_lt w1 _ ⟨b, o, none⟩ (by show b < w1.heap.size; omega)).trans q1
  have r2 : (w1.alloc (.cells #[.string ⟨#[]⟩] 9)).cell? ⟨b, o + 1, none⟩ = some (.int .i32 hi) := (World.cell?_alloc_lt w1 _ ⟨b, o + 1, none⟩ (by show b < w1.heap.size; omega)).trans q2
  have r3 : (w1.alloc (.cells #[.string ⟨#[]⟩] 9)).cell? ⟨w1.heap.size, 0, none⟩ = some (.string ⟨#[]⟩) := by simp
  have r4 : (w1.alloc (.cells #[.string ⟨#[]⟩] 9)).frozen? ⟨w1.heap.size, 0, none⟩ = false := by simp
  have r5 : w1.heap.size < (w1.alloc (.cells #[.string ⟨#[]⟩] 9)).heap.size := by simp
  have HT1 := Lib.hid (HT.out.below hb0)
  have CC := Lib.hid (And.intro r3 (And.intro r4 r5))
  clear q1 q2 r3 r4 r5 hb
  go_wp2_with fail
  generalize w1.alloc (.cells #[.string ⟨#[]⟩] 9) = W at *
  go_loopw [16] (fun i wr => (i = .int .i64 0 ∧ wr = W) ∨ (i = .int .i64 1 ∧ wr.cell? ⟨w1.heap.size, 0, none⟩ = some (.string ⟨t.toArray⟩) ∧ Below w.heap.size w wr)) (fun i _ => 1 - (RowKit.intOf i).toNat)
  case atStart => exact .inl ⟨rfl, rfl⟩
  case round =>
    rcases hrel with ⟨rfl, rfl⟩ | ⟨rfl, hc, hbz⟩
    · have hb1 := hb0.alloc hb0.size (.cells #[.int .i32 lo, .int .i32 hi] 74)
      have hT2 := HT1.out.below (below_new wr (.cells #[.int .i32 lo, .int .i32 hi] 74))
      have HT2 := Lib.hid hT2
      have HB1 := Lib.hid hb1
      clear hb1 hT2
      go_wp2_with fail
      refine (CP.out _ HT2.out).mono ?_
      rintro e w3 ⟨rfl, hb3⟩
      have hb3' : Below wr.heap.size wr w3 := (below_new wr _).trans (hb3.mono (by simp))
      have t1 := (hb3'.cell (p := ⟨w1.heap.size, 0, none⟩) CC.out.2.2).trans CC.out.1
      have t2 := (hb3'.frozen (p := ⟨w1.heap.size, 0, none⟩) CC.out.2.2).trans CC.out.2.1
      have hbz := (hb0.trans (hb3'.mono hb0.size)).setCell (p := ⟨w1.heap.size, 0, none⟩) hs0 (.string ⟨t.toArray⟩)
      have t3 := World.cell?_setCell_same' w3 ⟨w1.heap.size, 0, none⟩ (.string ⟨t.toArray⟩) (by rw [t1]; rfl)
      have HZ := Lib.hid (And.intro t3 hbz)
      clear t3 hbz hb3 hb3'
      go_wp2
      go_roundw
      case rel => exact .inr ⟨rfl, HZ.out.1, HZ.out.2⟩
      case measure => simp [RowKit.intOf]
    · have CJ2 := Lib.hid (CJ.out ⟨w1.heap.size, 0, none⟩ 1 ⟨#[44]⟩ ⟨t.toArray⟩ wr hc)
      clear hc
      go_wp2_with fail
      refine CJ2.out.mono ?_
      rintro e w3 ⟨rfl, rfl⟩
      go_wp2
      go_ret
      exact ⟨rfl, hbz⟩

theorem aw_text : rgText (97, 101) = [48, 48, 54, 49, 45, 48, 48, 54, 53] := by decide +kernel

set_option maxHeartbeats 2000000 in
/-- awake: the document's example. -/
theorem awake2_any (w : World) (hT : TZ w) : Calls Tryd.prog 30 #[] w fun e w' => e = .returned (.bool true) ∧ Below w.heap.size w w' := by
  have hb0 := below_new w (.cells #[.int .i32 97, .int .i32 99, .int .i32 100, .int .i32 101] 74)
  have hR : RS (w.alloc (.cells #[.int .i32 97, .int .i32 99, .int .i32 100, .int .i32 101] 74)) (w.alloc (.cells #[.int .i32 97, .int .i32 99, .int .i32 100, .int .i32 101] 74)).heap.size (some ⟨w.heap.size, 0, none⟩) 2 [(97, 99), (100, 101)] := by
    refine ⟨by simp, by unfold maxLen; omega, (fun x hx => by simp at hx; rcases hx with rfl | rfl <;> (unfold I32; omega)), fun _ => ⟨w.heap.size, 0, rfl, by simp, fun i x hx => ?_⟩⟩
    match i, hx with
    | 0, hx => simp at hx; subst hx; simp
    | 1, hx => simp at hx; subst hx; simp
    | i + 2, hx => simp at hx
  have C := make_ok (some ⟨w.heap.size, 0, none⟩) 2 [(97, 99), (100, 101)] _ ⟨hR, .inr ⟨_, _, rfl⟩⟩ (by simp) (by decide)
  have en : norm (hasR [(97, 99), (100, 101)]) = [(97, 101)] := (norm_eq (by decide) fun r => by rw [Bool.eq_iff_iff]; simp [hasR]; omega).symm
  rw [en] at C
  simp only [List.length_cons, List.length_nil] at C
  have C := Lib.hid C
  have HT := Lib.hid (hT.below hb0)
  have HB := Lib.hid hb0
  clear hR hb0 hT en
  go_enter Tryd.func30, Tryd.ntmps30
  go_wp2_with fail
  refine C.out.mono ?_
  rintro e w1 ⟨A, c, rfl, hS, _, _, hb1⟩
  have hr : right [(97, 101)] = true := by decide
  have hbz := HB.out.trans (hb1.mono HB.out.size)
  have hT1 := HT.out.below hb1
  have CP := print_one A c (97, 101) w1 hS.r hS.f hr hT1
  rw [aw_text] at CP
  have CP := Lib.hid CP
  have CC := Lib.hid (fun W (hb : Below w1.heap.size w1 W) => count_sp A c [(97, 101)] W (hS.below hb) hr)
  simp only [List.length_cons, List.length_nil] at CC
  clear hS hr hb1 hT1
  go_wp2_with fail
  refine CP.out.mono ?_
  rintro e w2 ⟨rfl, hb2⟩
  have CC2 := Lib.hid (CC.out w2 hb2)
  have hbq := hbz.trans (hb2.mono hbz.size)
  clear hbz hb2
  go_wp2_with fail
  refine CC2.out.mono ?_
  rintro e w3 ⟨rfl, hb3⟩
  have hby := hbq.trans (hb3.mono hbq.size)
  have e5 : countR [(97, 101)] = 5 := by decide
  go_wp2
  go_ret
  exact ⟨rfl, hby⟩
end Go.Proofs.YtimiinnnmdcmhaaDoor
