/-
  Contracts: ranges.Count; the document's example (the law's first run).
-/
import Derived.Test.YtphhdkffnboboaaGreatDoorPc
namespace Go.Proofs.YtphhdkffnboboaaGreatDoor
open Go.RowKit Go.Shelf
open Go.Lib

theorem countR_step (xs : List Rng) (k : Nat) (x : Rng) (h : xs[k]? = some x) : countR (xs.take (k + 1)) = countR (xs.take k) + (x.2 - x.1 + 1) := by
  rw [List.take_add_one, h]
  exact countR_snoc _ _

set_option maxHeartbeats 2000000 in
theorem count_any' (A : Option Addr) (cap : Nat) (xs : List Rng) (w : World) (h : RS w w.heap.size A cap xs) :
    Calls Tryz.prog 13 #[.slice A xs.length cap] w fun e w' => e = .returned (.int .i64 (countR (known xs))) ∧ Below w.heap.size w w' := by
  have H := Lib.hid h
  have C := valid_any A cap xs w h
  have hm : xs.length ≤ maxLen := by have := h.1; have := h.2.1; omega
  unfold maxLen at hm
  obtain ⟨n, hn⟩ : ∃ n, xs.length = n := ⟨_, rfl⟩
  have HN := Lib.hid hn
  rw [hn] at hm C ⊢
  clear h hn
  by_cases hV : right xs = true
  · rw [if_pos hV] at C
    rw [known_of hV]
    have HV := Lib.hid hV
    have C := Lib.hid C
    clear hV
    have hcb := countR_bound HV.out
    have HCT := Lib.hid fun k => countR_bound (rightFrom_take HV.out k)
    clear hcb
    go_enter Tryz.func13, Tryz.ntmps13
    go_wp2_with fail
    refine C.out.mono ?_
    rintro e w1 ⟨rfl, hb⟩
    go_wp2
    go_loopw [3, 9] (fun c i wr => ∃ k : Nat, i = .int .i64 k ∧ c = .int .i64 (countR (xs.take k)) ∧ k ≤ n ∧ Below w.heap.size w wr) (fun _ i _ => n - (RowKit.intOf i).toNat)
    case atStart => exact ⟨0, rfl, rfl, Nat.zero_le _, hb⟩
    case round =>
      obtain ⟨k, rfl, rfl, hk, hb2⟩ := hrel
      by_cases hlt : k < n
      · obtain ⟨x, hx⟩ : ∃ x, xs[k]? = some x := ⟨xs[k]'(by have := HN.out; omega), List.getElem?_eq_getElem _⟩
        obtain ⟨b, o, rfl, hbl, hRg⟩ := H.out.2.2.2 (by intro e; rw [e] at hx; simp at hx)
        obtain ⟨q1, q2⟩ := (hRg.below hbl hb2) k x hx
        have hmy := (may_iff _).1 (right_may (b := -1) HV.out x (List.mem_of_getElem? hx)).1
        have HS := Lib.hid (countR_step xs k x hx)
        have hc := HCT.out k
        have hlk : ((xs.take k).length : Int) = k := by rw [List.length_take, HN.out]; omega
        rw [hlk] at hc
        clear hRg hx hlk
        obtain ⟨lo, hi⟩ := x
        obtain ⟨m1, m2, m3⟩ := hmy
        simp only at m1 m2 m3
        have i1 : (k : Int) < (n : Int) := by omega
        have i0 : (0 : Int) ≤ (k : Int) := by omega
        generalize countR (xs.take k) = c at *
        obtain ⟨c1, c2⟩ := hc
        go_wp2_with fail
        have hb3 : Below w.heap.size w (wr.alloc (.cells #[.int .i32 lo, .int .i32 hi] 39)) := hb2.alloc hb2.size _
        go_wp2
        go_roundw
        case rel => exact ⟨k + 1, by go_num, by rw [HS.out], by omega, hb3⟩
        case measure => simp [RowKit.intOf]; omega
      · have hkn : k = n := by omega
        have e : xs.take k = xs := by rw [hkn, ← HN.out, List.take_length]
        rw [e]
        subst hkn
        clear e
        go_wp2
        go_ret
        exact ⟨rfl, hb2⟩
  · rw [if_neg hV] at C
    have e : known xs = [] := by unfold known; rw [if_neg hV]
    rw [e]
    have C := Lib.hid C
    clear hV e
    go_enter Tryz.func13, Tryz.ntmps13
    go_wp2_with fail
    refine C.out.mono ?_
    rintro e w1 ⟨rfl, hb⟩
    go_wp2
    go_loopw [3, 9] (fun c i wr => i = .int .i64 0 ∧ c = .int .i64 0 ∧ wr = w1) (fun _ _ _ => 0)
    case atStart => exact ⟨rfl, rfl, rfl⟩
    case round =>
      obtain ⟨rfl, rfl, rfl⟩ := hrel
      go_wp2
      go_ret
      exact ⟨rfl, hb⟩

theorem count_sp (A : Option Addr) (c : Nat) (xs : List Rng) (w : World) (h : SW w A c xs) (hr : right xs = true) :
    Calls Tryz.prog 13 #[.slice A xs.length c] w fun e w' => e = .returned (.int .i64 (countR xs)) ∧ Below w.heap.size w w' := by
  have := count_any' A c xs w h.r
  rwa [known_of hr] at this
theorem aw_text : rgText (97, 101) = [48, 48, 54, 49, 45, 48, 48, 54, 53] := by decide +kernel

set_option maxHeartbeats 2000000 in
/-- awake: the document's example. -/
theorem awake2_any (w : World) (hT : TZ w) : Calls Tryz.prog 4 #[] w fun e w' => e = .returned (.bool true) ∧ Below w.heap.size w w' := by
  have hb0 := below_new w (.cells #[.int .i32 97, .int .i32 99, .int .i32 100, .int .i32 101] 39)
  have hR : RS (w.alloc (.cells #[.int .i32 97, .int .i32 99, .int .i32 100, .int .i32 101] 39)) (w.alloc (.cells #[.int .i32 97, .int .i32 99, .int .i32 100, .int .i32 101] 39)).heap.size (some ⟨w.heap.size, 0, none⟩) 2 [(97, 99), (100, 101)] := by
    refine ⟨by simp, by unfold maxLen; omega, (fun x hx => by simp at hx; rcases hx with rfl | rfl <;> (unfold I32; omega)), fun _ => ⟨w.heap.size, 0, rfl, by simp, fun i x hx => ?_⟩⟩
    match i, hx with
    | 0, hx => simp at hx; subst hx; simp
    | 1, hx => simp at hx; subst hx; simp
    | i + 2, hx => simp at hx
  have C := make_ok (some ⟨w.heap.size, 0, none⟩) 2 [(97, 99), (100, 101)] _ ⟨hR, .inr ⟨_, _, rfl⟩⟩ (by simp) (by decide)
  have en : norm (hasR [(97, 99), (100, 101)]) = [(97, 101)] := (norm_eq (by decide) fun r => by rw [Bool.eq_iff_iff]; simp [hasR]; omega).symm
  rw [en] at C
  simp only [List.length_cons, List.length_nil] at C
  have C := Lib.hid C
  have HT := Lib.hid (hT.below hb0)
  have HB := Lib.hid hb0
  clear hR hb0 hT en
  go_enter Tryz.func4, Tryz.ntmps4
  go_wp2_with fail
  refine C.out.mono ?_
  rintro e w1 ⟨A, c, rfl, hS, _, _, hb1⟩
  have hr : right [(97, 101)] = true := by decide
  have hbz := HB.out.trans (hb1.mono HB.out.size)
  have hT1 := HT.out.below hb1
  have CP := print_any A c [(97, 101)] w1 hS.r hT1 (by simp)
  rw [show setText (known [(97, 101)]) = [48, 48, 54, 49, 45, 48, 48, 54, 53] from by rw [known_of hr]; exact aw_text] at CP
  simp only [List.length_cons, List.length_nil] at CP
  have CP := Lib.hid CP
  have CC := Lib.hid (fun W (hb : Below w1.heap.size w1 W) => count_sp A c [(97, 101)] W (hS.below hb) hr)
  simp only [List.length_cons, List.length_nil] at CC
  clear hS hr hb1 hT1
  go_wp2_with fail
  refine CP.out.mono ?_
  rintro e w2 ⟨rfl, hb2⟩
  have CC2 := Lib.hid (CC.out w2 hb2)
  have hbq := hbz.trans (hb2.mono hbz.size)
  clear hbz hb2
  go_wp2_with fail
  refine CC2.out.mono ?_
  rintro e w3 ⟨rfl, hb3⟩
  have hby := hbq.trans (hb3.mono hbq.size)
  have e5 : countR [(97, 101)] = 5 := by decide
  go_wp2
  go_ret
  exact ⟨rfl, hby⟩
end Go.Proofs.YtphhdkffnboboaaGreatDoor
