/-
  Contracts: virguleref02.points.
-/
import Derived.Deep.RegionHeld3
import Derived.Test.YtphhdkffnboboaaRg14
namespace Go.Proofs.Ytphhdkffnboboaa
open Go.RowKit Go.Shelf
open Go.Lib

/-- Where something may change: 0, each Lo, what is behind each Hi, 1114112. -/
structure Pts (xs : List Rng) (l : List Int) : Prop where
  s : l.Pairwise (· < ·)
  m : ∀ x, x ∈ l ↔ x = 0 ∨ ∃ y ∈ xs, x = y.1 ∨ x = y.2 + 1
theorem pts_step {xs : List Rng} {k : Nat} {x : Rng} {l l1 l2 : List Int} (h : Pts (xs.take k) l) (hx : xs[k]? = some x) (h1 : Ins l x.1 l1) (h2 : Ins l1 (x.2 + 1) l2) : Pts (xs.take (k + 1)) l2 := by
  refine ⟨h2.s, fun y => ?_⟩
  rw [h2.m y, h1.m y, h.m y, List.take_add_one, hx]
  constructor
  · rintro (e | e | e | ⟨z, hz, e⟩)
    · exact .inr ⟨x, by simp, .inr e⟩
    · exact .inr ⟨x, by simp, .inl e⟩
    · exact .inl e
    · exact .inr ⟨z, by simp [hz], e⟩
  · rintro (e | ⟨z, hz, e⟩)
    · exact .inr (.inr (.inl e))
    · rcases List.mem_append.1 hz with hz | hz
      · exact .inr (.inr (.inr ⟨z, hz, e⟩))
      · simp at hz
        subst hz
        rcases e with e | e
        · exact .inr (.inl e)
        · exact .inl e
structure PtsAll (xs : List Rng) (l : List Int) : Prop where
  s : l.Pairwise (· < ·)
  m : ∀ x, x ∈ l ↔ x = 0 ∨ x = 1114112 ∨ ∃ y ∈ xs, x = y.1 ∨ x = y.2 + 1
/-- What points hands back. -/
def PtsPost (xs : List Rng) (w : World) (e : Ending) (w' : World) : Prop :=
  ∃ l A c, e = .returned (.slice A l.length c) ∧ PtsAll xs l ∧ l.length ≤ 2 * xs.length + 2 ∧ LS w' w'.heap.size A c l ∧ Below w.heap.size w w'

set_option maxHeartbeats 8000000 in
set_option maxRecDepth 100000 in
theorem points_any (A : Option Addr) (cap : Nat) (xs : List Rng) (w : World) (h : RS w w.heap.size A cap xs) (hmay : ∀ x ∈ xs, may x = true) (hl : xs.length ≤ 10000) :
    Calls Try.prog 79 #[.slice A xs.length cap] w (PtsPost xs w) := by
  have H := Lib.hid h
  have HM := Lib.hid hmay
  have HC := Lib.hid insert_any
  obtain ⟨n, hn⟩ : ∃ n, xs.length = n := ⟨_, rfl⟩
  have HN := Lib.hid hn
  rw [hn] at hl ⊢
  clear h hmay hn
  go_enter Try.func79, Try.ntmps79
  go_wp2
  go_loopw [3, 4] (fun v i wr => ∃ (k : Nat) (l : List Int) (A' : Option Addr) (c' : Nat), i = .int .i64 k ∧ k ≤ n ∧ v = .slice A' l.length c' ∧ Pts (xs.take k) l ∧ l.length ≤ 2 * k + 1 ∧ LS wr wr.heap.size A' c' l ∧ Below w.heap.size w wr) (fun _ i _ => n - (RowKit.intOf i).toNat)
  case atStart =>
    refine ⟨0, [0], some ⟨w.heap.size, 0, none⟩, 1, rfl, Nat.zero_le _, rfl, ⟨by simp, fun x => by simp⟩, by simp, ⟨by simp, by unfold maxLen; omega, (fun x hx => by simp at hx; omega), w.heap.size, 0, rfl, by simp, fun i x hx => ?_⟩, below_new _ _⟩
    cases i with
    | zero => simp at hx; subst hx; simp
    | succ i => simp at hx
  case round =>
    obtain ⟨k, l, A', c', rfl, hk, rfl, hP, hll, hLS, hb⟩ := hrel
    have HP := Lib.hid hP
    have HL := Lib.hid hLS
    have HLL := Lib.hid hll
    clear hP hLS hll
    by_cases hlt : k < n
    · obtain ⟨x, hx⟩ : ∃ x, xs[k]? = some x := ⟨xs[k]'(by have := HN.out; omega), List.getElem?_eq_getElem _⟩
      obtain ⟨b, o, rfl, hbl, hRg⟩ := H.out.2.2.2 (by intro e; rw [e] at hx; simp at hx)
      have q := fun W hW => (hRg.below hbl (show Below w.heap.size w W from hW)) k x hx
      have hm := (may_iff _).1 (HM.out x (List.mem_of_getElem? hx))
      have HX := Lib.hid hx
      clear hRg hx
      obtain ⟨lo, hi⟩ := x
      obtain ⟨m1, m2, m3⟩ := hm
      simp only at m1 m2 m3
      have HQ := Lib.hid q
      clear q
      have i1 : (k : Int) < (n : Int) := by omega
      obtain ⟨q1, q2⟩ := HQ.out wr hb
      have HBD := Lib.hid hb.drew
      have hlb : l.length ≤ 20001 := by have := HLL.out; omega
      have L1 := Lib.hid (HC.out A' c' l lo wr.drew (show LS wr.drew wr.drew.heap.size A' c' l from (HL.out.below (Below.refl _ _).drew)) HP.out.s (by omega) (by omega) (by omega))
      have hwr : IntKind.i32.wrap (hi + 1) = hi + 1 := by simp [IntKind.wrap, IntKind.bits, IntKind.signed]; omega
      go_wp2_with fail
      go_region_with (first
        | (go_at_call_of 82 A'
           refine L1.out.mono ?_
           rintro e w1 ⟨l1, A1, c1, rfl, hI1, hL1, hb1⟩
           have hbw1 := HBD.out.trans (hb1.mono HBD.out.size)
           obtain ⟨q3, q4⟩ := HQ.out w1 hbw1)
        | (go_at_call_of 82 A1
           try rw [hwr]
           refine (HC.out A1 c1 l1 (hi + 1) w1 hL1 hI1.s (by omega) (by omega) (by have := hI1.n; omega)).mono ?_
           rintro e w2 ⟨l2, A2, c2, rfl, hI2, hL2, hb2⟩
           have hbw2 := hbw1.trans (hb2.mono hbw1.size)))
      all_goals
        have HI := Lib.hid (pts_step HP.out HX.out hI1 hI2)
        have HNN := Lib.hid (show l2.length ≤ 2 * (k + 1) + 1 by have := hI1.n; have := hI2.n; have := HLL.out; omega)
        have HL2 := Lib.hid hL2
        clear hI1 hI2 hL1 hL2
        go_wp2
        go_roundw
        case rel => exact ⟨k + 1, l2, A2, c2, by go_num, by omega, rfl, HI.out, HNN.out, HL2.out, hbw2⟩
        case measure => simp [RowKit.intOf]; omega
    · have hkn : k = n := by omega
      have e : xs.take k = xs := by rw [hkn, ← HN.out, List.take_length]
      rw [e] at HP
      have L1 := Lib.hid (HC.out A' c' l 1114112 wr HL.out HP.out.s (by omega) (by omega) (by have := HLL.out; omega))
      subst hkn
      clear e
      go_wp2_with fail
      refine L1.out.mono ?_
      rintro e w1 ⟨l1, A1, c1, rfl, hI1, hL1, hb1⟩
      have hbw1 := hb.trans (hb1.mono hb.size)
      have HI := Lib.hid hI1
      have HL1 := Lib.hid hL1
      clear hI1 hL1
      go_wp2
      go_ret
      refine ⟨l1, A1, c1, rfl, ⟨HI.out.s, fun x => ?_⟩, by have := HI.out.n; have := HLL.out; have := HN.out; omega, HL1.out, hbw1⟩
      rw [HI.out.m x, HP.out.m x]
      constructor
      · rintro (e | e | e)
        · exact .inr (.inl e)
        · exact .inl e
        · exact .inr (.inr e)
      · rintro (e | e | e)
        · exact .inr (.inl e)
        · exact .inl e
        · exact .inr (.inr e)
end Go.Proofs.Ytphhdkffnboboaa
