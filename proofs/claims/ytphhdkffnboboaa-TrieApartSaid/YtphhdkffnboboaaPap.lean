/-
  Contracts: virguleref02.points.
  The document's gather, in plain words: between two places where something may change, nothing changes.
  Contracts: virguleref02.gather, at each of its four kinds.
  Contracts: prop.setOf.
  Contracts: prop.Set.
-/
import Derived.Deep.RegionHeld3
import Derived.Test.YtphhdkffnboboaaPao
import Derived.Deep.QuietTactic
import Derived.IntWalk
import Derived.Test.YtphhdkffnboboaaPac
namespace Go.Proofs.Ytphhdkffnboboaa
open Go.RowKit Go.Shelf
open Go.Lib

/-- Where something may change: 0, each Lo, what is behind each Hi, 1114112. -/
structure Pts (xs : List Rng) (l : List Int) : Prop where
  s : l.Pairwise (· < ·)
  m : ∀ x, x ∈ l ↔ x = 0 ∨ ∃ y ∈ xs, x = y.1 ∨ x = y.2 + 1
theorem pts_step {xs : List Rng} {k : Nat} {x : Rng} {l l1 l2 : List Int} (h : Pts (xs.take k) l) (hx : xs[k]? = some x) (h1 : Ins l x.1 l1) (h2 : Ins l1 (x.2 + 1) l2) : Pts (xs.take (k + 1)) l2 := by
  refine ⟨h2.s, fun y => ?_⟩
  rw [h2.m y, h1.m y, h.m y, List.take_add_one, hx]
  constructor
  · rintro (e | e | e | ⟨z, hz, e⟩)
    · exact .inr ⟨x, by simp, .inr e⟩
    · exact .inr ⟨x, by simp, .inl e⟩
    · exact .inl e
    · exact .inr ⟨z, by simp [hz], e⟩
  · rintro (e | ⟨z, hz, e⟩)
    · exact .inr (.inr (.inl e))
    · rcases List.mem_append.1 hz with hz | hz
      · exact .inr (.inr (.inr ⟨z, hz, e⟩))
      · simp at hz
        subst hz
        rcases e with e | e
        · exact .inr (.inl e)
        · exact .inl e
structure PtsAll (xs : List Rng) (l : List Int) : Prop where
  s : l.Pairwise (· < ·)
  m : ∀ x, x ∈ l ↔ x = 0 ∨ x = 1114112 ∨ ∃ y ∈ xs, x = y.1 ∨ x = y.2 + 1
/-- What points hands back. -/
def PtsPost (xs : List Rng) (w : World) (e : Ending) (w' : World) : Prop :=
  ∃ l A c, e = .returned (.slice A l.length c) ∧ PtsAll xs l ∧ l.length ≤ 2 * xs.length + 2 ∧ LS w' w'.heap.size A c l ∧ Below w.heap.size w w'

set_option maxHeartbeats 8000000 in
set_option maxRecDepth 100000 in
theorem points_any (A : Option Addr) (cap : Nat) (xs : List Rng) (w : World) (h : RS w w.heap.size A cap xs) (hmay : ∀ x ∈ xs, may x = true) (hl : xs.length ≤ 10000) :
    Calls Try.prog 79 #[.slice A xs.length cap] w (PtsPost xs w) := by
  have H := Lib.hid h
  have HM := Lib.hid hmay
  have HC := Lib.hid insert_any
  obtain ⟨n, hn⟩ : ∃ n, xs.length = n := ⟨_, rfl⟩
  have HN := Lib.hid hn
  rw [hn] at hl ⊢
  clear h hmay hn
  go_enter Try.func79, Try.ntmps79
  go_wp2
  go_loopw [3, 4] (fun v i wr => ∃ (k : Nat) (l : List Int) (A' : Option Addr) (c' : Nat), i = .int .i64 k ∧ k ≤ n ∧ v = .slice A' l.length c' ∧ Pts (xs.take k) l ∧ l.length ≤ 2 * k + 1 ∧ LS wr wr.heap.size A' c' l ∧ Below w.heap.size w wr) (fun _ i _ => n - (RowKit.intOf i).toNat)
  case atStart =>
    refine ⟨0, [0], some ⟨w.heap.size, 0, none⟩, 1, rfl, Nat.zero_le _, rfl, ⟨by simp, fun x => by simp⟩, by simp, ⟨by simp, by unfold maxLen; omega, (fun x hx => by simp at hx; omega), w.heap.size, 0, rfl, by simp, fun i x hx => ?_⟩, below_new _ _⟩
    cases i with
    | zero => simp at hx; subst hx; simp
    | succ i => simp at hx
  case round =>
    obtain ⟨k, l, A', c', rfl, hk, rfl, hP, hll, hLS, hb⟩ := hrel
    have HP := Lib.hid hP
    have HL := Lib.hid hLS
    have HLL := Lib.hid hll
    clear hP hLS hll
    by_cases hlt : k < n
    · obtain ⟨x, hx⟩ : ∃ x, xs[k]? = some x := ⟨xs[k]'(by have := HN.out; omega), List.getElem?_eq_getElem _⟩
      obtain ⟨b, o, rfl, hbl, hRg⟩ := H.out.2.2.2 (by intro e; rw [e] at hx; simp at hx)
      have q := fun W hW => (hRg.below hbl (show Below w.heap.size w W from hW)) k x hx
      have hm := (may_iff _).1 (HM.out x (List.mem_of_getElem? hx))
      have HX := Lib.hid hx
      clear hRg hx
      obtain ⟨lo, hi⟩ := x
      obtain ⟨m1, m2, m3⟩ := hm
      simp only at m1 m2 m3
      have HQ := Lib.hid q
      clear q
      have i1 : (k : Int) < (n : Int) := by omega
      obtain ⟨q1, q2⟩ := HQ.out wr hb
      have HBD := Lib.hid hb.drew
      have hlb : l.length ≤ 20001 := by have := HLL.out; omega
      have L1 := Lib.hid (HC.out A' c' l lo wr.drew (show LS wr.drew wr.drew.heap.size A' c' l from (HL.out.below (Below.refl _ _).drew)) HP.out.s (by omega) (by omega) (by omega))
      have hwr : IntKind.i32.wrap (hi + 1) = hi + 1 := by simp [IntKind.wrap, IntKind.bits, IntKind.signed]; omega
      go_wp2_with fail
      go_region_with (first
        | (go_at_call_of 82 A'
           refine L1.out.mono ?_
           rintro e w1 ⟨l1, A1, c1, rfl, hI1, hL1, hb1⟩
           have hbw1 := HBD.out.trans (hb1.mono HBD.out.size)
           obtain ⟨q3, q4⟩ := HQ.out w1 hbw1)
        | (go_at_call_of 82 A1
           try rw [hwr]
           refine (HC.out A1 c1 l1 (hi + 1) w1 hL1 hI1.s (by omega) (by omega) (by have := hI1.n; omega)).mono ?_
           rintro e w2 ⟨l2, A2, c2, rfl, hI2, hL2, hb2⟩
           have hbw2 := hbw1.trans (hb2.mono hbw1.size)))
      all_goals
        have HI := Lib.hid (pts_step HP.out HX.out hI1 hI2)
        have HNN := Lib.hid (show l2.length ≤ 2 * (k + 1) + 1 by have := hI1.n; have := hI2.n; have := HLL.out; omega)
        have HL2 := Lib.hid hL2
        clear hI1 hI2 hL1 hL2
        go_wp2
        go_roundw
        case rel => exact ⟨k + 1, l2, A2, c2, by go_num, by omega, rfl, HI.out, HNN.out, HL2.out, hbw2⟩
        case measure => simp [RowKit.intOf]; omega
    · have hkn : k = n := by omega
      have e : xs.take k = xs := by rw [hkn, ← HN.out, List.take_length]
      rw [e] at HP
      have L1 := Lib.hid (HC.out A' c' l 1114112 wr HL.out HP.out.s (by omega) (by omega) (by have := HLL.out; omega))
      subst hkn
      clear e
      go_wp2_with fail
      refine L1.out.mono ?_
      rintro e w1 ⟨l1, A1, c1, rfl, hI1, hL1, hb1⟩
      have hbw1 := hb.trans (hb1.mono hb.size)
      have HI := Lib.hid hI1
      have HL1 := Lib.hid hL1
      clear hI1 hL1
      go_wp2
      go_ret
      refine ⟨l1, A1, c1, rfl, ⟨HI.out.s, fun x => ?_⟩, by have := HI.out.n; have := HLL.out; have := HN.out; omega, HL1.out, hbw1⟩
      rw [HI.out.m x, HP.out.m x]
      constructor
      · rintro (e | e | e)
        · exact .inr (.inl e)
        · exact .inl e
        · exact .inr (.inr e)
      · rintro (e | e | e)
        · exact .inr (.inl e)
        · exact .inl e
        · exact .inr (.inr e)
end Go.Proofs.Ytphhdkffnboboaa

namespace Go.Proofs.Ytphhdkffnboboaa

/-- What is wanted of a number, by how. -/
def wantR (how : Int) (x y : Bool) : Bool := if how = 1 then x && y else if how = 2 then x && !y else if how = 3 then !x else x || y
def gatF (how : Int) (xs ys : List Rng) (r : Int) : Bool := wantR how (hasR xs r) (hasR ys r)

theorem pw_gap {l : List Int} (h : l.Pairwise (· < ·)) {i : Nat} {p q : Int} (hp : l[i]? = some p) (hq : l[i + 1]? = some q) : p < q ∧ ∀ x ∈ l, x ≤ p ∨ q ≤ x := by
  obtain ⟨h1, rfl⟩ := List.getElem?_eq_some_iff.1 hp
  obtain ⟨h2, rfl⟩ := List.getElem?_eq_some_iff.1 hq
  have H := List.pairwise_iff_getElem.1 h
  refine ⟨H i (i + 1) h1 h2 (by omega), fun x hx => ?_⟩
  obtain ⟨j, hj⟩ := List.mem_iff_getElem?.1 hx
  obtain ⟨h3, rfl⟩ := List.getElem?_eq_some_iff.1 hj
  rcases Nat.lt_trichotomy j i with c | c | c
  · exact .inl (Int.le_of_lt (H j i h3 h1 c))
  · subst c; exact .inl (Int.le_refl _)
  · rcases Nat.lt_or_ge (i + 1) j with c2 | c2
    · exact .inr (Int.le_of_lt (H (i + 1) j h2 h3 c2))
    · obtain rfl : j = i + 1 := by omega
      exact .inr (Int.le_refl _)
theorem pts_bounds {xs : List Rng} {l : List Int} (h : PtsAll xs l) (hm : ∀ x ∈ xs, may x = true) : ∀ x ∈ l, 0 ≤ x ∧ x ≤ 1114112 := by
  intro x hx
  rcases (h.m x).1 hx with e | e | ⟨y, hy, e⟩
  · omega
  · omega
  · have := (may_iff y).1 (hm y hy)
    omega
theorem pts_first {xs : List Rng} {l : List Int} (h : PtsAll xs l) (hm : ∀ x ∈ xs, may x = true) : l[0]? = some 0 := by
  obtain ⟨j, hj⟩ := List.mem_iff_getElem?.1 ((h.m 0).2 (.inl rfl))
  obtain ⟨h3, e⟩ := List.getElem?_eq_some_iff.1 hj
  have h0 : 0 < l.length := by omega
  rw [List.getElem?_eq_getElem h0]
  have hb := (pts_bounds h hm l[0] (List.getElem_mem h0)).1
  rcases Nat.eq_zero_or_pos j with c | c
  · subst c; rw [e]
  · have := List.pairwise_iff_getElem.1 h.s 0 j h0 h3 c
    omega
theorem pts_last {xs : List Rng} {l : List Int} (h : PtsAll xs l) (hm : ∀ x ∈ xs, may x = true) {i : Nat} {p : Int} (hp : l[i]? = some p) (hi : l.length ≤ i + 1) : p = 1114112 := by
  obtain ⟨j, hj⟩ := List.mem_iff_getElem?.1 ((h.m 1114112).2 (.inr (.inl rfl)))
  obtain ⟨h3, e⟩ := List.getElem?_eq_some_iff.1 hj
  obtain ⟨h1, e1⟩ := List.getElem?_eq_some_iff.1 hp
  have hb := (pts_bounds h hm l[i] (List.getElem_mem h1)).2
  rcases Nat.lt_or_ge j i with c | c
  · have := List.pairwise_iff_getElem.1 h.s j i h3 h1 c
    omega
  · obtain rfl : j = i := by omega
    rw [← e1, e]
theorem pts_len {xs : List Rng} {l : List Int} (h : PtsAll xs l) : 0 < l.length := by
  obtain ⟨j, hj⟩ := List.mem_iff_getElem?.1 ((h.m 0).2 (.inl rfl))
  have := (List.getElem?_eq_some_iff.1 hj).1
  omega
theorem has_const {zs : List Rng} {l : List Int} (hz : ∀ y ∈ zs, y.1 ∈ l ∧ y.2 + 1 ∈ l) {p q : Int} (hg : ∀ x ∈ l, x ≤ p ∨ q ≤ x) {r : Int} (h1 : p ≤ r) (h2 : r < q) : hasR zs r = hasR zs p := by
  rw [Bool.eq_iff_iff, hasR_iff, hasR_iff]
  constructor
  · rintro ⟨y, hy, a, b⟩
    obtain ⟨u, v⟩ := hz y hy
    have := hg _ u
    have := hg _ v
    exact ⟨y, hy, by omega, by omega⟩
  · rintro ⟨y, hy, a, b⟩
    obtain ⟨u, v⟩ := hz y hy
    have := hg _ u
    have := hg _ v
    exact ⟨y, hy, by omega, by omega⟩
theorem gat_const {xs ys : List Rng} {l : List Int} (how : Int) (h : PtsAll (xs ++ ys) l) {p q : Int} (hg : ∀ x ∈ l, x ≤ p ∨ q ≤ x) {r : Int} (h1 : p ≤ r) (h2 : r < q) : gatF how xs ys r = gatF how xs ys p := by
  have e : ∀ y ∈ xs ++ ys, y.1 ∈ l ∧ y.2 + 1 ∈ l := fun y hy => ⟨(h.m _).2 (.inr (.inr ⟨y, hy, .inl rfl⟩)), (h.m _).2 (.inr (.inr ⟨y, hy, .inr rfl⟩))⟩
  unfold gatF
  rw [has_const (fun y hy => e y (List.mem_append_left _ hy)) hg h1 h2, has_const (fun y hy => e y (List.mem_append_right _ hy)) hg h1 h2]

/-- What gather's loop holds: the right list of what is wanted below a place. -/
structure GatInv (f : Int → Bool) (out : List Rng) (N : Int) : Prop where
  r : right out = true
  m : ∀ r, hasR out r = true ↔ 0 ≤ r ∧ r < N ∧ f r = true
theorem gat_start (f : Int → Bool) : GatInv f [] 0 := ⟨rfl, fun r => by simp [hasR]; omega⟩
theorem gat_skip {f : Int → Bool} {out : List Rng} {p q : Int} (I : GatInv f out p) (hp : p < q) (hc : ∀ r, p ≤ r → r < q → f r = f p) (hf : f p = false) : GatInv f out q := by
  refine ⟨I.r, fun r => ?_⟩
  rw [I.m r]
  constructor
  · rintro ⟨a, b, c⟩; exact ⟨a, by omega, c⟩
  · rintro ⟨a, b, c⟩
    refine ⟨a, ?_, c⟩
    rcases Int.lt_or_le r p with d | d
    · exact d
    · rw [hc r d b, hf] at c; cases c
theorem gat_hi {f : Int → Bool} {out : List Rng} {p : Int} (I : GatInv f out p) {pre : List Rng} {z : Rng} (e : out = pre ++ [z]) : z.2 < p ∧ may z = true := by
  subst e
  have hz := (right_may (b := -1) I.r z (by simp)).1
  have h3 := (may_iff z).1 hz
  have := (I.m z.2).1 (by rw [hasR_append, Bool.or_eq_true]; exact .inr ((hasR_cons_iff z [] z.2).2 (.inl ⟨by omega, by omega⟩)))
  exact ⟨this.2.1, hz⟩
theorem gat_merge {f : Int → Bool} {pre : List Rng} {z : Rng} {p q : Int} (I : GatInv f (pre ++ [z]) p) (hp : p < q) (h0 : 0 ≤ p) (hq : q ≤ 1114112) (hc : ∀ r, p ≤ r → r < q → f r = f p) (hf : f p = true) (he : z.2 + 1 = p) : GatInv f (pre ++ [(z.1, q - 1)]) q := by
  have hz := (may_iff z).1 (gat_hi I rfl).2
  have J := join_merge pre z (p, q - 1) I.r ((may_iff _).2 ⟨by dsimp only; omega, by dsimp only; omega, by dsimp only; omega⟩) (by dsimp only; omega) (by dsimp only; omega)
  have em : max z.2 (p, q - 1).2 = q - 1 := by dsimp only; omega
  rw [em] at J
  refine ⟨J.1, fun r => ?_⟩
  rw [J.2 r, Bool.or_eq_true, I.m r]
  simp only [Bool.and_eq_true, decide_eq_true_eq]
  constructor
  · rintro (⟨a, b, c⟩ | ⟨a, b⟩)
    · exact ⟨a, by omega, c⟩
    · exact ⟨by omega, by omega, by rw [hc r a (by omega)]; exact hf⟩
  · rintro ⟨a, b, c⟩
    rcases Int.lt_or_le r p with d | d
    · exact .inl ⟨a, d, c⟩
    · exact .inr ⟨d, by omega⟩
theorem gat_push {f : Int → Bool} {out : List Rng} {p q : Int} (I : GatInv f out p) (hp : p < q) (h0 : 0 ≤ p) (hq : q ≤ 1114112) (hc : ∀ r, p ≤ r → r < q → f r = f p) (hf : f p = true) (he : hiOf (-1) out < p) : GatInv f (out ++ [(p, q - 1)]) q := by
  have J := join_push out (p, q - 1) I.r ((may_iff _).2 ⟨by dsimp only; omega, by dsimp only; omega, by dsimp only; omega⟩) he
  refine ⟨J.1, fun r => ?_⟩
  rw [J.2 r, Bool.or_eq_true, I.m r]
  simp only [Bool.and_eq_true, decide_eq_true_eq]
  constructor
  · rintro (⟨a, b, c⟩ | ⟨a, b⟩)
    · exact ⟨a, by omega, c⟩
    · exact ⟨by omega, by omega, by rw [hc r a (by omega)]; exact hf⟩
  · rintro ⟨a, b, c⟩
    rcases Int.lt_or_le r p with d | d
    · exact .inl ⟨a, d, c⟩
    · exact .inr ⟨d, by omega⟩
theorem gat_push1 {f : Int → Bool} {pre : List Rng} {z : Rng} {p q : Int} (I : GatInv f (pre ++ [z]) p) (hp : p < q) (h0 : 0 ≤ p) (hq : q ≤ 1114112) (hc : ∀ r, p ≤ r → r < q → f r = f p) (hf : f p = true) (he : ¬ z.2 + 1 = p) : GatInv f (pre ++ [z] ++ [(p, q - 1)]) q :=
  gat_push I hp h0 hq hc hf (by have := (gat_hi I rfl).1; rw [hiOf_snoc]; omega)
theorem gat_push0 {f : Int → Bool} {p q : Int} (I : GatInv f [] p) (hp : p < q) (h0 : 0 ≤ p) (hq : q ≤ 1114112) (hc : ∀ r, p ≤ r → r < q → f r = f p) (hf : f p = true) : GatInv f ([] ++ [(p, q - 1)]) q :=
  gat_push I hp h0 hq hc hf (by simp [hiOf]; omega)
end Go.Proofs.Ytphhdkffnboboaa

namespace Go.Proofs.Ytphhdkffnboboaa
open Go.RowKit Go.Shelf
open Go.Lib

theorem own_empty2 (w : World) (base e : Nat) (hb : base ≤ w.heap.size) : (w.alloc (.cells #[] e)).ownsRow base e 2 (.slice (some ⟨w.heap.size, 0, none⟩) 0 0) 0 (cells2 []) :=
  ⟨rfl, .inr ⟨w.heap.size, 0, #[], rfl, hb, World.alloc_heap_new w _, Nat.le_refl _, Nat.zero_le _, rfl, rfl⟩⟩
theorem may_i32 {xs : List Rng} (h : ∀ x ∈ xs, may x = true) : ∀ x ∈ xs, I32 x := fun x hx => by
  have := (may_iff _).1 (h x hx)
  exact ⟨by omega, by omega, by omega, by omega⟩
/-- What gather hands back: the right list of what is wanted. -/
def GatPost (how : Int) (xs ys : List Rng) (w : World) (e : Ending) (w' : World) : Prop :=
  ∃ out : List Rng, right out = true ∧ (∀ r, hasR out r = true ↔ 0 ≤ r ∧ r < 1114112 ∧ gatF how xs ys r = true) ∧ out.length ≤ 2 * (xs.length + ys.length) + 2 ∧ HoldsR w.heap.size 40 out w e w'
end Go.Proofs.Ytphhdkffnboboaa

namespace Go.Proofs.Ytphhdkffnboboaa
open Go.RowKit Go.Shelf
open Go.Lib Go.Great

theorem NR_extract {k : Nat} {x : Row} (hx : rowsP[k]? = some x) : NR.extract (k * 3) (k * 3 + 3) = #[.int .i32 x.1, .int .i32 x.2.1, .int .i64 (x.2.2 : Int)] := by
  obtain ⟨h1, h2, h3⟩ := NR_get rowsP k x hx
  have hl := (List.getElem?_eq_some_iff.1 h3).1
  have hs : NR.size = (rowsP.flatMap rcell).length := by unfold NR; simp
  apply Array.ext
  · simp only [Array.size_extract, List.size_toArray, List.length_cons, List.length_nil]
    omega
  · intro i h4 h5
    have h5' : i < 3 := by simpa using h5
    rw [Array.getElem_extract]
    have e : ∀ j (hj : j < NR.size) v, (rowsP.flatMap rcell)[j]? = some v → NR[j] = v := by
      intro j hj v hv
      have : NR[j]? = some v := by unfold NR; simpa using hv
      rw [Array.getElem?_eq_getElem hj] at this
      exact Option.some.inj this
    match i, h5' with
    | 0, _ => exact e _ _ _ (by simpa using h1)
    | 1, _ => exact e _ _ _ h2
    | 2, _ => exact e _ _ _ h3
theorem row_index {k : Nat} {x : Row} (hx : rowsP[k]? = some x) (w : World) : (Instr.index 98 (.agg NR) (.int .i64 (k : Int))).run Try.prog w = .ok (.agg #[.int .i32 x.1, .int .i32 x.2.1, .int .i64 (x.2.2 : Int)]) w := by
  have hk : k < 140 := by have := (List.getElem?_eq_some_iff.1 hx).1; rw [rows_len] at this; exact this
  have hE := NR_extract hx
  simp [Instr.index, asIntOf, run_underlying Try.underlying98, part, Try.isAgg97, Try.sizeOf97, Sem.run_bind, Result.andThen, hE, go_sem]
  omega

theorem flat_take (pick : Row → List Rng) (k : Nat) (x : Row) (hx : rowsP[k]? = some x) : (rowsP.take (k + 1)).flatMap pick = (rowsP.take k).flatMap pick ++ pick x := by
  rw [List.take_add_one, hx]
  simp
theorem flat_len (pick : Row → List Rng) (k : Nat) : ((rowsP.take k).flatMap pick).length ≤ (rowsP.flatMap pick).length := by
  have : rowsP.flatMap pick = (rowsP.take k).flatMap pick ++ (rowsP.drop k).flatMap pick := by rw [← List.flatMap_append, List.take_append_drop]
  rw [this]
  simp

attribute [local irreducible] NR

set_option maxHeartbeats 4000000 in
set_option maxRecDepth 100000 in
theorem setOf_any (g : Nat) (cb : Array Value) (eg : ∀ args w, (callFunc g args).run Try.prog w = .ok (.enter g args) w) (pick : Row → List Rng) (w : World)
    (hp : ∀ x, x ∈ rowsP → ∀ W, Below w.heap.size w W → Calls Try.prog g (#[.agg #[.int .i32 x.1, .int .i32 x.2.1, .int .i64 (x.2.2 : Int)]] ++ cb) W (SP (pick x) W))
    (hm : ((rowsP.flatMap pick).all may) = true) (hl : (rowsP.flatMap pick).length ≤ 1000) :
    Calls Try.prog 64 #[.func (.func g) #[] cb] w fun e w' => SP (norm (hasR (rowsP.flatMap pick))) w e w' ∧ (∀ r, hasR (norm (hasR (rowsP.flatMap pick))) r = hasR (rowsP.flatMap pick) r) ∧ (norm (hasR (rowsP.flatMap pick))).length ≤ 1000 := by
  obtain ⟨i0, hi, hz0, hz1, hz2⟩ := info_parts Try.info70
  obtain ⟨F, hF⟩ : ∃ F : Nat → List Rng, ∀ k, F k = (rowsP.take k).flatMap pick := ⟨_, fun _ => rfl⟩
  have HF0 : Hid (F 0 = []) := Lib.hid (by rw [hF]; rfl)
  have HFs : Hid (∀ k x, rowsP[k]? = some x → F (k + 1) = F k ++ pick x) := Lib.hid (fun k x hx => by rw [hF, hF]; exact flat_take pick k x hx)
  have HFl : Hid (∀ k, (F k).length ≤ (rowsP.flatMap pick).length) := Lib.hid (fun k => by rw [hF]; exact flat_len pick k)
  have HFT : Hid (∀ k, 140 ≤ k → F k = rowsP.flatMap pick) := Lib.hid (fun k hk => by rw [hF, List.take_of_length_le (by rw [rows_len]; exact hk)])
  clear hF
  generalize rowsP.flatMap pick = T at *
  have HP := Lib.hid hp
  have HM := Lib.hid hm
  have HL := Lib.hid hl
  have EG := Lib.hid eg
  clear hp hm hl eg
  go_enter Try.func64, Try.ntmps64
  go_wp2_with fail
  refine (rows_any _).mono ?_
  rintro e w1 ⟨rfl, hb1⟩
  have HB1 := Lib.hid hb1
  clear hb1
  go_wp2_with fail
  go_loopw [3, 9] (fun v i wr => ∃ k : Nat, i = .int .i64 k ∧ k ≤ 140 ∧ wr.ownsRow w1.heap.size 70 2 v (F k).length (cells2 (F k)) ∧ Below w1.heap.size w1 wr) (fun _ i _ => 140 - (RowKit.intOf i).toNat)
  case atStart => exact ⟨0, rfl, by omega, by rw [HF0.out]; exact World.ownsRow_nil _ _ _ _, Below.refl _ _⟩
  case round =>
    obtain ⟨k, rfl, hk, hown, hb⟩ := hrel
    by_cases hlt : k < 140
    · obtain ⟨x, hx⟩ : ∃ x, rowsP[k]? = some x := ⟨rowsP[k]'(by rw [rows_len]; exact hlt), List.getElem?_eq_getElem _⟩
      have HX := Lib.hid (row_index hx)
      have HF := Lib.hid (HFs.out k x hx)
      have HLk1 := Lib.hid (HFl.out (k + 1))
      have hmem := List.mem_of_getElem? hx
      have C := Lib.hid (HP.out x hmem)
      clear hx hmem
      obtain ⟨lo, hi', cl⟩ := x
      have i1 : (k : Int) < 140 := by omega
      have hX := HX.out wr
      simp only at hX
      have hbx := hb.alloc hb.size (.cells #[.int .i32 lo, .int .i32 hi', .int .i64 (cl : Int)] 97)
      have own1 := hown.alloc (.cells #[.int .i32 lo, .int .i32 hi', .int .i64 (cl : Int)] 97)
      have hC := C.out _ (HB1.out.trans (hbx.mono HB1.out.size))
      simp only at hC
      generalize hP : pick (lo, hi', cl) = Pk at hC HF
      clear hP hown
      have hEG := EG.out
      go_wp2_with fail
      refine hC.mono ?_
      rintro e w2 ⟨A1, c1, rfl, hS, hb2⟩
      have own2 := ownsRow_below own1 hb2
      have hbz := hbx.trans (hb2.mono hbx.size)
      have HO := Lib.hid own2
      have HS := Lib.hid hS
      have HZ := Lib.hid hbz
      have hlen : (F k).length + Pk.length ≤ 1000 := by
        have h1 := HLk1.out
        have h2 := HL.out
        rw [HF.out, List.length_append] at h1
        omega
      have HLN := Lib.hid hlen
      clear hC own1 own2 hb hb2 hbx hbz hS hlen hEG
      go_wp2_with (refine wpList_append_rg rfl (.tmp 12) (.tmp 15) 41 41 rfl w1.heap.size 70 i0 (.agg #[.int .i32 0, .int .i32 0]) Try.underlying41 Try.underlying41 hi hz0 hz1 hz2 rfl _ (F k) rfl HO.out A1 c1 Pk rfl HS.out.r HS.out.f.w (by have := HLN.out; omega) HZ.out.size ?_; intro v2 w3 own3 hb3)
      rw [← HF.out] at own3
      have hbq := HZ.out.trans hb3
      clear hb3
      go_wp2
      go_roundw
      case rel => exact ⟨k + 1, by go_num, by omega, own3, hbq⟩
      case measure => simp [RowKit.intOf]; omega
    · have hkn : k = 140 := by omega
      have e : F k = T := HFT.out k (by omega)
      rw [e] at hown
      have i1 : (140 : Int) ≤ (k : Int) := by omega
      clear hkn hlt
      obtain ⟨A1, c1, hv, hS⟩ := sw_own hown (fun x hx => may_i32 (List.all_eq_true.1 HM.out) x hx)
      subst hv
      have C := make_ok A1 c1 T wr hS (by exact HL.out) HM.out
      have C := Lib.hid C
      have hbz := HB1.out.trans (hb.mono HB1.out.size)
      have HZ := Lib.hid hbz
      clear hown e hS hb hbz
      go_wp2_with fail
      refine C.out.mono ?_
      rintro e w2 ⟨A2, c2, rfl, hS, hle, hh, hb2⟩
      have H := Lib.hid (And.intro hS (And.intro (HZ.out.trans (hb2.mono HZ.out.size)) (And.intro hh (show (norm (hasR T)).length ≤ 1000 by have := HL.out; omega))))
      clear hS hle hh hb2
      go_wp2
      go_ret
      exact ⟨⟨_, _, rfl, H.out.1, H.out.2.1⟩, H.out.2.2.1, H.out.2.2.2⟩
end Go.Proofs.Ytphhdkffnboboaa

namespace Go.Proofs.Ytphhdkffnboboaa
open Go.RowKit Go.Shelf
open Go.Lib Go.Great

/-- The set of a class, as prop makes it. -/
noncomputable def setP (c : Int) : List Rng := if c = 0 then norm (notR (norm (hasR (rowsP.flatMap wholeP)))) else norm (hasR (rowsP.flatMap (partP c)))

theorem parts_ok (c : Int) (h0 : c ≠ 0) : ((rowsP.flatMap (partP c)).all may) = true ∧ (rowsP.flatMap (partP c)).length ≤ 1000 := by
  by_cases h : c < 0 ∨ 35 < c
  · rw [part_out h]
    exact ⟨rfl, Nat.zero_le _⟩
  · obtain ⟨n, rfl⟩ := Int.eq_ofNat_of_zero_le (show 0 ≤ c by omega)
    have hr := part_right (c := n) (by omega) (by omega)
    refine ⟨?_, part_len (by omega) (by omega)⟩
    show (rowsP.flatMap (partP (n : Int))).all may = true
    rw [hr.1, List.all_eq_true]
    exact fun x hx => (right_may (b := -1) hr.2 x hx).1

set_option maxHeartbeats 2000000 in
theorem set_any (c : Int) (w : World) : Calls Try.prog 34 #[.int .i64 c] w fun e w' => SP (setP c) w e w' ∧ right (setP c) = true ∧ (setP c).length ≤ 1001 := by
  have hb := below_new w (.cells #[.int .i64 c] 3)
  have hc := cell_new_sl w (.int .i64 c) 3
  have hz : w.heap.size < (w.alloc (.cells #[.int .i64 c] 3)).heap.size := by simp
  generalize hW : w.alloc (.cells #[.int .i64 c] 3) = W0 at *
  have HW := Lib.hid hW
  clear hW
  by_cases h0 : c = 0
  · subst h0
    have e : setP 0 = norm (notR (norm (hasR (rowsP.flatMap wholeP)))) := by unfold setP; rw [if_pos rfl]
    rw [e]
    have C := setOf_any 65 #[] (fun _ _ => by kernel_rfl) wholeP W0 (fun x hx W _ => by
      have := whole_any x.1 x.2.1 x.2.2 (row_i32 hx) W
      exact this) whole_may (by rw [whole_len]; omega)
    generalize rowsP.flatMap wholeP = T at *
    have hr := norm_right (hasR T)
    generalize norm (hasR T) = S at *
    have C2f := fun A c W (hS : SW W A c S) (hl : S.length ≤ 1000) => not_sp A c S W hS hr (by omega)
    have hr2 := norm_right (notR S)
    generalize norm (notR S) = S2 at *
    have C2f := Lib.hid C2f
    have HR2 := Lib.hid hr2
    have C := Lib.hid C
    have HB := Lib.hid hb
    clear e hr hb hz hr2
    go_enter Try.func34, Try.ntmps34
    go_wp2_with fail
    rw [HW.out]
    go_wp2_with fail
    refine C.out.mono ?_
    rintro e w1 ⟨⟨A1, c1, rfl, hS, hb1⟩, _, hl⟩
    have C2 := C2f.out A1 c1 w1 hS hl
    have HL := Lib.hid hl
    have C2 := Lib.hid C2
    have hb2 := HB.out.trans (hb1.mono HB.out.size)
    have HB2 := Lib.hid hb2
    clear hS hb1 hb2 hl
    go_wp2_with fail
    refine C2.out.mono ?_
    rintro e w2 ⟨⟨A2, c2, rfl, hS, hb1⟩, _, hl⟩
    have H := Lib.hid (And.intro hS (And.intro (HB2.out.trans (hb1.mono HB2.out.size)) (show S2.length ≤ 1001 by have := HL.out; omega)))
    clear hS hb1 hl
    go_wp2
    go_ret
    exact ⟨⟨_, _, rfl, H.out.1, H.out.2.1⟩, HR2.out, H.out.2.2⟩
  · have e : setP c = norm (hasR (rowsP.flatMap (partP c))) := by unfold setP; rw [if_neg h0]
    rw [e]
    have hp := parts_ok c h0
    have C := setOf_any 66 #[.pointer (some ⟨w.heap.size, 0, none⟩)] (fun _ _ => by kernel_rfl) (partP c) W0 (fun x hx W hbW => by
      have := pick_any x hx c w.heap.size W (by have := hbW.size; omega) ((hbW.cell (p := ⟨w.heap.size, 0, none⟩) hz).trans hc)
      exact this) hp.1 hp.2
    generalize rowsP.flatMap (partP c) = T at *
    have hr := norm_right (hasR T)
    generalize norm (hasR T) = S at *
    have C := Lib.hid C
    have HR := Lib.hid hr
    have HB := Lib.hid hb
    have d : (c == 0) = false := by simpa using h0
    clear e hr hb hz hp h0
    go_enter Try.func34, Try.ntmps34
    go_wp2_with fail
    rw [HW.out]
    go_wp2_with fail
    refine C.out.mono ?_
    rintro e w1 ⟨⟨A1, c1, rfl, hS, hb1⟩, _, hl⟩
    have H := Lib.hid (And.intro hS (And.intro (HB.out.trans (hb1.mono HB.out.size)) hl))
    clear hS hb1 hl
    go_wp2
    go_ret
    exact ⟨⟨_, _, rfl, H.out.1, H.out.2.1⟩, HR.out, by have := H.out.2.2; omega⟩
end Go.Proofs.Ytphhdkffnboboaa

