/-
  A meaning as it lies in memory; contracts: slices.IndexFunc, ContainsFunc at rules; areClasses; rule.Right.
-/
import Derived.Test.YtegkogadceodlaaRul
namespace Go.Proofs.Ytegkogadceodlaa
open Go.RowKit Go.Shelf Go.Lib

/-- A slice of rules. -/
structure RsAt (w : World) (B : Nat) (rs : List Ru) (A : Option Addr) (cap : Nat) : Prop where
  l : rs.length ≤ cap
  m : cap ≤ maxLen
  r : rs ≠ [] → ∃ b o, A = some ⟨b, o, none⟩ ∧ b < B ∧ ∀ i x, rs[i]? = some x → ∃ A1 c1 A2 c2,
    (w.cell? ⟨b, o + i * 7, none⟩ = some (.int .i64 x.l.k) ∧ w.cell? ⟨b, o + i * 7 + 1, none⟩ = some (.int .i64 x.l.c) ∧ w.cell? ⟨b, o + i * 7 + 2, none⟩ = some (.slice A1 x.l.ks.length c1) ∧
      w.cell? ⟨b, o + i * 7 + 3, none⟩ = some (.int .i64 x.r.k) ∧ w.cell? ⟨b, o + i * 7 + 4, none⟩ = some (.int .i64 x.r.c) ∧ w.cell? ⟨b, o + i * 7 + 5, none⟩ = some (.slice A2 x.r.ks.length c2) ∧ w.cell? ⟨b, o + i * 7 + 6, none⟩ = some (.bool x.b)) ∧
    RuV w B x (.agg #[.int .i64 x.l.k, .int .i64 x.l.c, .slice A1 x.l.ks.length c1, .int .i64 x.r.k, .int .i64 x.r.c, .slice A2 x.r.ks.length c2, .bool x.b])
theorem RsAt.below {w w' : World} {B : Nat} {rs : List Ru} {A : Option Addr} {cap : Nat} (h : RsAt w B rs A cap) (hb : Below B w w') : RsAt w' B rs A cap :=
  ⟨h.l, h.m, fun hne => by
    obtain ⟨b, o, rfl, hl, hr⟩ := h.r hne
    refine ⟨b, o, rfl, hl, fun i x hx => ?_⟩
    obtain ⟨A1, c1, A2, c2, ⟨k0, k1, k2, k3, k4, k5, k6⟩, hv⟩ := hr i x hx
    have f : ∀ j v, w.cell? ⟨b, j, none⟩ = some v → w'.cell? ⟨b, j, none⟩ = some v := fun j v hv => (hb.cell (p := ⟨b, j, none⟩) hl).trans hv
    exact ⟨A1, c1, A2, c2, ⟨f _ _ k0, f _ _ k1, f _ _ k2, f _ _ k3, f _ _ k4, f _ _ k5, f _ _ k6⟩, hv.below hb⟩⟩
theorem RsAt.mono {w : World} {B B' : Nat} {rs : List Ru} {A : Option Addr} {cap : Nat} (h : RsAt w B rs A cap) (hB : B ≤ B') : RsAt w B' rs A cap :=
  ⟨h.l, h.m, fun hne => by
    obtain ⟨b, o, rfl, hl, hr⟩ := h.r hne
    refine ⟨b, o, rfl, by omega, fun i x hx => ?_⟩
    obtain ⟨A1, c1, A2, c2, hc, hv⟩ := hr i x hx
    exact ⟨A1, c1, A2, c2, hc, hv.mono hB⟩⟩
theorem RsAt.on {w w' : World} {rs : List Ru} {A : Option Addr} {cap : Nat} (h : RsAt w w.heap.size rs A cap) (hb : Below w.heap.size w w') : RsAt w' w'.heap.size rs A cap := (h.below hb).mono hb.size
theorem RsAt.len {w : World} {B : Nat} {rs : List Ru} {A : Option Addr} {cap : Nat} (h : RsAt w B rs A cap) : rs.length ≤ 9223372036854775807 := by have := h.l; have := h.m; unfold maxLen at this; omega

set_option maxHeartbeats 4000000 in
theorem indexR_any (rs : List Ru) (A : Option Addr) (cap : Nat) (w : World) (h : RsAt w w.heap.size rs A cap) :
    Calls Try.prog 85 #[.slice A rs.length cap, .func (.func 56) #[] #[]] w fun r w' => (∃ i : Int, r = .returned (.int .i64 i) ∧ (0 ≤ i ↔ rs.all rightR = false)) ∧ Below w.heap.size w w' := by
  have hl := h.len
  obtain ⟨AL, hAL⟩ : ∃ AL, rs.all rightR = AL := ⟨_, rfl⟩
  rw [hAL]
  have HA := Lib.hid hAL
  clear hAL
  obtain ⟨n, hn⟩ : ∃ n, rs.length = n := ⟨_, rfl⟩
  rw [hn] at hl ⊢
  have HK := Lib.hid h
  have HN := Lib.hid hn
  clear h hn
  go_enter Try.func85, Try.ntmps85
  go_wp2_with fail
  go_loopw [5, 8] (fun _ i wr => ∃ k : Nat, i = .int .i64 k ∧ k ≤ n ∧ (rs.take k).all rightR = true ∧ Below w.heap.size w wr) (fun _ i _ => n - (RowKit.intOf i).toNat)
  case atStart => exact ⟨0, rfl, Nat.zero_le _, by simp, Below.refl _ _⟩
  case round =>
    obtain ⟨k, rfl, hkn, hyes, hb⟩ := hrel
    by_cases hlt : k < n
    · obtain ⟨x, hx⟩ : ∃ x, rs[k]? = some x := ⟨rs[k]'(by rw [HN.out]; exact hlt), List.getElem?_eq_getElem _⟩
      have i1 : (k : Int) < (n : Int) := by omega
      obtain ⟨b, o, rfl, hbl, hr⟩ := (HK.out.on hb).r (by rintro rfl; simp at hx)
      obtain ⟨A1, c1, A2, c2, ⟨k0, k1, k2, k3, k4, k5, k6⟩, hv⟩ := hr k x hx
      have C := rightN_any x _ wr hv
      have hs : (rs.take (k + 1)).all rightR = rightR x := by rw [List.take_add_one, hx, List.all_append, hyes]; simp
      have hst : rightR x = false → AL = false := fun hf => by
        rw [← HA.out, ← List.take_append_drop (k + 1) rs, List.all_append, hs, hf, Bool.false_and]
      generalize rightR x = R at *
      have HC := Lib.hid C
      have HH := Lib.hid (And.intro hs (And.intro hst (And.intro hb hlt)))
      clear C hs hst hb hr hv hyes hx
      go_wp2_with fail
      refine HC.out.mono ?_
      rintro r w1 ⟨rfl, hb1⟩
      have HB := Lib.hid (HH.out.2.2.1.trans (hb1.mono HH.out.2.2.1.size))
      clear hb1
      cases R
      · have HF := Lib.hid (HH.out.2.1 rfl)
        go_wp2
        go_ret
        exact ⟨⟨_, rfl, ⟨fun _ => HF.out, fun _ => by omega⟩⟩, HB.out⟩
      · go_wp2
        go_roundw
        case rel => exact ⟨k + 1, by go_num, by omega, HH.out.1, HB.out⟩
        case measure => simp [RowKit.intOf]; omega
    · have hkn : k = n := by omega
      subst hkn
      have i1 : ¬ (k : Int) < (k : Int) := by omega
      have ht : rs.take k = rs := by rw [← HN.out, List.take_length]
      rw [ht, HA.out] at hyes
      have HY := Lib.hid (And.intro hyes hb)
      clear hyes hb ht
      go_wp2
      go_ret
      exact ⟨⟨_, rfl, ⟨fun h => absurd h (by decide), fun h => absurd (HY.out.1.symm.trans h) (by decide)⟩⟩, HY.out.2⟩
theorem containsR_any (rs : List Ru) (A : Option Addr) (cap : Nat) (w : World) (h : RsAt w w.heap.size rs A cap) :
    Calls Try.prog 55 #[.slice A rs.length cap, .func (.func 56) #[] #[]] w fun r w' => r = .returned (.bool (!rs.all rightR)) ∧ Below w.heap.size w w' := by
  have C := Lib.hid (indexR_any rs A cap w h)
  generalize rs.length = n at *
  have hR : ∀ i : Int, (0 ≤ i ↔ rs.all rightR = false) → decide (0 ≤ i) = !rs.all rightR := fun i hi => by rw [Bool.eq_iff_iff]; simpa using hi
  generalize rs.all rightR = R at *
  have HR := Lib.hid hR
  clear h hR
  go_enter Try.func55, Try.ntmps55
  go_wp2_with fail
  refine C.out.mono ?_
  rintro r w1 ⟨⟨i, rfl, hj⟩, hb⟩
  have hi := HR.out i hj
  clear hj
  go_wp2
  go_ret
  exact ⟨rfl, hb⟩

/-- Are numbers classes that rise? -/
def risesL : Int → List Int → Bool
  | _, [] => true
  | p, x :: r => decide (p < x) && decide (x < 36) && risesL x r
def rises (xs : List Int) : Bool := risesL (-1) xs
theorem risesL_take (p : Int) (xs : List Int) (k : Nat) (x : Int) (h : xs[k]? = some x) : risesL p (xs.take (k + 1)) = (risesL p (xs.take k) && (decide ((xs.take k).getLast?.getD p < x) && decide (x < 36))) := by
  induction xs generalizing p k with
  | nil => simp at h
  | cons a r ih =>
    cases k with
    | zero =>
      obtain rfl : a = x := by simpa using h
      show (decide (p < a) && decide (a < 36) && true) = (true && (decide (p < a) && decide (a < 36)))
      rw [Bool.and_true, Bool.true_and]
    | succ k =>
      have := ih a k (by simpa using h)
      show (decide (p < a) && decide (a < 36) && risesL a (r.take (k + 1))) = (decide (p < a) && decide (a < 36) && risesL a (r.take k) && _)
      rw [this]
      have e : (List.take (k + 1) (a :: r)).getLast?.getD p = (r.take k).getLast?.getD a := by
        rw [List.take_succ_cons, List.getLast?_cons]
        simp
      rw [e]
      simp [Bool.and_assoc]
theorem risesL_stop (p : Int) (xs : List Int) (k : Nat) (h : risesL p (xs.take k) = false) : risesL p xs = false := by
  induction xs generalizing p k with
  | nil => simp [risesL] at h
  | cons a r ih =>
    cases k with
    | zero => simp [risesL] at h
    | succ k =>
      have h' : (decide (p < a) && decide (a < 36) && risesL a (r.take k)) = false := h
      show (decide (p < a) && decide (a < 36) && risesL a r) = false
      by_cases hc : (decide (p < a) && decide (a < 36)) = true
      · rw [hc, Bool.true_and] at h' ⊢
        exact ih a k h'
      · rw [Bool.not_eq_true] at hc
        rw [hc, Bool.false_and]

set_option maxHeartbeats 4000000 in
theorem areClasses_any (xs : List Int) (A : Option Addr) (cap : Nat) (w : World) (h : IS w w.heap.size xs A cap) :
    Calls Try.prog 54 #[.slice A xs.length cap] w fun r w' => r = .returned (.bool (rises xs)) ∧ w' = w := by
  have hl := h.len
  obtain ⟨R, hR⟩ : ∃ R, rises xs = R := ⟨_, rfl⟩
  obtain ⟨n, hn⟩ : ∃ n, xs.length = n := ⟨_, rfl⟩
  rw [hn] at hl ⊢
  rw [hR]
  have HK := Lib.hid h
  have HN := Lib.hid hn
  have HR := Lib.hid hR
  clear h hn hR
  go_enter Try.func54, Try.ntmps54
  go_wp2_with fail
  go_loopw [3, 5, 8] (fun l _ i wr => ∃ k : Nat, i = .int .i64 k ∧ k ≤ n ∧ l = .int .i64 ((xs.take k).getLast?.getD (-1)) ∧ risesL (-1) (xs.take k) = true ∧ wr = w) (fun _ _ i _ => n - (RowKit.intOf i).toNat)
  case atStart => exact ⟨0, rfl, Nat.zero_le _, by simp, rfl, rfl⟩
  case round =>
    obtain ⟨k, rfl, hkn, rfl, hyes, rfl⟩ := hrel
    by_cases hlt : k < n
    · obtain ⟨x, hx⟩ : ∃ x, xs[k]? = some x := ⟨xs[k]'(by rw [HN.out]; exact hlt), List.getElem?_eq_getElem _⟩
      have i1 : (k : Int) < (n : Int) := by omega
      obtain ⟨b, o, rfl, hbl, hr⟩ := HK.out.r (by rintro rfl; simp at hx)
      have d0 := hr k x hx
      have hs := risesL_take (-1) xs k x hx
      rw [hyes, Bool.true_and] at hs
      have hst := risesL_stop (-1) xs (k + 1)
      have hla : (xs.take (k + 1)).getLast?.getD (-1) = x := by rw [List.take_add_one, hx]; simp
      generalize (xs.take k).getLast?.getD (-1) = la at *
      by_cases h1 : x ≤ la
      · have hf : R = false := by rw [← HR.out]; refine hst ?_; rw [hs, decide_eq_false (by omega), Bool.false_and]
        subst hf
        clear hs hst hla hx hr hyes
        go_wp2
        go_ret
        exact ⟨rfl, rfl⟩
      · have e1 : decide (x ≤ la) = false := by simp; omega
        by_cases h2 : 36 ≤ x
        · have hf : R = false := by rw [← HR.out]; refine hst ?_; rw [hs, decide_eq_false (show ¬ x < 36 by omega), Bool.and_false]
          subst hf
          clear hs hst hla hx hr hyes h1
          go_wp2
          go_ret
          exact ⟨rfl, rfl⟩
        · have e2 : decide (36 ≤ x) = false := by simp; omega
          have hy : risesL (-1) (xs.take (k + 1)) = true := by rw [hs, decide_eq_true (show la < x by omega), decide_eq_true (show x < 36 by omega)]; rfl
          have HZ := Lib.hid (And.intro hla hy)
          clear hs hst hla hx hr hyes h1 h2 hy
          go_wp2
          go_roundw
          case rel => exact ⟨k + 1, by go_num, by omega, by rw [HZ.out.1], HZ.out.2, trivial⟩
          case measure => simp [RowKit.intOf]; omega
    · have hkn : k = n := by omega
      subst hkn
      have i1 : ¬ (k : Int) < (k : Int) := by omega
      have ht : xs.take k = xs := by rw [← HN.out, List.take_length]
      rw [ht] at hyes
      have hf : R = true := by rw [← HR.out]; exact hyes
      subst hf
      clear hyes ht
      go_wp2
      go_ret
      exact ⟨rfl, rfl⟩
end Go.Proofs.Ytegkogadceodlaa
