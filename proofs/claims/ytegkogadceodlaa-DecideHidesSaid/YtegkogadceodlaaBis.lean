/-
  Contract: Bools.Is; lists of bools as they lie.
-/
import Derived.BigQuiet
import Derived.Test.YtegkogadceodlaaHol
namespace Go.Proofs.Ytegkogadceodlaa
open Go.RowKit Go.Shelf Go.Lib

/-- A list of bools, as it lies. -/
structure BS (w : World) (B : Nat) (xs : List Bool) (A : Option Addr) (cap : Nat) : Prop where
  l : xs.length ≤ cap
  m : cap ≤ maxLen
  r : xs ≠ [] → ∃ b o, A = some ⟨b, o, none⟩ ∧ b < B ∧ ∀ (i : Nat) x, xs[i]? = some x → w.cell? ⟨b, o + i, none⟩ = some (.bool x)
theorem BS.below {w w' : World} {B : Nat} {xs : List Bool} {A : Option Addr} {cap : Nat} (h : BS w B xs A cap) (hb : Below B w w') : BS w' B xs A cap :=
  ⟨h.l, h.m, fun hne => by
    obtain ⟨b, o, rfl, hl, hr⟩ := h.r hne
    exact ⟨b, o, rfl, hl, fun i x hx => (hb.cell (p := ⟨b, _, none⟩) hl).trans (hr i x hx)⟩⟩
theorem BS.mono {w : World} {B B' : Nat} {xs : List Bool} {A : Option Addr} {cap : Nat} (h : BS w B xs A cap) (hB : B ≤ B') : BS w B' xs A cap :=
  ⟨h.l, h.m, fun hne => by
    obtain ⟨b, o, rfl, hl, hr⟩ := h.r hne
    exact ⟨b, o, rfl, by omega, hr⟩⟩
theorem BS.on {w w' : World} {xs : List Bool} {A : Option Addr} {cap : Nat} (h : BS w w.heap.size xs A cap) (hb : Below w.heap.size w w') : BS w' w'.heap.size xs A cap := (h.below hb).mono hb.size
theorem BS.len {w : World} {B : Nat} {xs : List Bool} {A : Option Addr} {cap : Nat} (h : BS w B xs A cap) : xs.length ≤ 9223372036854775807 := by have := h.l; have := h.m; unfold maxLen at this; omega
set_option maxRecDepth 100000 in
set_option maxHeartbeats 4000000 in
theorem is_any (xs ys : List Bool) (A1 A2 : Option Addr) (c1 c2 : Nat) (w : World) (h1 : BS w w.heap.size xs A1 c1) (h2 : BS w w.heap.size ys A2 c2) :
    Calls Try.prog 28 #[.slice A1 xs.length c1, .slice A2 ys.length c2] w fun e w' => e = .returned (.bool (decide (xs = ys))) ∧ Below w.heap.size w w' := by
  have l1 := h1.len
  have l2 := h2.len
  obtain ⟨n, hn⟩ : ∃ n, xs.length = n := ⟨_, rfl⟩
  obtain ⟨m, hm⟩ : ∃ m, ys.length = m := ⟨_, rfl⟩
  obtain ⟨R, hR⟩ : ∃ R, decide (xs = ys) = R := ⟨_, rfl⟩
  rw [hn] at l1 ⊢
  rw [hm] at l2 ⊢
  rw [hR]
  have HH := Lib.hid (And.intro h1 (And.intro h2 (And.intro hn (And.intro hm hR))))
  clear h1 h2 hn hm hR
  by_cases hnm : n = m
  case neg =>
    have i1 : ¬ (n : Int) = (m : Int) := by omega
    have hf : R = false := by
      rw [← HH.out.2.2.2.2, decide_eq_false_iff_not]
      intro e
      have := HH.out.2.2.1
      rw [e, HH.out.2.2.2.1] at this
      omega
    subst hf
    clear hnm
    go_enter Try.func28, Try.ntmps28
    go_wp2
    go_ret
    exact ⟨rfl, Below.refl _ _⟩
  case pos =>
    subst hnm
    clear l2
    go_enter Try.func28, Try.ntmps28
    go_wp2_with fail
    go_loopw [5] (fun i wr => ∃ k : Nat, i = .int .i64 k ∧ k ≤ n ∧ xs.take k = ys.take k ∧ Below w.heap.size w wr) (fun i _ => n - (RowKit.intOf i).toNat)
    case atStart => exact ⟨0, rfl, Nat.zero_le _, by simp, Below.refl _ _⟩
    case round =>
      obtain ⟨k, rfl, hkn, heq, hb⟩ := hrel
      by_cases hlt : k < n
      · obtain ⟨x, hx⟩ : ∃ x, xs[k]? = some x := ⟨xs[k]'(by rw [HH.out.2.2.1]; exact hlt), List.getElem?_eq_getElem _⟩
        obtain ⟨y, hy⟩ : ∃ y, ys[k]? = some y := ⟨ys[k]'(by rw [HH.out.2.2.2.1]; exact hlt), List.getElem?_eq_getElem _⟩
        have i1 : (k : Int) < (n : Int) := by omega
        obtain ⟨b1, o1, rfl, hl1, hr1⟩ := (HH.out.1.below hb).r (by rintro e; rw [e] at hx; simp at hx)
        obtain ⟨b2, o2, rfl, hl2, hr2⟩ := (HH.out.2.1.below hb).r (by rintro e; rw [e] at hy; simp at hy)
        have k1 := hr1 k x hx
        have k2 := hr2 k y hy
        have HB := Lib.hid (And.intro hb (And.intro heq (And.intro hx hy)))
        clear hr1 hr2 hb heq hx hy
        by_cases hxy : x = y
        · subst hxy
          go_wp2_with go_quiet (fail)
          go_roundw
          case rel => exact ⟨k + 1, by go_num, by omega, by rw [List.take_add_one, List.take_add_one, HB.out.2.1, HB.out.2.2.1, HB.out.2.2.2], below_drewN HB.out.1 _⟩
          case measure => simp [RowKit.intOf]; omega
        · have hf : R = false := by
            rw [← HH.out.2.2.2.2, decide_eq_false_iff_not]
            intro e
            have h3 := HB.out.2.2.1
            rw [e, HB.out.2.2.2] at h3
            injection h3 with h3
            exact hxy h3.symm
          have nxy : (x == y) = false := by simpa using hxy
          subst hf
          go_wp2_with go_quiet (fail)
          go_ret
          exact ⟨rfl, below_drewN HB.out.1 _⟩
      · have hkn' : k = n := by omega
        subst hkn'
        have i1 : ¬ (k : Int) < (k : Int) := by omega
        have e1 : xs.take k = xs := by rw [← HH.out.2.2.1, List.take_length]
        have e2 : ys.take k = ys := by rw [← HH.out.2.2.2.1, List.take_length]
        rw [e1, e2] at heq
        have ht : R = true := by rw [← HH.out.2.2.2.2, decide_eq_true heq]
        subst ht
        have HB := Lib.hid hb
        clear hb heq e1 e2
        go_wp2
        go_ret
        exact ⟨rfl, HB.out⟩
end Go.Proofs.Ytegkogadceodlaa
