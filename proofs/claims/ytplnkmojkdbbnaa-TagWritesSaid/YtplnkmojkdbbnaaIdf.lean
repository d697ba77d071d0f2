/-
  Contracts: slices.IndexFunc over bytes, position.isDone, take, until, for each of the three functions that are asked.
-/
import Derived.Test.YtplnkmojkdbbnaaStr
namespace Go.Proofs.Ytplnkmojkdbbnaa
open Go.RowKit Go.Shelf Go.Lib Go.Maps

/-- A parser in memory: how far it has read, and what it has. -/
def PCs (b o N cap at' : Nat) (k s nm ats sg cl : Value) : Array Value := #[.slice (some ⟨b, o, none⟩) N cap, .int .i64 (at' : Int), k, s, nm, ats, sg, cl]
theorem Fz.cells {X : Nat → Prop} {w w' : World} {g t : Nat} {cs : Array Value} (h : Fz X w w') (hg : ¬ X g) (hc : Cells w g t cs) : Cells w' g t cs := (h.block g hc.lt hg).trans hc
theorem Fz.drewN {X : Nat → Prop} {w w' : World} (h : Fz X w w') (n : Nat) : Fz X w (w'.drewN n) := ⟨h.os, h.tape, h.output, h.size, h.block⟩
theorem BY.fz {X : Nat → Prop} {w w' : World} {B : Nat} {xs : List Nat} {A : Option Addr} {cap : Nat} (h : BY w B xs A cap) (hf : Fz X w w') (hB : B ≤ w.heap.size) (hX : ∀ k, k < B → ¬ X k) : BY w' B xs A cap := h.below (hf.below hB hX)

set_option maxHeartbeats 4000000 in
set_option maxRecDepth 100000 in
theorem idx35_any (c0 : Addr) (p : Nat → Bool) (xs : List Nat) (A : Option Addr) (cap : Nat) (w : World) (h : BY w w.heap.size xs A cap)
    (K : ∀ W, Below w.heap.size w W → ∀ c : Nat, c < 256 → Calls Try.prog 35 #[.int .u8 (c : Int), .pointer (some c0)] W fun e w' => e = .returned (.bool (p c)) ∧ Below W.heap.size W w') :
    Calls Try.prog 51 #[.slice A xs.length cap, .func (Fn.func 35) #[] #[.pointer (some c0)]] w fun e w' => e = .returned (.int .i64 (idxL p xs)) ∧ Below w.heap.size w w' := by
  have hlen := h.len
  obtain ⟨N, hN⟩ : ∃ N, xs.length = N := ⟨_, rfl⟩
  rw [hN] at hlen ⊢
  have HH := Lib.hid (And.intro h (And.intro hN K))
  clear h hN K
  go_enter Try.func51, Try.ntmps51
  go_wp2_with fail
  go_loopw [5, 8] (fun _ i wr => ∃ k : Nat, i = .int .i64 (k : Int) ∧ k ≤ N ∧ (∀ (j : Nat) (y : Nat), j < k → xs[j]? = some y → p y = false) ∧ Below w.heap.size w wr) (fun _ i _ => N - (RowKit.intOf i).toNat)
  case atStart => exact ⟨0, by go_num, by omega, fun j y hj => absurd hj (by omega), Below.refl _ _⟩
  case round =>
    obtain ⟨k, rfl, hk, hj, hb⟩ := hrel
    by_cases hlt : k < N
    case neg =>
      obtain rfl : k = N := by omega
      have he := idxL_none (p := p) (l := xs) fun j x hx => hj j x (by have := (List.getElem?_eq_some_iff.1 hx).1; rw [HH.out.2.1] at this; exact this) hx
      have HE := Lib.hid (And.intro he hb)
      clear he hj hb
      go_wp2_with fail
      go_ret
      exact ⟨by rw [HE.out.1]; rfl, HE.out.2⟩
    have i1 : (k : Int) < (N : Int) := by omega
    obtain ⟨x, hx⟩ := at_lt (l := xs) (k := k) (by rw [HH.out.2.1]; exact hlt)
    have hx256 := HH.out.1.lt hx
    obtain ⟨b, o, rfl, hbl, d0⟩ := (HH.out.1.on hb).at hx
    have C := HH.out.2.2 wr hb x hx256
    obtain ⟨X, hX⟩ : ∃ X : Int, (x : Int) = X := ⟨_, rfl⟩
    rw [hX] at d0 C
    have HK := Lib.hid (And.intro C (And.intro hb (And.intro hj hx)))
    clear C hb hj hx hX hbl hx256
    go_wp2_with fail
    refine HK.out.1.mono ?_
    rintro r w2 ⟨rfl, hb2⟩
    have b2 := HK.out.2.1.trans (hb2.mono HK.out.2.1.size)
    cases hp : p x with
    | true =>
      have he := idxL_some (p := p) HK.out.2.2.2 hp HK.out.2.2.1
      have HE := Lib.hid (And.intro he b2)
      clear hp he b2 hb2 d0
      go_wp2_with fail
      go_ret
      exact ⟨by rw [HE.out.1]; rfl, HE.out.2⟩
    | false =>
      have hend : ∀ (j : Nat) (y : Nat), j < k + 1 → xs[j]? = some y → p y = false := fun j y hj hy => by
        by_cases h : j = k
        · subst h
          have := hy.symm.trans HK.out.2.2.2
          injection this with this
          rw [this]
          exact hp
        · exact HK.out.2.2.1 j y (by omega) hy
      have HE := Lib.hid (And.intro hend b2)
      clear hp hend b2 hb2 d0
      go_wp2_with fail
      go_roundw
      case rel => exact ⟨k + 1, by go_num, by omega, HE.out.1, HE.out.2⟩
      case measure => simp [RowKit.intOf]; omega

set_option maxHeartbeats 4000000 in
set_option maxRecDepth 100000 in
theorem idx52_any (c0 : Addr) (p : Nat → Bool) (xs : List Nat) (A : Option Addr) (cap : Nat) (w : World) (h : BY w w.heap.size xs A cap)
    (K : ∀ W, Below w.heap.size w W → ∀ c : Nat, c < 256 → Calls Try.prog 52 #[.int .u8 (c : Int), .pointer (some c0)] W fun e w' => e = .returned (.bool (p c)) ∧ Below W.heap.size W w') :
    Calls Try.prog 51 #[.slice A xs.length cap, .func (Fn.func 52) #[] #[.pointer (some c0)]] w fun e w' => e = .returned (.int .i64 (idxL p xs)) ∧ Below w.heap.size w w' := by
  have hlen := h.len
  obtain ⟨N, hN⟩ : ∃ N, xs.length = N := ⟨_, rfl⟩
  rw [hN] at hlen ⊢
  have HH := Lib.hid (And.intro h (And.intro hN K))
  clear h hN K
  go_enter Try.func51, Try.ntmps51
  go_wp2_with fail
  go_loopw [5, 8] (fun _ i wr => ∃ k : Nat, i = .int .i64 (k : Int) ∧ k ≤ N ∧ (∀ (j : Nat) (y : Nat), j < k → xs[j]? = some y → p y = false) ∧ Below w.heap.size w wr) (fun _ i _ => N - (RowKit.intOf i).toNat)
  case atStart => exact ⟨0, by go_num, by omega, fun j y hj => absurd hj (by omega), Below.refl _ _⟩
  case round =>
    obtain ⟨k, rfl, hk, hj, hb⟩ := hrel
    by_cases hlt : k < N
    case neg =>
      obtain rfl : k = N := by omega
      have he := idxL_none (p := p) (l := xs) fun j x hx => hj j x (by have := (List.getElem?_eq_some_iff.1 hx).1; rw [HH.out.2.1] at this; exact this) hx
      have HE := Lib.hid (And.intro he hb)
      clear he hj hb
      go_wp2_with fail
      go_ret
      exact ⟨by rw [HE.out.1]; rfl, HE.out.2⟩
    have i1 : (k : Int) < (N : Int) := by omega
    obtain ⟨x, hx⟩ := at_lt (l := xs) (k := k) (by rw [HH.out.2.1]; exact hlt)
    have hx256 := HH.out.1.lt hx
    obtain ⟨b, o, rfl, hbl, d0⟩ := (HH.out.1.on hb).at hx
    have C := HH.out.2.2 wr hb x hx256
    obtain ⟨X, hX⟩ : ∃ X : Int, (x : Int) = X := ⟨_, rfl⟩
    rw [hX] at d0 C
    have HK := Lib.hid (And.intro C (And.intro hb (And.intro hj hx)))
    clear C hb hj hx hX hbl hx256
    go_wp2_with fail
    refine HK.out.1.mono ?_
    rintro r w2 ⟨rfl, hb2⟩
    have b2 := HK.out.2.1.trans (hb2.mono HK.out.2.1.size)
    cases hp : p x with
    | true =>
      have he := idxL_some (p := p) HK.out.2.2.2 hp HK.out.2.2.1
      have HE := Lib.hid (And.intro he b2)
      clear hp he b2 hb2 d0
      go_wp2_with fail
      go_ret
      exact ⟨by rw [HE.out.1]; rfl, HE.out.2⟩
    | false =>
      have hend : ∀ (j : Nat) (y : Nat), j < k + 1 → xs[j]? = some y → p y = false := fun j y hj hy => by
        by_cases h : j = k
        · subst h
          have := hy.symm.trans HK.out.2.2.2
          injection this with this
          rw [this]
          exact hp
        · exact HK.out.2.2.1 j y (by omega) hy
      have HE := Lib.hid (And.intro hend b2)
      clear hp hend b2 hb2 d0
      go_wp2_with fail
      go_roundw
      case rel => exact ⟨k + 1, by go_num, by omega, HE.out.1, HE.out.2⟩
      case measure => simp [RowKit.intOf]; omega

set_option maxHeartbeats 4000000 in
set_option maxRecDepth 100000 in
theorem idx53_any (c0 : Addr) (p : Nat → Bool) (xs : List Nat) (A : Option Addr) (cap : Nat) (w : World) (h : BY w w.heap.size xs A cap)
    (K : ∀ W, Below w.heap.size w W → ∀ c : Nat, c < 256 → Calls Try.prog 53 #[.int .u8 (c : Int), .pointer (some c0)] W fun e w' => e = .returned (.bool (p c)) ∧ Below W.heap.size W w') :
    Calls Try.prog 51 #[.slice A xs.length cap, .func (Fn.func 53) #[] #[.pointer (some c0)]] w fun e w' => e = .returned (.int .i64 (idxL p xs)) ∧ Below w.heap.size w w' := by
  have hlen := h.len
  obtain ⟨N, hN⟩ : ∃ N, xs.length = N := ⟨_, rfl⟩
  rw [hN] at hlen ⊢
  have HH := Lib.hid (And.intro h (And.intro hN K))
  clear h hN K
  go_enter Try.func51, Try.ntmps51
  go_wp2_with fail
  go_loopw [5, 8] (fun _ i wr => ∃ k : Nat, i = .int .i64 (k : Int) ∧ k ≤ N ∧ (∀ (j : Nat) (y : Nat), j < k → xs[j]? = some y → p y = false) ∧ Below w.heap.size w wr) (fun _ i _ => N - (RowKit.intOf i).toNat)
  case atStart => exact ⟨0, by go_num, by omega, fun j y hj => absurd hj (by omega), Below.refl _ _⟩
  case round =>
    obtain ⟨k, rfl, hk, hj, hb⟩ := hrel
    by_cases hlt : k < N
    case neg =>
      obtain rfl : k = N := by omega
      have he := idxL_none (p := p) (l := xs) fun j x hx => hj j x (by have := (List.getElem?_eq_some_iff.1 hx).1; rw [HH.out.2.1] at this; exact this) hx
      have HE := Lib.hid (And.intro he hb)
      clear he hj hb
      go_wp2_with fail
      go_ret
      exact ⟨by rw [HE.out.1]; rfl, HE.out.2⟩
    have i1 : (k : Int) < (N : Int) := by omega
    obtain ⟨x, hx⟩ := at_lt (l := xs) (k := k) (by rw [HH.out.2.1]; exact hlt)
    have hx256 := HH.out.1.lt hx
    obtain ⟨b, o, rfl, hbl, d0⟩ := (HH.out.1.on hb).at hx
    have C := HH.out.2.2 wr hb x hx256
    obtain ⟨X, hX⟩ : ∃ X : Int, (x : Int) = X := ⟨_, rfl⟩
    rw [hX] at d0 C
    have HK := Lib.hid (And.intro C (And.intro hb (And.intro hj hx)))
    clear C hb hj hx hX hbl hx256
    go_wp2_with fail
    refine HK.out.1.mono ?_
    rintro r w2 ⟨rfl, hb2⟩
    have b2 := HK.out.2.1.trans (hb2.mono HK.out.2.1.size)
    cases hp : p x with
    | true =>
      have he := idxL_some (p := p) HK.out.2.2.2 hp HK.out.2.2.1
      have HE := Lib.hid (And.intro he b2)
      clear hp he b2 hb2 d0
      go_wp2_with fail
      go_ret
      exact ⟨by rw [HE.out.1]; rfl, HE.out.2⟩
    | false =>
      have hend : ∀ (j : Nat) (y : Nat), j < k + 1 → xs[j]? = some y → p y = false := fun j y hj hy => by
        by_cases h : j = k
        · subst h
          have := hy.symm.trans HK.out.2.2.2
          injection this with this
          rw [this]
          exact hp
        · exact HK.out.2.2.1 j y (by omega) hy
      have HE := Lib.hid (And.intro hend b2)
      clear hp hend b2 hb2 d0
      go_wp2_with fail
      go_roundw
      case rel => exact ⟨k + 1, by go_num, by omega, HE.out.1, HE.out.2⟩
      case measure => simp [RowKit.intOf]; omega
end Go.Proofs.Ytplnkmojkdbbnaa
