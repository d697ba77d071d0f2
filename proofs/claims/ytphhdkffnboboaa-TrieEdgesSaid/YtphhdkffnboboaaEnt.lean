/-
  Entries of a trie: which are wrong; the set of all numbers.
-/
import Derived.Shelf.SlicesQ.IndexFunc
import Derived.Test.YtphhdkffnboboaaGt
import Derived.Test.YtphhdkffnboboaaLayT
import Derived.Test.YtphhdkffnboboaaRg10
namespace Go.Proofs.Ytphhdkffnboboaa
open Go.RowKit Go.Shelf
open Go.Lib Go.Great Go.Maps

structure En where
  A : Option Addr
  cap : Nat
  xs : List Rng
  c : Int
instance : Inhabited En := ⟨⟨none, 0, [], 0⟩⟩
def cellE (e : En) : List Value := [.slice e.A e.xs.length e.cap, .int .i64 e.c]
def cls (c : Int) : Bool := decide (0 ≤ c) && decide (c ≤ 255)
/-- An entry that can't be. -/
def wrongE (e : En) : Bool := !cls e.c || !right e.xs
/-- Entries one behind the other, each with its own ranges. -/
def EnAt (w : World) (b o : Nat) (es : List En) : Prop := ∀ i e, es[i]? = some e → w.cell? ⟨b, o + i * 2, none⟩ = some (.slice e.A e.xs.length e.cap) ∧ w.cell? ⟨b, o + i * 2 + 1, none⟩ = some (.int .i64 e.c)
def ES (w : World) (B : Nat) (A : Option Addr) (cap : Nat) (es : List En) : Prop :=
  es.length ≤ cap ∧ cap ≤ maxLen ∧ (∀ e ∈ es, RS w B e.A e.cap e.xs) ∧ (es ≠ [] → ∃ b o, A = some ⟨b, o, none⟩ ∧ b < B ∧ EnAt w b o es)
theorem EnAt.below {w w' : World} {b o B : Nat} {es : List En} (h : EnAt w b o es) (hb : b < B) (hB : Below B w w') : EnAt w' b o es := fun i x hx => by
  obtain ⟨h1, h2⟩ := h i x hx
  exact ⟨(hB.cell (p := ⟨b, o + i * 2, none⟩) hb).trans h1, (hB.cell (p := ⟨b, o + i * 2 + 1, none⟩) hb).trans h2⟩
theorem ES.below {w w' : World} {B : Nat} {A : Option Addr} {cap : Nat} {es : List En} (h : ES w B A cap es) (hB : Below B w w') : ES w' B A cap es :=
  ⟨h.1, h.2.1, fun e he => (h.2.2.1 e he).below hB, fun hn => by obtain ⟨b, o, rfl, hb, hR⟩ := h.2.2.2 hn; exact ⟨b, o, rfl, hb, hR.below hb hB⟩⟩
theorem ES.mono {w : World} {B B' : Nat} {A : Option Addr} {cap : Nat} {es : List En} (h : ES w B A cap es) (hB : B ≤ B') : ES w B' A cap es :=
  ⟨h.1, h.2.1, fun e he => (h.2.2.1 e he).mono hB, fun hn => by obtain ⟨b, o, rfl, hb, hR⟩ := h.2.2.2 hn; exact ⟨b, o, rfl, by omega, hR⟩⟩

theorem isClass_any (c : Int) (w : World) : Calls Try.prog 40 #[.int .i64 c] w fun e w' => e = .returned (.bool (cls c)) ∧ w' = w := by
  unfold cls
  by_cases c1 : 0 ≤ c
  · by_cases c2 : c ≤ 255
    · go_enter Try.func40, Try.ntmps40
      go_wp2
      go_ret
      exact ⟨by simp [c1, c2], rfl⟩
    · have d : decide (c ≤ 255) = false := by simpa using c2
      go_enter Try.func40, Try.ntmps40
      go_wp2
      go_ret
      exact ⟨by simp, rfl⟩
  · have d : decide (0 ≤ c) = false := by simpa using c1
    go_enter Try.func40, Try.ntmps40
    go_wp2
    go_ret
    exact ⟨by simp, rfl⟩
set_option maxHeartbeats 1000000 in
theorem isWrong_any (x : En) (w : World) (h : RS w w.heap.size x.A x.cap x.xs) : Calls Try.prog 42 #[.agg (cellE x).toArray] w fun e w' => e = .returned (.bool (wrongE x)) ∧ Below w.heap.size w w' := by
  obtain ⟨A, cap, xs, c⟩ := x
  unfold wrongE
  show Calls Try.prog 42 #[.agg #[.slice A xs.length cap, .int .i64 c]] w _
  have h : RS w w.heap.size A cap xs := h
  have hb := below_new w (.cells #[.slice A xs.length cap, .int .i64 c] 72)
  have C1 := Lib.hid (isClass_any c)
  have C2 := Lib.hid (right_any A cap xs _ ((h.below hb).mono (by simp)))
  have HB := Lib.hid hb
  show Calls Try.prog 42 #[.agg #[.slice A xs.length cap, .int .i64 c]] w fun e w' => e = .returned (.bool (!cls c || !right xs)) ∧ Below w.heap.size w w'
  generalize right xs = ri at *
  generalize xs.length = n at *
  clear h hb
  cases hc : cls c with
  | true =>
    have C1 := Lib.hid (by rw [hc] at C1; exact C1.out)
    go_enter Try.func42, Try.ntmps42
    go_wp2_with fail
    refine (C1.out _).mono ?_
    rintro e w1 ⟨rfl, rfl⟩
    go_wp2_with fail
    refine C2.out.mono ?_
    rintro e w2 ⟨rfl, hb2⟩
    have hbz := HB.out.trans (hb2.mono HB.out.size)
    go_wp2_with fail
    go_ret
    exact ⟨by simp, hbz⟩
  | false =>
    have C1 := Lib.hid (by rw [hc] at C1; exact C1.out)
    have hbz := HB.out
    go_enter Try.func42, Try.ntmps42
    go_wp2_with fail
    refine (C1.out _).mono ?_
    rintro e w1 ⟨rfl, rfl⟩
    go_wp2_with fail
    go_ret
    exact ⟨by simp, hbz⟩
end Go.Proofs.Ytphhdkffnboboaa
