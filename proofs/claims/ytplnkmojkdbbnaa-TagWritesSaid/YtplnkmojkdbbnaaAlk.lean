/-
  Attributes as they lie; contract: alike, of one mark.
-/
import Derived.Test.YtplnkmojkdbbnaaRdt
namespace Go.Proofs.Ytplnkmojkdbbnaa
open Go.RowKit Go.Shelf Go.Lib Go.Maps Go.Sort

/-- Attributes somewhere. -/
structure AS (w : World) (B : Nat) (l : List AT) (A : Option Addr) (c : Nat) : Prop where
  le : l.length ≤ c
  mx : c ≤ maxLen
  r : ∀ (i : Nat) (a : AT), l[i]? = some a → ∃ b o, A = some ⟨b, o, none⟩ ∧ b < B ∧ w.cell? ⟨b, o + i * 2, none⟩ = some (.string ⟨(u8s a.1).toArray⟩) ∧ w.cell? ⟨b, o + (i * 2 + 1), none⟩ = some (.string ⟨(u8s a.2).toArray⟩)
theorem AS.below {w w' : World} {B : Nat} {l : List AT} {A : Option Addr} {c : Nat} (h : AS w B l A c) (hb : Below B w w') : AS w' B l A c :=
  ⟨h.le, h.mx, fun i a ha => by
    obtain ⟨b, o, e, h1, h2, h3⟩ := h.r i a ha
    exact ⟨b, o, e, h1, (hb.cell (p := ⟨b, _, none⟩) h1).trans h2, (hb.cell (p := ⟨b, _, none⟩) h1).trans h3⟩⟩
theorem AS.mono {w : World} {B B' : Nat} {l : List AT} {A : Option Addr} {c : Nat} (h : AS w B l A c) (hB : B ≤ B') : AS w B' l A c :=
  ⟨h.le, h.mx, fun i a ha => by
    obtain ⟨b, o, e, h1, h2, h3⟩ := h.r i a ha
    exact ⟨b, o, e, by omega, h2, h3⟩⟩
theorem AS.on {w w' : World} {l : List AT} {A : Option Addr} {c : Nat} (h : AS w w.heap.size l A c) (hb : Below w.heap.size w w') : AS w' w'.heap.size l A c := (h.below hb).mono hb.size
theorem attsC_at : ∀ (l : List AT) (i : Nat) (a : AT), l[i]? = some a → (attsC l)[i * 2]? = some (strV a.1) ∧ (attsC l)[i * 2 + 1]? = some (strV a.2)
  | [], i, a, h => by simp at h
  | x :: l, 0, a, h => by
    simp at h
    subst h
    exact ⟨rfl, rfl⟩
  | x :: l, i + 1, a, h => by
    have ih := attsC_at l i a (by simpa using h)
    have e1 : (i + 1) * 2 = i * 2 + 1 + 1 := by omega
    have e2 : attsC (x :: l) = strV x.1 :: strV x.2 :: attsC l := rfl
    rw [e1, e2]
    exact ih
theorem AS.of_own {w : World} {base e : Nat} {l : List AT} {v : Value} (h : w.ownsRow base e 2 v l.length (attsC l)) : ∃ A c, v = .slice A l.length c ∧ AS w w.heap.size l A c := by
  rcases h.2 with ⟨h1, h2⟩ | ⟨g, cap, cur, h1, h2, h3, h4, h5, h6, h7⟩
  · have hn : l = [] := List.eq_nil_of_length_eq_zero h2
    subst hn
    exact ⟨none, 0, by rw [h1]; rfl, ⟨Nat.le_refl _, by unfold maxLen; omega, fun i a ha => by simp at ha⟩⟩
  · refine ⟨_, cap, h1, ⟨h4, h5, fun i a ha => ⟨g, 0, rfl, (Array.getElem?_eq_some_iff.1 h3).1, ?_⟩⟩⟩
    obtain ⟨c1, c2⟩ := attsC_at l i a ha
    have d1 := World.ownsRow.cells h (g := g) (by rw [h1]; rfl) (i * 2) _ c1
    have d2 := World.ownsRow.cells h (g := g) (by rw [h1]; rfl) (i * 2 + 1) _ c2
    rw [add0] at d1 d2
    rw [Nat.zero_add, Nat.zero_add]
    exact ⟨d1, d2⟩
set_option maxHeartbeats 8000000 in
set_option maxRecDepth 100000 in
theorem alike_same (T : TG) (A1 A2 : Option Addr) (c1 c2 : Nat) (w : World) (h1 : AS w w.heap.size T.attrs A1 c1) (h2 : AS w w.heap.size T.attrs A2 c2) :
    Calls Try.prog 11 #[tagV T (.slice A1 T.attrs.length c1), tagV T (.slice A2 T.attrs.length c2)] w fun e w' => e = .returned (.bool true) ∧ Below w.heap.size w w' := by
  obtain ⟨kind, size, name, attrs, single, closed⟩ := T
  unfold tagV strV
  dsimp only at h1 h2 ⊢
  have hlen : attrs.length ≤ 9223372036854775807 := by have := h1.le; have := h1.mx; unfold maxLen at this; omega
  obtain ⟨NB, hNB⟩ : ∃ S : ByteArray, ⟨(u8s name).toArray⟩ = S := ⟨_, rfl⟩
  rw [hNB]
  clear hNB
  obtain ⟨N, hN⟩ : ∃ N, attrs.length = N := ⟨_, rfl⟩
  obtain ⟨W1, hW1⟩ : ∃ W, (w.alloc (.cells #[.int .i64 (kind : Int), .int .i64 (size : Int), .string NB, .slice A1 N c1, .bool single, .bool closed] 26)).alloc (.cells #[.int .i64 (kind : Int), .int .i64 (size : Int), .string NB, .slice A2 N c2, .bool single, .bool closed] 31) = W := ⟨_, rfl⟩
  have b1 : Below w.heap.size w W1 := by rw [← hW1]; exact (below_new _ _).trans ((below_new _ _).mono (by simp))
  have x1 : Cells W1 w.heap.size 26 #[.int .i64 (kind : Int), .int .i64 (size : Int), .string NB, .slice A1 N c1, .bool single, .bool closed] := by rw [← hW1]; exact (cells_new _ _ _).on (below_new _ _)
  have x2 : Cells W1 (w.heap.size + 1) 31 #[.int .i64 (kind : Int), .int .i64 (size : Int), .string NB, .slice A2 N c2, .bool single, .bool closed] := by
    have := cells_new (w.alloc (.cells #[.int .i64 (kind : Int), .int .i64 (size : Int), .string NB, .slice A1 N c1, .bool single, .bool closed] 26)) #[.int .i64 (kind : Int), .int .i64 (size : Int), .string NB, .slice A2 N c2, .bool single, .bool closed] 31
    rw [hW1, World.size_alloc] at this
    exact this
  have g1 := h1.on b1
  have g2 := h2.on b1
  have p0 := x1.cell 0
  have p1 := x1.cell 1
  have p2 := x1.cell 2
  have p3 := x1.cell 3
  have p4 := x1.cell 4
  have p5 := x1.cell 5
  have q0 := x2.cell 0
  have q1 := x2.cell 1
  have q2 := x2.cell 2
  have q3 := x2.cell 3
  have q4 := x2.cell 4
  have q5 := x2.cell 5
  simp at p0 p1 p2 p3 p4 p5 q0 q1 q2 q3 q4 q5
  have HX := Lib.hid (And.intro x1 (And.intro x2 (And.intro g1 (And.intro g2 (And.intro b1 hN)))))
  rw [hN] at hlen ⊢
  clear x1 x2 g1 g2 b1 hN h1 h2
  go_enter Try.func11, Try.ntmps11
  go_wp2_with fail
  clear hW1
  go_loopw [5] (fun i wr => ∃ k : Nat, i = .int .i64 (k : Int) ∧ k ≤ N ∧ Below W1.heap.size W1 wr) (fun i _ => N - (RowKit.intOf i).toNat)
  case atStart => exact ⟨0, by go_num, by omega, Below.refl _ _⟩
  case round =>
    obtain ⟨k, rfl, hk, hbr⟩ := hrel
    clear p0 p1 p2 p3 p4 p5 q0 q1 q2 q3 q4 q5
    have y1 := HX.out.1.on hbr
    have y2 := HX.out.2.1.on hbr
    have p3 := y1.cell 3
    have q3 := y2.cell 3
    simp at p3 q3
    have hz1 := y1.lt
    have hz2 := y2.lt
    have hbw := HX.out.2.2.2.2.1.trans (hbr.mono HX.out.2.2.2.2.1.size)
    have g1 := HX.out.2.2.1.on hbr
    have g2 := HX.out.2.2.2.1.on hbr
    have HB := Lib.hid (And.intro hbw (And.intro hbr (And.intro g1 g2)))
    clear hbw hbr g1 g2 y1 y2
    by_cases hlt : k < N
    case neg =>
      obtain rfl : k = N := by omega
      go_wp2_with fail
      go_ret
      exact ⟨rfl, HB.out.1⟩
    case pos =>
      have i1 : (k : Int) < (N : Int) := by omega
      obtain ⟨a, ha⟩ := at_lt (l := attrs) (k := k) (by rw [HX.out.2.2.2.2.2]; exact hlt)
      obtain ⟨ba, oa, rfl, _, ca1, ca2⟩ := HB.out.2.2.1.r k a ha
      obtain ⟨bb, ob, rfl, _, cb1, cb2⟩ := HB.out.2.2.2.r k a ha
      clear ha
      generalize (⟨(u8s a.1).toArray⟩ : ByteArray) = S1 at *
      generalize (⟨(u8s a.2).toArray⟩ : ByteArray) = S2 at *
      rw [← Nat.add_assoc] at ca2 cb2
      go_wp2_with go_quiet (fail)
      go_roundw
      case rel => exact ⟨k + 1, by go_num, by omega, below_drewN HB.out.2.1 _⟩
      case measure => simp [RowKit.intOf]; omega
end Go.Proofs.Ytplnkmojkdbbnaa
