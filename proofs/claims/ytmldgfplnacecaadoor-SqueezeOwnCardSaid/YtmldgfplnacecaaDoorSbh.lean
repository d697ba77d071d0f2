/-
  Right tables by their own grouping: made narrow, and wide again.
-/
import Derived.Test.YtmldgfplnacecaaDoorSwi
import Derived.Test.YtmldgfplnacecaaDoorSmk
namespace Go.Proofs.YtmldgfplnacecaaDoor
open Go.RowKit Go.Shelf Go.Lib Go.Maps Go.Sort

theorem wid_nar {g : List Int} {R : List (List Int)} (h : R.all (fitB g) = true) : widR (narR R g) g = R := by
  unfold widR narR
  rw [List.map_map]
  have : ∀ r ∈ R, ((fun r => widL r g) ∘ fun r => narL r g (manyL g).toNat) r = r := fun r hr => by
    have := List.all_eq_true.1 h r hr
    unfold fitB at this
    exact of_decide_eq_true this
  exact (List.map_congr_left this).trans (List.map_id' R)
theorem nar_lens {g : List Int} (R : List (List Int)) (h : manyL g ≠ 0) : (narR R g).all (lenB g) = true := by
  have hp := many_parts h
  rw [List.all_eq_true]
  intro r hr
  unfold narR at hr
  obtain ⟨q, _, rfl⟩ := List.mem_map.1 hr
  unfold lenB narL
  rw [setL_len]
  simp
  omega
theorem wide_nar {g : List Int} {R : List (List Int)} {T : List Nat} (h : manyL g ≠ 0) (hr : rightT R T = true) (hf : R.all (fitB g) = true) : wideB g (narR R g) T = true := by
  rw [wideB_last h (nar_lens R h), wid_nar hf, hr]
theorem make_good (g : List Int) (A : Option Addr) (cap : Nat) {R : List (List Int)} {T : List Nat} {v : Value} {w : World} (his : IS w w.heap.size g A cap) (h : TbV w R T v) (hg : manyL g ≠ 0) (hr : rightT R T = true) (hf : R.all (fitB g) = true) :
    Calls Tryd.prog 37 #[.slice A g.length cap, v] w fun r w' => Below w.heap.size w w' ∧ ∃ P0 q0 P1 q1 P2 q2, r = .returned (.tuple #[.agg #[.slice P0 g.length q0, .slice P1 R.length q1, .slice P2 T.length q2], .int .i64 0]) ∧
      NwV w' g (narR R g) T (.agg #[.slice P0 g.length q0, .slice P1 R.length q1, .slice P2 T.length q2]) := by
  have hp := many_parts hg
  have hT2 : ∀ x ∈ T, x < 18446744073709551616 := by obtain ⟨_, _, _, _, _, _, hU⟩ := h; exact hU.i
  refine (make_any g A cap his (by omega) h).mono ?_
  intro r w' hm
  obtain ⟨hb, P0, p0, q0, P1, p1, q1, P2, p2, q2, ev, rfl, hres⟩ := make_res hm his.i hT2
  rcases hres with ⟨h1, _⟩ | ⟨_, _, h3, _⟩ | ⟨_, _, _, rfl, rfl, rfl, rfl, kI, kR, kU⟩
  · rcases h1 with h1 | h1
    · exact absurd h1 hg
    · rw [hr] at h1; cases h1
  · rw [hf] at h3; cases h3
  · exact ⟨hb, P0, q0, P1, q1, P2, q2, rfl, P0, q0, P1, q1, P2, q2, by rw [narR_len], kI, kR, kU⟩
theorem wide_good {g : List Int} {R : List (List Int)} {T : List Nat} {v : Value} {w : World} (h : NwV w g (narR R g) T v) (hg : manyL g ≠ 0) (hr : rightT R T = true) (hf : R.all (fitB g) = true) :
    Calls Tryd.prog 41 #[v] w fun r w' => Below w.heap.size w w' ∧ ∃ P0 q0 P1 q1, r = .returned (.tuple #[.agg #[.slice P0 R.length q0, .slice P1 T.length q1], .bool true]) ∧ TbV w' R T (.agg #[.slice P0 R.length q0, .slice P1 T.length q1]) := by
  have hp := many_parts hg
  have hq := right_parts hr
  refine (wide_any h (by omega) (by omega)).mono ?_
  rintro r w' ⟨hb, (⟨h1, _⟩ | ⟨_, v, rfl, hT⟩)⟩
  · rw [wide_nar hg hr hf] at h1; cases h1
  · rw [wid_nar hf] at hT
    have hT2 := hT
    obtain ⟨A, c, A2, c2, rfl, _, _⟩ := hT
    exact ⟨hb, A, c, A2, c2, rfl, hT2⟩
/-- Two tables side by side. -/
theorem ds_two {w : World} {b : Nat} {R R' : List (List Int)} {T T' : List Nat} {A1 A2 B1 B2 : Option Addr} {c1 c2 d1 d2 : Nat}
    (h : Cells w b 54 #[.slice A1 R.length c1, .slice A2 T.length c2, .slice B1 R'.length d1, .slice B2 T'.length d2]) (hv : TbV w R T (.agg #[.slice A1 R.length c1, .slice A2 T.length c2])) (hv' : TbV w R' T' (.agg #[.slice B1 R'.length d1, .slice B2 T'.length d2])) :
    DsAt w w.heap.size [(R, T), (R', T')] (some ⟨b, 0, none⟩) := by
  obtain ⟨P, p, P2, p2, e, hR, hT⟩ := hv
  obtain ⟨Q, q, Q2, q2, e', hR', hT'⟩ := hv'
  simp at e e'
  obtain ⟨⟨rfl, rfl⟩, rfl, rfl⟩ := e
  obtain ⟨⟨rfl, rfl⟩, rfl, rfl⟩ := e'
  have h0 := h.cell 0
  have h1 := h.cell 1
  have h2 := h.cell 2
  have h3 := h.cell 3
  simp at h0 h1 h2 h3
  intro i t ht
  match i with
  | 0 =>
    simp at ht
    subst ht
    exact ⟨b, 0, _, _, _, _, rfl, h.lt, by simpa using h0, by simpa using h1, hR, hT⟩
  | 1 =>
    simp at ht
    subst ht
    exact ⟨b, 0, _, _, _, _, rfl, h.lt, by simpa using h2, by simpa using h3, hR', hT'⟩
  | i + 2 => simp at ht
end Go.Proofs.YtmldgfplnacecaaDoor
