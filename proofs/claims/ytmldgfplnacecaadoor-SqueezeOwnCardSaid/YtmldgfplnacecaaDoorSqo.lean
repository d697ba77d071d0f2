/-
  A narrow table of the call's own, as its parts lie in memory.
-/
import Derived.Test.YtmldgfplnacecaaDoorMkw
namespace Go.Proofs.YtmldgfplnacecaaDoor
open Go.RowKit Go.Shelf Go.Lib Go.Maps Go.Sort

theorem rs_of_own {w w' : World} {rows : List (List Int)} {v : Value} {xs : List Value} (ho : w'.ownsRow w.heap.size 23 1 v rows.length xs) (hr : ∀ (i : Nat) x, rows[i]? = some x → ∃ u, xs[i]? = some u ∧ FrL w w' x u)
    (hl : ∀ r ∈ rows, r.length ≤ 1000 ∧ ∀ x ∈ r, i64 x) : ∃ A cap, v = .slice A rows.length cap ∧ RsAt w' w'.heap.size rows A cap := by
  rcases ho.2 with ⟨h1, h2⟩ | ⟨g, cap, cur, h1, h2, h3, h4, h5, h6, h7⟩
  · have hn : rows = [] := List.eq_nil_of_length_eq_zero h2
    subst hn
    exact ⟨none, 0, by rw [h1]; rfl, ⟨Nat.le_refl _, by unfold maxLen; omega, fun _ => rfl, fun hn => absurd rfl hn⟩⟩
  · refine ⟨_, cap, h1, ⟨h4, h5, fun e => (by cases e), fun _ => ⟨g, 0, rfl, (Array.getElem?_eq_some_iff.1 h3).1, fun i r hir => ?_⟩⟩⟩
    obtain ⟨u, hu, hf⟩ := hr i r hir
    obtain ⟨q, rfl, hq, hc⟩ := hf
    have hc0 := World.ownsRow.cells ho (g := g) (by rw [h1]; rfl) i _ hu
    rw [add0] at hc0
    have hlr := hl r (List.mem_of_getElem? hir)
    exact ⟨_, _, by rw [Nat.zero_add]; exact hc0, cells_is hc hlr.1 hlr.2, fun e => by cases e⟩
theorem us_of_own {w w' : World} {T : List Nat} {v : Value} (ho : w'.ownsRow w.heap.size 37 1 v T.length (u64C T)) (hl : ∀ x ∈ T, x < 18446744073709551616) : ∃ A cap, v = .slice A T.length cap ∧ UsAt w' w'.heap.size T A cap := by
  rcases ho.2 with ⟨h1, h2⟩ | ⟨g, cap, cur, h1, h2, h3, h4, h5, h6, h7⟩
  · have hn : T = [] := List.eq_nil_of_length_eq_zero h2
    subst hn
    exact ⟨none, 0, by rw [h1]; rfl, ⟨Nat.le_refl _, by unfold maxLen; omega, fun _ => rfl, fun x hx => absurd hx (by simp), fun hn => absurd rfl hn⟩⟩
  · refine ⟨_, cap, h1, ⟨h4, h5, fun e => (by cases e), hl, fun _ => ⟨g, 0, rfl, (Array.getElem?_eq_some_iff.1 h3).1, fun i x hx => ?_⟩⟩⟩
    have hc := World.ownsRow.cells ho (g := g) (by rw [h1]; rfl) i (.int .u64 (x : Int)) (by simp [u64C, hx])
    rw [add0] at hc
    rw [Nat.zero_add]; exact hc
/-- A narrow table as a value. -/
def NwV (w : World) (g : List Int) (R : List (List Int)) (T : List Nat) (v : Value) : Prop :=
  ∃ A c A1 c1 A2 c2, v = .agg #[.slice A g.length c, .slice A1 R.length c1, .slice A2 T.length c2] ∧ IS w w.heap.size g A c ∧ RsAt w w.heap.size R A1 c1 ∧ UsAt w w.heap.size T A2 c2
theorem NwV.on {w w' : World} {g : List Int} {R : List (List Int)} {T : List Nat} {v : Value} (h : NwV w g R T v) (hb : Below w.heap.size w w') : NwV w' g R T v := by
  obtain ⟨A, c, A1, c1, A2, c2, e, h0, h1, h2⟩ := h
  exact ⟨A, c, A1, c1, A2, c2, e, h0.on hb, h1.on hb, h2.on hb⟩
theorem NarO.nw {w w' : World} {g : List Int} {rows : List (List Int)} {T : List Nat} {v : Value} (h : NarO w w' g rows T v) (hg : ∀ x ∈ g, i64 x) (hr : ∀ r ∈ rows, r.length ≤ 1000 ∧ ∀ x ∈ r, i64 x) (ht : ∀ x ∈ T, x < 18446744073709551616) : NwV w' g rows T v := by
  obtain ⟨v1, vN, v2, xs, e, o1, oN, o2, r⟩ := h
  obtain ⟨A, c, rfl, h0, _⟩ := OwnI.is o1 hg
  obtain ⟨A1, c1, rfl, h1⟩ := rs_of_own oN r hr
  obtain ⟨A2, c2, rfl, h2⟩ := us_of_own o2 ht
  exact ⟨A, c, A1, c1, A2, c2, e, h0, h1, h2⟩
theorem narR_mem {R : List (List Int)} {g : List Int} (hm : (manyL g).toNat ≤ 1000) (hR : ∀ r ∈ R, ∀ x ∈ r, i64 x) : ∀ r ∈ narR R g, r.length ≤ 1000 ∧ ∀ x ∈ r, i64 x := by
  intro r hr
  unfold narR at hr
  obtain ⟨q, hq, rfl⟩ := List.mem_map.1 hr
  exact ⟨by unfold narL; rw [setL_len]; exact hm, narL_i64 (hR q hq)⟩
theorem RsAt.ints {w : World} {B : Nat} {R : List (List Int)} {A : Option Addr} {cap : Nat} (h : RsAt w B R A cap) : ∀ r ∈ R, ∀ x ∈ r, i64 x := by
  intro r hr
  obtain ⟨i, hi⟩ := List.mem_iff_getElem?.1 hr
  obtain ⟨b, o, _, _, hc⟩ := h.r (by rintro rfl; simp at hr)
  obtain ⟨A', c', _, his, _⟩ := hc i r hi
  exact his.i
theorem right_ints {R : List (List Int)} {T : List Nat} (h : rightT R T = true) : ∀ r ∈ R, ∀ x ∈ r, i64 x := by
  intro r hr x hx
  obtain ⟨i, hi⟩ := List.mem_iff_getElem?.1 hr
  obtain ⟨j, hj⟩ := List.mem_iff_getElem?.1 hx
  have h0 := right_parts h
  have := (h0.2.2.2 i r hi).2 j x hj
  unfold i64; omega
end Go.Proofs.YtmldgfplnacecaaDoor
