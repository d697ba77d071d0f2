/-
  Contract: decide.Breaks at awake's rule and list.
-/
import Derived.Test.YtegkogadceodlaaBrk
namespace Go.Proofs.Ytegkogadceodlaa
open Go.RowKit Go.Shelf Go.Lib Go.Sort

/-- The rule that awake asks of. -/
def tA : Tx := ⟨[], [], [⟨.mk 0 1 [], .mk 0 2 [], false⟩]⟩
theorem tA_right : rightT tA = true := by first | rfl | decide | decide +kernel
theorem tA_known : knownT tA = tA := by unfold knownT; rw [tA_right]; rfl
theorem tA_rdF : rdF [] [] [2, 1, 2] = ([false, false, false], [36, 2, 1, 2], [1, 2, 3]) := by
  simp [rdF, rdS, clsI]
theorem leaf_r1 : rightE (.mk 0 1 []) = true := by first | rfl | decide | decide +kernel
theorem leaf_r2 : rightE (.mk 0 2 []) = true := by first | rfl | decide | decide +kernel
theorem leaf_s1 : shortR (.mk 0 1 []) = 1 ∧ longR (.mk 0 1 []) = (true, 1) := by first | exact ⟨rfl, rfl⟩ | decide | decide +kernel
theorem leaf_s2 : shortR (.mk 0 2 []) = 1 ∧ longR (.mk 0 2 []) = (true, 1) := by first | exact ⟨rfl, rfl⟩ | decide | decide +kernel
theorem tak_1 : (takesG 0 2 2 && takesG 0 1 1) = true := by decide
theorem tak_2 : (takesG 0 2 1 && takesG 0 1 2) = false := by decide
/-- What a reading of awake's rule and list is, at a place: ready for breaks. -/
theorem rdo_rd1 {w : World} {B : Nat} {L : List (List Value)} {vr vh vm vp : Value} {x : Nat} (hB : B ≤ w.heap.size) (h : RdO w B tA [2, 1, 2] L vr vh vm vp) (hx : Cells w x 109 #[vr, vh, vm, vp]) :
    ∃ A1 d1 A2 d2 r cr gh ch gm cm gp cp, Rd1 w 0 1 A1 d1 0 2 A2 d2 false x r cr gh 3 ch gm 4 cm gp 3 cp ∧ (∀ i, i < 3 → w.cell? ⟨gh, i, none⟩ = some (.bool false)) ∧
      (w.cell? ⟨gm, 0, none⟩ = some (.int .i64 36) ∧ w.cell? ⟨gm, 1, none⟩ = some (.int .i64 2) ∧ w.cell? ⟨gm, 2, none⟩ = some (.int .i64 1) ∧ w.cell? ⟨gm, 3, none⟩ = some (.int .i64 2)) ∧
      (w.cell? ⟨gp, 1, none⟩ = some (.int .i64 2) ∧ w.cell? ⟨gp, 2, none⟩ = some (.int .i64 3)) := by
  have hh := h.h
  have hm := h.m
  have hs := h.s
  have hr := h.r
  have hp := h.p
  rw [show tA.ig = [] from rfl, show tA.kp = [] from rfl, tA_rdF] at hh hm hs
  have row : ∀ {e z n : Nat} {v : Value} {xs : List Value}, w.ownsRow B e z v n xs → 0 < n → ∃ g c, v = .slice (some ⟨g, 0, none⟩) n c ∧ n ≤ c ∧ ∀ (j : Nat) (u : Value), xs[j]? = some u → w.cell? ⟨g, j, none⟩ = some u := by
    intro e z n v xs ho hn
    rcases ho.2 with ⟨_, h0⟩ | ⟨g, cap, cur, h1, h2, h3, h4, h5, _⟩
    · omega
    · refine ⟨g, cap, h1, h4, fun j u hj => ?_⟩
      have := World.ownsRow.cells ho (g := g) (by rw [h1]; rfl) j u hj
      rwa [add0] at this
  obtain ⟨gh, ch, rfl, _, eh⟩ := row hh (by simp)
  obtain ⟨gm, cm, rfl, lm, em⟩ := row hm (by simp)
  obtain ⟨gp, cp, rfl, _, ep⟩ := row hs (by simp)
  obtain ⟨r, cr, rfl, lr, er⟩ := row hr (show 0 < tA.rs.length by decide)
  obtain ⟨cs, hcs⟩ : ∃ cs, L = [cs] := by
    have := hp.l
    match L, this with
    | [cs], _ => exact ⟨cs, rfl⟩
  subst hcs
  obtain ⟨A1, d1, A2, d2, he, n1, n2⟩ := hp.p 0 _ cs rfl rfl
  have hpt : cs = (pt1 0 1 A1 d1 0 2 A2 d2 false).toList := by
    rw [he]
    unfold sdC
    dsimp only
    rw [leaf_s1.1, leaf_s1.2, leaf_s2.1, leaf_s2.2]
    rfl
  refine ⟨A1, d1, A2, d2, r, cr, gh, ch, gm, cm, gp, cp, ⟨⟨by decide, by decide, n1.mono hB, leaf_r1⟩, ⟨by decide, by decide, n2.mono hB, leaf_r2⟩, hx, fun i u hu => er i u ?_, lr, lm, by decide⟩, ?_, ⟨em 0 _ rfl, em 1 _ rfl, em 2 _ rfl, em 3 _ rfl⟩, ⟨ep 1 _ rfl, ep 2 _ rfl⟩⟩
  · rw [List.flatten_singleton, hpt]
    simpa using hu
  · intro i hi
    match i, hi with
    | 0, _ => exact eh 0 _ rfl
    | 1, _ => exact eh 1 _ rfl
    | 2, _ => exact eh 2 _ rfl
end Go.Proofs.Ytegkogadceodlaa
