/-
  Contract: Many.
-/
import Derived.Test.YtmldgfplnacecaaDoorMpn
import Derived.Test.YtmldgfplnacecaaDoorMax
namespace Go.Proofs.YtmldgfplnacecaaDoor
open Go.RowKit Go.Shelf Go.Lib Go.Maps Go.Sort

/-- How many groups there are; 0: it isn't right. -/
def manyL (g : List Int) : Int := if g.length = 37 ∧ numL g = g then maxL g + 1 else 0
theorem numL_small (l : List Int) : ∀ x ∈ numL l, 0 ≤ x ∧ x < l.length ∨ l.length = 0 := by
  intro x hx
  unfold numL at hx
  obtain ⟨y, hy, rfl⟩ := List.mem_map.1 hx
  left
  have hs : y ∈ seenL l := by
    have := (mem_seenT l l.length (Nat.le_refl _) y).2 (by rw [List.take_length]; exact hy)
    rw [List.take_length] at this; exact this
  obtain ⟨i, h1, h2, h3⟩ := numT_hit hs
  have h4 := seenT_length l l.length (Nat.le_refl _)
  rw [List.take_length] at h4
  rw [h1]; omega
theorem many_small {g : List Int} (h : g.length = 37) (hn : numL g = g) : ∀ x ∈ g, 0 ≤ x ∧ x < 37 := by
  intro x hx
  rw [← hn] at hx
  have := numL_small g x hx
  omega
theorem max_small {g : List Int} (h : g.length = 37) (hn : numL g = g) : 0 ≤ maxL g ∧ maxL g < 37 := many_small h hn _ (maxP_mem (l := g) g.length (by omega) (Nat.le_refl _))
set_option maxHeartbeats 8000000 in
set_option maxRecDepth 100000 in
theorem many_any (l : List Int) (A : Option Addr) (cap : Nat) (w : World) (h : IS w w.heap.size l A cap) (hl : l.length ≤ 1000) :
    Calls Tryd.prog 35 #[.slice A l.length cap] w fun r w' => r = .returned (.int .i64 (manyL l)) ∧ Below w.heap.size w w' := by
  obtain ⟨N, hN⟩ : ∃ N, l.length = N := ⟨_, rfl⟩
  by_cases h37 : N = 37
  · subst h37
    have D := num69_any l A cap hl w h
    have H := Lib.hid (And.intro h hN)
    rw [hN] at D ⊢
    have HD := Lib.hid D
    clear D h hN hl
    go_enter Tryd.func35, Tryd.ntmps35
    go_wp2_with fail
    refine HD.out.mono ?_
    rintro r w2 ⟨hb2, u, rfl, hf⟩
    obtain ⟨A2, rfl, hi2⟩ := hf.is (by rw [numL_len, H.out.2]; omega) (fun x hx => by have := numL_small l x hx; have := H.out.2; unfold i64; omega)
    have E := eq61_any (numL l) l A2 A (numL l).length cap w2 hi2 (H.out.1.on hb2)
    rw [numL_len, H.out.2] at E ⊢
    have HE := Lib.hid (And.intro E hb2)
    clear E hb2 hf hi2
    go_wp2_with fail
    refine HE.out.1.mono ?_
    rintro r w3 ⟨rfl, hb3⟩
    have HB := Lib.hid (HE.out.2.trans (hb3.mono HE.out.2.size))
    clear hb3
    by_cases hq : numL l = l
    · have e : decide (numL l = l) = true := by simpa using hq
      rw [e]
      have D2 := max_any l A cap w3 (H.out.1.on HB.out) (by rw [H.out.2]; omega)
      rw [H.out.2] at D2
      obtain ⟨m0, m1⟩ := max_small H.out.2 hq
      have hm : manyL l = maxL l + 1 := by unfold manyL; rw [if_pos ⟨H.out.2, hq⟩]
      have HD2 := Lib.hid (And.intro D2 hm)
      clear D2 hm e hq
      go_wp2_with fail
      refine HD2.out.1.mono ?_
      rintro r w4 ⟨rfl, hb4⟩
      have HB4 := Lib.hid (HB.out.trans (hb4.mono HB.out.size))
      clear hb4
      go_wp2_with fail
      go_ret
      exact ⟨by rw [HD2.out.2]; rfl, HB4.out⟩
    · have e : decide (numL l = l) = false := by simpa using hq
      rw [e]
      have hm : manyL l = 0 := by unfold manyL; rw [if_neg (fun h => hq h.2)]
      have HM := Lib.hid hm
      clear hm e hq
      go_wp2_with fail
      go_ret
      exact ⟨by rw [HM.out]; rfl, HB.out⟩
  · have j1 : ((N : Int) == 37) = false := by simp; omega
    have j2 : ((N : Int) != 37) = true := by simp; omega
    have hm : manyL l = 0 := by unfold manyL; rw [if_neg (fun h => h37 (hN.symm.trans h.1))]
    have hNl : N ≤ 1000 := by omega
    have HM := Lib.hid hm
    rw [hN]
    clear hm h hl hN h37
    go_enter Tryd.func35, Tryd.ntmps35
    go_wp2_with fail
    go_ret
    exact ⟨by rw [HM.out]; rfl, Below.refl _ _⟩
end Go.Proofs.YtmldgfplnacecaaDoor
