/-
  Contract: the document's Many.
-/
import Derived.Test.YtmldgfplnacecaaDoorSqn
namespace Go.Proofs.YtmldgfplnacecaaDoor
open Go.RowKit Go.Shelf Go.Lib Go.Maps Go.Sort

theorem nxt_le {g : List Int} : ∀ k, k ≤ g.length → okN g k → nxt g k ≤ k
  | 0, _, _ => Int.le_refl _
  | k + 1, hk, h => by
    obtain ⟨x, hx⟩ := list_at (xs := g) (i := k) (by omega)
    have ih := nxt_le (g := g) k (by omega) (fun i y hi hy => h i y (by omega) hy)
    have := h k x (by omega) hx
    rw [nxt_step hx]
    omega
theorem okN_step {g : List Int} {k : Nat} {x : Int} (h : okN g k) (hx : g[k]? = some x) (h0 : 0 ≤ x) (h1 : x ≤ nxt g k) : okN g (k + 1) := by
  intro i y hi hy
  rcases Nat.lt_or_ge i k with hlt | hge
  · exact h i y hlt hy
  · obtain rfl : i = k := by omega
    rw [hx] at hy
    injection hy with hy
    subst hy
    exact ⟨h0, h1⟩
set_option maxHeartbeats 4000000 in
set_option maxRecDepth 100000 in
theorem rmany_any (l : List Int) (A : Option Addr) (cap : Nat) (w : World) (h : IS w w.heap.size l A cap) (hl : l.length ≤ 1000) :
    Calls Tryd.prog 36 #[.slice A l.length cap] w fun r w' => r = .returned (.int .i64 (manyL l)) ∧ w' = w := by
  obtain ⟨N, hN⟩ : ∃ N, l.length = N := ⟨_, rfl⟩
  have h0 : okN l 0 := fun i x hi => by omega
  have H := Lib.hid (And.intro h (And.intro hN h0))
  rw [hN] at hl ⊢
  clear h hN h0
  go_enter Tryd.func36, Tryd.ntmps36
  go_wp2_with fail
  go_loopw [3, 4] (fun n i wr => ∃ k : Nat, i = .int .i64 (k : Int) ∧ k ≤ N ∧ n = .int .i64 (nxt l k) ∧ okN l k ∧ wr = w) (fun _ i _ => N - (RowKit.intOf i).toNat)
  case atStart => exact ⟨0, rfl, by omega, rfl, H.out.2.2, rfl⟩
  case round =>
    obtain ⟨k, rfl, hk, rfl, hok, hw⟩ := hrel
    obtain rfl := hw.symm
    clear hw
    by_cases hlt : k < N
    · have i1 : (k : Int) < (N : Int) := by omega
      obtain ⟨x, hx⟩ := list_at (xs := l) (i := k) (by rw [H.out.2.1]; exact hlt)
      obtain ⟨b, o, rfl, hbl, hc⟩ := H.out.1.r (by rintro rfl; simp at hx)
      have d0 := hc k x hx
      have hn0 := nxt_nonneg l k (by rw [H.out.2.1]; omega)
      have hn1 := nxt_le k (by rw [H.out.2.1]; omega) hok
      have hst := nxt_step hx
      obtain ⟨n, hnn⟩ : ∃ n, nxt l k = n := ⟨_, rfl⟩
      have HS := Lib.hid (And.intro hok (And.intro hx (And.intro hst hnn)))
      rw [hnn] at hn0 hn1 ⊢
      clear hok hst hnn hc
      by_cases hx0 : x < 0
      · have hm : manyL l = 0 := many_not hx (by omega)
        have HM := Lib.hid hm
        clear hm hx
        go_wp2_with fail
        go_ret
        exact ⟨by rw [HM.out]; rfl, rfl⟩
      · by_cases hxn : n < x
        · have hm : manyL l = 0 := many_not hx (by rw [HS.out.2.2.2]; omega)
          have HM := Lib.hid hm
          clear hm hx
          go_wp2_with fail
          go_ret
          exact ⟨by rw [HM.out]; rfl, rfl⟩
        · clear hx
          go_wp2_with fail
          go_roundw
          case rel => exact ⟨k + 1, by go_num, by omega, by rw [HS.out.2.2.1, HS.out.2.2.2], okN_step HS.out.1 HS.out.2.1 (by omega) (by rw [HS.out.2.2.2]; omega), trivial⟩
          case measure => simp [RowKit.intOf]; omega
    · obtain rfl : k = N := by omega
      have i1 : ¬ (k : Int) < (k : Int) := by omega
      have hm := many_ref (g := l) (by rw [H.out.2.1]; exact hok)
      rw [H.out.2.1] at hm
      by_cases h37 : k = 37
      · subst h37
        rw [if_pos rfl] at hm
        have HM := Lib.hid hm
        clear hm hok
        go_wp2_with fail
        go_ret
        exact ⟨by rw [HM.out]; rfl, rfl⟩
      · have j1 : ((k : Int) == 37) = false := by simp; omega
        rw [if_neg h37] at hm
        have HM := Lib.hid hm
        clear hm hok
        go_wp2_with fail
        go_ret
        exact ⟨by rw [HM.out]; rfl, rfl⟩
end Go.Proofs.YtmldgfplnacecaaDoor
