/-
  Contracts: Text.Great: whether a meaning has more than is asked of.
-/
import Derived.BigQuiet
import Derived.Lib.QuietBelow
import Derived.Test.YtegkogadceodlaaKno
import Derived.Test.YtegkogadceodlaaTrt
namespace Go.Proofs.Ytegkogadceodlaa
open Go.RowKit Go.Shelf Go.Lib Go.Sort

/-- What is known where a meaning isn't great. -/
def smallT (t : Tx) : Prop := t.rs.length ≤ 45 ∧ t.ig.length ≤ 40 ∧ t.kp.length ≤ 40 ∧ ∀ x ∈ t.rs, szE x.l ≤ 150 ∧ szE x.r ≤ 150

/-- What Great hands back. -/
def GrPost (S : Prop) (w : World) (r : Ending) (w' : World) : Prop := (∃ b, r = .returned (.bool b) ∧ (b = false → S)) ∧ Below w.heap.size w w'

theorem two_small {m a b : Nat} (hm : m ≤ 150) (ha : a ≤ 151) (hb : b ≤ 151) : wrap64 ((m : Int) + (a : Int)) = (m : Int) + (a : Int) ∧ wrap64 ((m : Int) + (a : Int) + (b : Int)) = (m : Int) + (a : Int) + (b : Int) :=
  ⟨wrap_small (by omega), wrap_small (by omega)⟩

theorem three_small {m a b : Nat} (hm : m ≤ 150) (ha : a ≤ 151) (hb : b ≤ 151) : m + a + b ≤ 1000 ∧ (m : Int) + (a : Int) + (b : Int) = ((m + a + b : Nat) : Int) := by omega
set_option maxRecDepth 100000 in
set_option maxHeartbeats 8000000 in
theorem great_any (t : Tx) (v : Value) (w : World) (h : TxV w w.heap.size t v) :
    Calls Try.prog 24 #[v] w (GrPost (smallT t) w) := by
  obtain ⟨A1, c1, A2, c2, A3, c3, rfl, h1, h2, h3⟩ := h
  obtain ⟨W0, hW0⟩ : ∃ W0, w.alloc (.cells #[.slice A1 t.ig.length c1, .slice A2 t.kp.length c2, .slice A3 t.rs.length c3] 51) = W0 := ⟨_, rfl⟩
  have hb0 : Below w.heap.size w W0 := by rw [← hW0]; exact below_new _ _
  have hbx : Cells W0 w.heap.size 51 #[.slice A1 t.ig.length c1, .slice A2 t.kp.length c2, .slice A3 t.rs.length c3] := by rw [← hW0]; exact World.alloc_heap_new _ _
  have l1 := h1.len
  have l2 := h2.len
  have l3 := h3.len
  have h3' := h3.on hb0
  have hS : smallT t = (t.rs.length ≤ 45 ∧ t.ig.length ≤ 40 ∧ t.kp.length ≤ 40 ∧ ∀ x ∈ t.rs, szE x.l ≤ 150 ∧ szE x.r ≤ 150) := rfl
  rw [hS]
  have HW := Lib.hid hW0
  have HB := Lib.hid (And.intro hb0 hbx)
  generalize t.ig.length = n1 at *
  generalize t.kp.length = n2 at *
  generalize t.rs = rs at *
  obtain ⟨n3, hn3⟩ : ∃ n, rs.length = n := ⟨_, rfl⟩
  rw [hn3] at HW hbx l3 ⊢
  have HN := Lib.hid hn3
  have H3 := Lib.hid h3'
  have hz0 := hbx.lt
  have x2 : W0.cell? ⟨w.heap.size, 2, none⟩ = some (.slice A3 n3 c3) := by have := hbx.cell 2; simpa using this
  clear h1 h2 h3 h3' hW0 hb0 hbx hn3 hS
  by_cases g3 : 45 < n3
  · have i3 : (45 : Int) < (n3 : Int) := by omega
    clear g3
    go_enter Try.func24, Try.ntmps24
    go_wp2
    rw [HW.out]
    go_ret
    exact ⟨⟨true, rfl, fun h => by cases h⟩, HB.out.1⟩
  have i3 : decide ((45 : Int) < (n3 : Int)) = false := by simp; omega
  by_cases g1 : 40 < n1
  · have i1 : (40 : Int) < (n1 : Int) := by omega
    clear g1 g3
    go_enter Try.func24, Try.ntmps24
    go_wp2
    rw [HW.out]
    go_ret
    exact ⟨⟨true, rfl, fun h => by cases h⟩, HB.out.1⟩
  have i1 : decide ((40 : Int) < (n1 : Int)) = false := by simp; omega
  by_cases g2 : 40 < n2
  · have i2 : (40 : Int) < (n2 : Int) := by omega
    clear g1 g2 g3
    go_enter Try.func24, Try.ntmps24
    go_wp2
    rw [HW.out]
    go_ret
    exact ⟨⟨true, rfl, fun h => by cases h⟩, HB.out.1⟩
  have i2 : decide ((40 : Int) < (n2 : Int)) = false := by simp; omega
  have HSM := Lib.hid (show n3 ≤ 45 ∧ n1 ≤ 40 ∧ n2 ≤ 40 by omega)
  clear g1 g2 g3
  go_enter Try.func24, Try.ntmps24
  go_wp2_with fail
  rw [HW.out]
  go_loopw [3, 4] (fun s i wr => ∃ k m : Nat, i = .int .i64 k ∧ k ≤ n3 ∧ s = .int .i64 m ∧ m ≤ 1000 ∧ (∀ (i : Nat) (x : Ru), i < k → rs[i]? = some x → min (szE x.l) (150 + 1) + min (szE x.r) (150 + 1) ≤ m) ∧ Below W0.heap.size W0 wr) (fun _ i _ => n3 - (RowKit.intOf i).toNat)
  case atStart => exact ⟨0, 0, rfl, Nat.zero_le _, rfl, by omega, fun i x hi => by omega, Below.refl _ _⟩
  case round =>
    obtain ⟨k, m, rfl, hkn, rfl, hm, hsz, hb⟩ := hrel
    have HSZ := Lib.hid hsz
    clear hsz
    have y2 := (hb.cell (p := ⟨w.heap.size, 2, none⟩) hz0).trans x2
    have HM := Lib.hid hm
    by_cases hlt : k < n3
    · have j1 : (k : Int) < (n3 : Int) := by omega
      by_cases hsm : m ≤ 150
      · have j2 : (m : Int) ≤ 150 := by omega
        obtain ⟨x, hx⟩ : ∃ x, rs[k]? = some x := ⟨rs[k]'(by rw [HN.out]; exact hlt), List.getElem?_eq_getElem _⟩
        obtain ⟨b, o, rfl, hbl, hr⟩ := (H3.out.on hb).r (by rintro rfl; simp at hx)
        obtain ⟨B1, e1, B2, e2, ⟨k0, k1, k2, k3, k4, k5, k6⟩, hv⟩ := hr k x hx
        obtain ⟨B1', e1', B2', e2', he, hl1, hl2⟩ := hv
        have he' : B1 = B1' ∧ e1 = e1' ∧ B2 = B2' ∧ e2 = e2' := by simp at he; exact ⟨he.1.1, he.1.2, he.2.1, he.2.2⟩
        obtain ⟨rfl, rfl, rfl, rfl⟩ := he'
        have D1 : ∀ d os, Calls Try.prog 36 #[.agg #[.int .i64 x.l.k, .int .i64 x.l.c, .slice B1 x.l.ks.length e1], .int .i64 150] (grow (redrawn wr d) os) fun e w'' => e = .returned (.int .i64 ((min (szE x.l) (150 + 1) : Nat) : Int)) ∧ ∃ p : Regrown, w'' = grow (redrawn wr p.d) p.os :=
          fun d os => Calls.regrown_of (size_any _ x.l (Nat.le_refl _) _ 150 _ (hl1.on (below_regrown wr d os)) (by omega))
        have D2 : ∀ d os, Calls Try.prog 36 #[.agg #[.int .i64 x.r.k, .int .i64 x.r.c, .slice B2 x.r.ks.length e2], .int .i64 150] (grow (redrawn wr d) os) fun e w'' => e = .returned (.int .i64 ((min (szE x.r) (150 + 1) : Nat) : Int)) ∧ ∃ p : Regrown, w'' = grow (redrawn wr p.d) p.os :=
          fun d os => Calls.regrown_of (size_any _ x.r (Nat.le_refl _) _ 150 _ (hl2.on (below_regrown wr d os)) (by omega))
        obtain ⟨s1, hs1⟩ : ∃ s, min (szE x.l) (150 + 1) = s := ⟨_, rfl⟩
        obtain ⟨s2, hs2⟩ : ∃ s, min (szE x.r) (150 + 1) = s := ⟨_, rfl⟩
        rw [hs1] at D1
        rw [hs2] at D2
        have hnext : ∀ (i : Nat) (y : Ru), i < k + 1 → rs[i]? = some y → min (szE y.l) (150 + 1) + min (szE y.r) (150 + 1) ≤ m + s1 + s2 := by
          intro i y hi hy
          by_cases hik : i = k
          · subst hik
            rw [hx] at hy
            injection hy with hy
            subst hy
            omega
          · have := HSZ.out i y (by omega) hy
            omega
        have HNX := Lib.hid hnext
        clear hnext
        have hsb : s1 ≤ 151 ∧ s2 ≤ 151 := by omega
        have g0 := cell_regrown k0
        have g1 := cell_regrown k1
        have g2 := cell_regrown k2
        have g3 := cell_regrown k3
        have g4 := cell_regrown k4
        have g5 := cell_regrown k5
        have gy := cell_regrown y2
        obtain ⟨hw1, hw2⟩ := two_small hsm hsb.1 hsb.2
        have HT3 := Lib.hid (three_small hsm hsb.1 hsb.2)
        have HW2 := Lib.hid hw2
        have HH := Lib.hid (And.intro hb (And.intro hlt (And.intro hsb hsm)))
        clear hs1 hs2 hsb hb hl1 hl2 he hr hx hm hsm k0 k1 k2 k3 k4 k5 k6
        generalize x.l.k = f1 at *
        generalize x.l.c = f2 at *
        generalize x.r.k = f3 at *
        generalize x.r.c = f4 at *
        generalize x.l.ks.length = m1 at *
        generalize x.r.ks.length = m2 at *
        go_wp2_with fail
        refine wp_region_quiet_below (by kernel_rfl) (by kernel_rfl) ?_
        iterate 8 (go_big_quiet_step (exact D1 _ _))
        clear D1
        iterate 8 (go_big_quiet_step (exact D2 _ _))
        clear D2
        repeat (go_big_quiet_step (fail))
        refine wpQuiet_nil ?_
        intro _ hw'
        obtain ⟨⟨dq, osq⟩, hw''⟩ := hw'
        subst hw''
        have HB2 := Lib.hid (HH.out.1.trans ((below_regrown wr dq osq).mono HH.out.1.size))
        clear g0 g1 g2 g3 g4 g5 gy
        go_wp2
        go_roundw
        case rel => exact ⟨k + 1, m + s1 + s2, by go_num, by omega, by rw [← HT3.out.2, HW2.out], HT3.out.1, HNX.out, HB2.out⟩
        case measure => simp [RowKit.intOf]; omega
      · have j2 : decide ((m : Int) ≤ 150) = false := by simp; omega
        have j3 : (150 : Int) < (m : Int) := by omega
        have HZ := Lib.hid (HB.out.1.trans (hb.mono HB.out.1.size))
        clear hb hm hsm
        go_wp2
        go_ret
        exact ⟨⟨_, rfl, fun h => absurd h (by decide)⟩, HZ.out⟩
    · have hkn : k = n3 := by omega
      subst hkn
      have j1 : ¬ (k : Int) < (k : Int) := by omega
      have HZ := Lib.hid (HB.out.1.trans (hb.mono HB.out.1.size))
      clear hb hm
      by_cases hsm : m ≤ 150
      · have j3 : ¬ (150 : Int) < (m : Int) := by omega
        have HX := Lib.hid hsm
        clear hsm
        go_wp2
        go_ret
        exact ⟨⟨_, rfl, fun _ => ⟨HSM.out.1, HSM.out.2.1, HSM.out.2.2, fun x hx => by
          obtain ⟨i, hi⟩ := List.getElem?_of_mem hx
          have h1 := HSZ.out i x (by rw [← HN.out]; exact (List.getElem?_eq_some_iff.1 hi).1) hi
          have h2 := HX.out
          omega⟩⟩, HZ.out⟩
      · have j3 : (150 : Int) < (m : Int) := by omega
        clear hsm
        go_wp2
        go_ret
        exact ⟨⟨_, rfl, fun h => absurd h (by decide)⟩, HZ.out⟩
end Go.Proofs.Ytegkogadceodlaa
