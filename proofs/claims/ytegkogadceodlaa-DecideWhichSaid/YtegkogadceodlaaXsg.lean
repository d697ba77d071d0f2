/-
  Contracts: Text.Great: whether a meaning has more than is asked of.
  Contract: virgulelaw06.To: a meaning copied into new memory.
  Contract: decide.Hidden.
  Contract: Bools.Is; lists of bools as they lie.
  Contract: the reference's Hidden.
  The law DecideHides: its walk, given that the calls of awake hand back yes.
  Contract: decide.Breaks at awake's rule and list; awake.
  Contract: virgulelaw07.awake; the law DecideHides.
-/
import Derived.BigQuiet
import Derived.Lib.QuietBelow
import Derived.Test.YtegkogadceodlaaXse
import Derived.Test.YtegkogadceodlaaXsb
import Derived.Test.YtegkogadceodlaaXsc
import Derived.Test.YtegkogadceodlaaXsf
namespace Go.Proofs.Ytegkogadceodlaa
open Go.RowKit Go.Shelf Go.Lib Go.Sort

/-- What is known where a meaning isn't great. -/
def smallT (t : Tx) : Prop := t.rs.length ≤ 45 ∧ t.ig.length ≤ 40 ∧ t.kp.length ≤ 40 ∧ ∀ x ∈ t.rs, szE x.l ≤ 150 ∧ szE x.r ≤ 150

/-- What Great hands back. -/
def GrPost (S : Prop) (w : World) (r : Ending) (w' : World) : Prop := (∃ b, r = .returned (.bool b) ∧ (b = false → S)) ∧ Below w.heap.size w w'

theorem two_small {m a b : Nat} (hm : m ≤ 150) (ha : a ≤ 151) (hb : b ≤ 151) : wrap64 ((m : Int) + (a : Int)) = (m : Int) + (a : Int) ∧ wrap64 ((m : Int) + (a : Int) + (b : Int)) = (m : Int) + (a : Int) + (b : Int) :=
  ⟨wrap_small (by omega), wrap_small (by omega)⟩

theorem three_small {m a b : Nat} (hm : m ≤ 150) (ha : a ≤ 151) (hb : b ≤ 151) : m + a + b ≤ 1000 ∧ (m : Int) + (a : Int) + (b : Int) = ((m + a + b : Nat) : Int) := by omega
set_option maxRecDepth 100000 in
set_option maxHeartbeats 8000000 in
theorem great_any (t : Tx) (v : Value) (w : World) (h : TxV w w.heap.size t v) :
    Calls Try.prog 24 #[v] w (GrPost (smallT t) w) := by
  obtain ⟨A1, c1, A2, c2, A3, c3, rfl, h1, h2, h3⟩ := h
  obtain ⟨W0, hW0⟩ : ∃ W0, w.alloc (.cells #[.slice A1 t.ig.length c1, .slice A2 t.kp.length c2, .slice A3 t.rs.length c3] 51) = W0 := ⟨_, rfl⟩
  have hb0 : Below w.heap.size w W0 := by rw [← hW0]; exact below_new _ _
  have hbx : Cells W0 w.heap.size 51 #[.slice A1 t.ig.length c1, .slice A2 t.kp.length c2, .slice A3 t.rs.length c3] := by rw [← hW0]; exact World.alloc_heap_new _ _
  have l1 := h1.len
  have l2 := h2.len
  have l3 := h3.len
  have h3' := h3.on hb0
  have hS : smallT t = (t.rs.length ≤ 45 ∧ t.ig.length ≤ 40 ∧ t.kp.length ≤ 40 ∧ ∀ x ∈ t.rs, szE x.l ≤ 150 ∧ szE x.r ≤ 150) := rfl
  rw [hS]
  have HW := Lib.hid hW0
  have HB := Lib.hid (And.intro hb0 hbx)
  generalize t.ig.length = n1 at *
  generalize t.kp.length = n2 at *
  generalize t.rs = rs at *
  obtain ⟨n3, hn3⟩ : ∃ n, rs.length = n := ⟨_, rfl⟩
  rw [hn3] at HW hbx l3 ⊢
  have HN := Lib.hid hn3
  have H3 := Lib.hid h3'
  have hz0 := hbx.lt
  have x2 : W0.cell? ⟨w.heap.size, 2, none⟩ = some (.slice A3 n3 c3) := by have := hbx.cell 2; simpa using this
  clear h1 h2 h3 h3' hW0 hb0 hbx hn3 hS
  by_cases g3 : 45 < n3
  · have i3 : (45 : Int) < (n3 : Int) := by omega
    clear g3
    go_enter Try.func24, Try.ntmps24
    go_wp2
    rw [HW.out]
    go_ret
    exact ⟨⟨true, rfl, fun h => by cases h⟩, HB.out.1⟩
  have i3 : decide ((45 : Int) < (n3 : Int)) = false := by simp; omega
  by_cases g1 : 40 < n1
  · have i1 : (40 : Int) < (n1 : Int) := by omega
    clear g1 g3
    go_enter Try.func24, Try.ntmps24
    go_wp2
    rw [HW.out]
    go_ret
    exact ⟨⟨true, rfl, fun h => by cases h⟩, HB.out.1⟩
  have i1 : decide ((40 : Int) < (n1 : Int)) = false := by simp; omega
  by_cases g2 : 40 < n2
  · have i2 : (40 : Int) < (n2 : Int) := by omega
    clear g1 g2 g3
    go_enter Try.func24, Try.ntmps24
    go_wp2
    rw [HW.out]
    go_ret
    exact ⟨⟨true, rfl, fun h => by cases h⟩, HB.out.1⟩
  have i2 : decide ((40 : Int) < (n2 : Int)) = false := by simp; omega
  have HSM := Lib.hid (show n3 ≤ 45 ∧ n1 ≤ 40 ∧ n2 ≤ 40 by omega)
  clear g1 g2 g3
  go_enter Try.func24, Try.ntmps24
  go_wp2_with fail
  rw [HW.out]
  go_loopw [3, 4] (fun s i wr => ∃ k m : Nat, i = .int .i64 k ∧ k ≤ n3 ∧ s = .int .i64 m ∧ m ≤ 1000 ∧ (∀ (i : Nat) (x : Ru), i < k → rs[i]? = some x → min (szE x.l) (150 + 1) + min (szE x.r) (150 + 1) ≤ m) ∧ Below W0.heap.size W0 wr) (fun _ i _ => n3 - (RowKit.intOf i).toNat)
  case atStart => exact ⟨0, 0, rfl, Nat.zero_le _, rfl, by omega, fun i x hi => by omega, Below.refl _ _⟩
  case round =>
    obtain ⟨k, m, rfl, hkn, rfl, hm, hsz, hb⟩ := hrel
    have HSZ := Lib.hid hsz
    clear hsz
    have y2 := (hb.cell (p := ⟨w.heap.size, 2, none⟩) hz0).trans x2
    have HM := Lib.hid hm
    by_cases hlt : k < n3
    · have j1 : (k : Int) < (n3 : Int) := by omega
      by_cases hsm : m ≤ 150
      · have j2 : (m : Int) ≤ 150 := by omega
        obtain ⟨x, hx⟩ : ∃ x, rs[k]? = some x := ⟨rs[k]'(by rw [HN.out]; exact hlt), List.getElem?_eq_getElem _⟩
        obtain ⟨b, o, rfl, hbl, hr⟩ := (H3.out.on hb).r (by rintro rfl; simp at hx)
        obtain ⟨B1, e1, B2, e2, ⟨k0, k1, k2, k3, k4, k5, k6⟩, hv⟩ := hr k x hx
        obtain ⟨B1', e1', B2', e2', he, hl1, hl2⟩ := hv
        have he' : B1 = B1' ∧ e1 = e1' ∧ B2 = B2' ∧ e2 = e2' := by simp at he; exact ⟨he.1.1, he.1.2, he.2.1, he.2.2⟩
        obtain ⟨rfl, rfl, rfl, rfl⟩ := he'
        have D1 : ∀ d os, Calls Try.prog 36 #[.agg #[.int .i64 x.l.k, .int .i64 x.l.c, .slice B1 x.l.ks.length e1], .int .i64 150] (grow (redrawn wr d) os) fun e w'' => e = .returned (.int .i64 ((min (szE x.l) (150 + 1) : Nat) : Int)) ∧ ∃ p : Regrown, w'' = grow (redrawn wr p.d) p.os :=
          fun d os => Calls.regrown_of (size_any _ x.l (Nat.le_refl _) _ 150 _ (hl1.on (below_regrown wr d os)) (by omega))
        have D2 : ∀ d os, Calls Try.prog 36 #[.agg #[.int .i64 x.r.k, .int .i64 x.r.c, .slice B2 x.r.ks.length e2], .int .i64 150] (grow (redrawn wr d) os) fun e w'' => e = .returned (.int .i64 ((min (szE x.r) (150 + 1) : Nat) : Int)) ∧ ∃ p : Regrown, w'' = grow (redrawn wr p.d) p.os :=
          fun d os => Calls.regrown_of (size_any _ x.r (Nat.le_refl _) _ 150 _ (hl2.on (below_regrown wr d os)) (by omega))
        obtain ⟨s1, hs1⟩ : ∃ s, min (szE x.l) (150 + 1) = s := ⟨_, rfl⟩
        obtain ⟨s2, hs2⟩ : ∃ s, min (szE x.r) (150 + 1) = s := ⟨_, rfl⟩
        rw [hs1] at D1
        rw [hs2] at D2
        have hnext : ∀ (i : Nat) (y : Ru), i < k + 1 → rs[i]? = some y → min (szE y.l) (150 + 1) + min (szE y.r) (150 + 1) ≤ m + s1 + s2 := by
          intro i y hi hy
          by_cases hik : i = k
          · subst hik
            rw [hx] at hy
            injection hy with hy
            subst hy
            omega
          · have := HSZ.out i y (by omega) hy
            omega
        have HNX := Lib.hid hnext
        clear hnext
        have hsb : s1 ≤ 151 ∧ s2 ≤ 151 := by omega
        have g0 := cell_regrown k0
        have g1 := cell_regrown k1
        have g2 := cell_regrown k2
        have g3 := cell_regrown k3
        have g4 := cell_regrown k4
        have g5 := cell_regrown k5
        have gy := cell_regrown y2
        obtain ⟨hw1, hw2⟩ := two_small hsm hsb.1 hsb.2
        have HT3 := Lib.hid (three_small hsm hsb.1 hsb.2)
        have HW2 := Lib.hid hw2
        have HH := Lib.hid (And.intro hb (And.intro hlt (And.intro hsb hsm)))
        clear hs1 hs2 hsb hb hl1 hl2 he hr hx hm hsm k0 k1 k2 k3 k4 k5 k6
        generalize x.l.k = f1 at *
        generalize x.l.c = f2 at *
        generalize x.r.k = f3 at *
        generalize x.r.c = f4 at *
        generalize x.l.ks.length = m1 at *
        generalize x.r.ks.length = m2 at *
        go_wp2_with fail
        refine wp_region_quiet_below (by kernel_rfl) (by kernel_rfl) ?_
        iterate 8 (go_big_quiet_step (exact D1 _ _))
        clear D1
        iterate 8 (go_big_quiet_step (exact D2 _ _))
        clear D2
        repeat (go_big_quiet_step (fail))
        refine wpQuiet_nil ?_
        intro _ hw'
        obtain ⟨⟨dq, osq⟩, hw''⟩ := hw'
        subst hw''
        have HB2 := Lib.hid (HH.out.1.trans ((below_regrown wr dq osq).mono HH.out.1.size))
        clear g0 g1 g2 g3 g4 g5 gy
        go_wp2
        go_roundw
        case rel => exact ⟨k + 1, m + s1 + s2, by go_num, by omega, by rw [← HT3.out.2, HW2.out], HT3.out.1, HNX.out, HB2.out⟩
        case measure => simp [RowKit.intOf]; omega
      · have j2 : decide ((m : Int) ≤ 150) = false := by simp; omega
        have j3 : (150 : Int) < (m : Int) := by omega
        have HZ := Lib.hid (HB.out.1.trans (hb.mono HB.out.1.size))
        clear hb hm hsm
        go_wp2
        go_ret
        exact ⟨⟨_, rfl, fun h => absurd h (by decide)⟩, HZ.out⟩
    · have hkn : k = n3 := by omega
      subst hkn
      have j1 : ¬ (k : Int) < (k : Int) := by omega
      have HZ := Lib.hid (HB.out.1.trans (hb.mono HB.out.1.size))
      clear hb hm
      by_cases hsm : m ≤ 150
      · have j3 : ¬ (150 : Int) < (m : Int) := by omega
        have HX := Lib.hid hsm
        clear hsm
        go_wp2
        go_ret
        exact ⟨⟨_, rfl, fun _ => ⟨HSM.out.1, HSM.out.2.1, HSM.out.2.2, fun x hx => by
          obtain ⟨i, hi⟩ := List.getElem?_of_mem hx
          have h1 := HSZ.out i x (by rw [← HN.out]; exact (List.getElem?_eq_some_iff.1 hi).1) hi
          have h2 := HX.out
          omega⟩⟩, HZ.out⟩
      · have j3 : (150 : Int) < (m : Int) := by omega
        clear hsm
        go_wp2
        go_ret
        exact ⟨⟨_, rfl, fun h => absurd h (by decide)⟩, HZ.out⟩
end Go.Proofs.Ytegkogadceodlaa

namespace Go.Proofs.Ytegkogadceodlaa
open Go.RowKit Go.Shelf Go.Lib Go.Sort

theorem info68 : (Try.prog.info? 68).map (fun i => (i.zero.map (fun z => z.cells.size), i.size, i.bytes)) = some (some 7, 7, 88) := by kernel_rfl
/-- The rules that were turned so far: their cells in the row, what they are; the row is none of their blocks. -/
def KidsR (w : World) (base : Nat) (v : Value) (rs : List Ru) (j : Nat) (cs : List Value) : Prop :=
  cs.length = j * 7 ∧ ∀ (i : Nat) (x : Ru), i < j → rs[i]? = some x → ∃ A1 c1 A2 c2, (∀ (q : Nat) (u : Value), (nc x.l A1 c1 ++ nc x.r A2 c2 ++ [.bool x.b])[q]? = some u → cs[i * 7 + q]? = some u) ∧
    NdP w (fun b => base ≤ b ∧ b < w.heap.size ∧ v.ownBlock ≠ some b) x.l (.agg #[.int .i64 x.l.k, .int .i64 x.l.c, .slice A1 x.l.ks.length c1]) ∧ NdP w (fun b => base ≤ b ∧ b < w.heap.size ∧ v.ownBlock ≠ some b) x.r (.agg #[.int .i64 x.r.k, .int .i64 x.r.c, .slice A2 x.r.ks.length c2])
theorem seven_lt {x : Ru} {A1 : Option Addr} {c1 : Nat} {A2 : Option Addr} {c2 q : Nat} {u : Value} (h : (nc x.l A1 c1 ++ nc x.r A2 c2 ++ [.bool x.b])[q]? = some u) : q < 7 := by
  have := (List.getElem?_eq_some_iff.1 h).1
  simpa [nc] using this
theorem KidsR.step {w w6 w7 : World} {base : Nat} {v v7 : Value} {rs : List Ru} {j g : Nat} {cs : List Value} {x : Ru} {A1 : Option Addr} {c1 : Nat} {A2 : Option Addr} {c2 : Nat} (h : KidsR w base v rs j cs) (hx : rs[j]? = some x)
    (hown : ∀ b, v.ownBlock = some b → b < w.heap.size) (h5 : NdP w6 (fun b => w.heap.size ≤ b ∧ b < w6.heap.size) x.l (.agg #[.int .i64 x.l.k, .int .i64 x.l.c, .slice A1 x.l.ks.length c1])) (h6 : NdP w6 (fun b => w.heap.size ≤ b ∧ b < w6.heap.size) x.r (.agg #[.int .i64 x.r.k, .int .i64 x.r.c, .slice A2 x.r.ks.length c2]))
    (hb6 : Below w.heap.size w w6) (hbase : base ≤ w.heap.size) (hg7 : w6.grownBy w7 v.ownBlock) (hv7 : v7.ownBlock = some g) (hg : v.ownBlock = some g ∨ w6.heap.size ≤ g) : KidsR w7 base v7 rs (j + 1) (cs ++ (nc x.l A1 c1 ++ nc x.r A2 c2 ++ [.bool x.b])) := by
  have hs7 := hg7.size
  have hs6 := hb6.size
  have mv : ∀ {e : E} {u : Value}, NdP w6 (fun b => w.heap.size ≤ b ∧ b < w6.heap.size) e u → NdP w7 (fun b => base ≤ b ∧ b < w7.heap.size ∧ v7.ownBlock ≠ some b) e u := fun hn => hn.blocks (fun b hb => ⟨by omega, by omega, by
    rw [hv7]
    intro e'
    injection e' with e'
    rcases hg with hg | hg
    · have := hown g hg; omega
    · omega⟩) (fun b hb => hg7.block b hb.2 (fun e' => by have := hown b e'.symm; omega))
  refine ⟨by rw [List.length_append, h.1]; simp [nc]; omega, fun i y hi hy => ?_⟩
  by_cases hij : i = j
  · subst hij
    obtain rfl : x = y := by rw [hx] at hy; injection hy
    refine ⟨A1, c1, A2, c2, fun q u hq => ?_, mv h5, mv h6⟩
    rw [List.getElem?_append_right (by rw [h.1]; omega), h.1, show i * 7 + q - i * 7 = q by omega]
    exact hq
  · obtain ⟨B1, d1, B2, d2, hc, hN1, hN2⟩ := h.2 i y (by omega) hy
    have mv2 : ∀ {e : E} {u : Value}, NdP w (fun b => base ≤ b ∧ b < w.heap.size ∧ v.ownBlock ≠ some b) e u → NdP w7 (fun b => base ≤ b ∧ b < w7.heap.size ∧ v7.ownBlock ≠ some b) e u := fun hn => hn.blocks (fun b hb => ⟨hb.1, by omega, by
      rw [hv7]
      intro e'
      injection e' with e'
      rcases hg with hg | hg
      · exact hb.2.2 (by rw [hg, e'])
      · omega⟩) (fun b hb => (hg7.block b (by omega) (fun e' => hb.2.2 e'.symm)).trans (hb6.block b hb.2.1))
    refine ⟨B1, d1, B2, d2, fun q u hq => ?_, mv2 hN1, mv2 hN2⟩
    have hl := h.1
    have hq7 := seven_lt hq
    rw [List.getElem?_append_left (by omega)]
    exact hc q u hq
theorem KidsR.blocks {w w' : World} {base : Nat} {v : Value} {rs : List Ru} {j : Nat} {cs : List Value} (h : KidsR w base v rs j cs) (hb : ∀ b, base ≤ b → b < w.heap.size → w'.heap[b]? = w.heap[b]?) (hs : w.heap.size ≤ w'.heap.size) : KidsR w' base v rs j cs :=
  ⟨h.1, fun i x hi hx => by
    obtain ⟨B1, d1, B2, d2, hc, hN1, hN2⟩ := h.2 i x hi hx
    exact ⟨B1, d1, B2, d2, hc, hN1.blocks (fun b hb' => ⟨hb'.1, by omega, hb'.2.2⟩) (fun b hb' => hb b hb'.1 hb'.2.1), hN2.blocks (fun b hb' => ⟨hb'.1, by omega, hb'.2.2⟩) (fun b hb' => hb b hb'.1 hb'.2.1)⟩⟩
/-- All rules: the list lies in memory. -/
theorem KidsR.full {w : World} {base : Nat} {v : Value} {rs : List Ru} {cs : List Value} (h : KidsR w base v rs rs.length cs) (hown : w.ownsRow base 68 7 v rs.length cs) :
    ∃ A cap, v = .slice A rs.length cap ∧ RsAt w w.heap.size rs A cap := by
  rcases hown.2 with ⟨h1, h2⟩ | ⟨g, cap, cur, h1, h3, h4, h5, h6, h7, h8⟩
  · have : rs = [] := List.eq_nil_of_length_eq_zero h2
    subst this
    exact ⟨none, 0, by rw [h1]; rfl, by simp, by unfold maxLen; omega, fun hn => absurd rfl hn⟩
  · refine ⟨_, cap, h1, h5, h6, fun _ => ⟨g, 0, rfl, (Array.getElem?_eq_some_iff.1 h4).1, fun i x hx => ?_⟩⟩
    obtain ⟨B1, d1, B2, d2, hc, hN1, hN2⟩ := h.2 i x (List.getElem?_eq_some_iff.1 hx).1 hx
    have cc := fun j u hj => World.ownsRow.cells hown (g := g) (by rw [h1]; rfl) j u hj
    have d : ∀ (j : Nat) (u : Value), cs[j]? = some u → w.cell? ⟨g, j, none⟩ = some u := fun j u hj => by have := cc j u hj; rwa [add0] at this
    have n1 := NdP.nd (fun b hb => hb.2.1) _ _ _ (Nat.le_refl _) hN1
    have n2 := NdP.nd (fun b hb => hb.2.1) _ _ _ (Nat.le_refl _) hN2
    refine ⟨B1, d1, B2, d2, ⟨?_, ?_, ?_, ?_, ?_, ?_, ?_⟩, ⟨B1, d1, B2, d2, rfl, n1, n2⟩⟩
    · rw [Nat.zero_add]; exact d _ _ (hc 0 _ rfl)
    · rw [Nat.zero_add]; exact d _ _ (hc 1 _ rfl)
    · rw [Nat.zero_add]; exact d _ _ (hc 2 _ rfl)
    · rw [Nat.zero_add]; exact d _ _ (hc 3 _ rfl)
    · rw [Nat.zero_add]; exact d _ _ (hc 4 _ rfl)
    · rw [Nat.zero_add]; exact d _ _ (hc 5 _ rfl)
    · rw [Nat.zero_add]; exact d _ _ (hc 6 _ rfl)
set_option maxHeartbeats 8000000 in
set_option maxRecDepth 100000 in
theorem toT_any (t : Tx) (v : Value) (w : World) (h : TxV w w.heap.size t v) (hmx : ∀ x ∈ t.rs, szE x.l ≤ 100000 ∧ szE x.r ≤ 100000) (hn : t.rs.length ≤ 900) :
    Calls Try.prog 27 #[v] w fun e w' => ∃ v', e = .returned v' ∧ TxV w' w'.heap.size t v' ∧ Below w.heap.size w w' := by
  obtain ⟨A1, c1, A2, c2, A3, c3, rfl, h1, h2, h3⟩ := h
  obtain ⟨s1, hs1⟩ : ∃ s, Value.slice A1 t.ig.length c1 = s := ⟨_, rfl⟩
  obtain ⟨s2, hs2⟩ : ∃ s, Value.slice A2 t.kp.length c2 = s := ⟨_, rfl⟩
  have o1 : s1.oneCell' = true := by rw [← hs1]; rfl
  have HO := Lib.hid (And.intro hs1 hs2)
  clear hs1 hs2 o1
  obtain ⟨W1, hW1⟩ : ∃ W, w.alloc (.cells #[.slice A1 t.ig.length c1, .slice A2 t.kp.length c2, .slice A3 t.rs.length c3] 50) = W := ⟨_, rfl⟩
  obtain ⟨W2, hW2⟩ : ∃ W, W1.alloc (.cells #[.slice none 0 0, .slice none 0 0, .slice none 0 0] 57) = W := ⟨_, rfl⟩
  obtain ⟨W3, hW3⟩ : ∃ W, W2.alloc (.cells #[.slice A1 t.ig.length c1, .slice A2 t.kp.length c2, .slice none 0 0] 57) = W := ⟨_, rfl⟩
  have z1 : W1.heap.size = w.heap.size + 1 := by rw [← hW1]; simp
  have z2 : W2.heap.size = w.heap.size + 1 + 1 := by rw [← hW2]; simp [z1]
  have z3 : W3.heap.size = w.heap.size + 1 + 1 + 1 := by rw [← hW3]; simp [z2]
  have b1 : Below w.heap.size w W1 := by rw [← hW1]; exact below_new _ _
  have b2 : Below W1.heap.size W1 W2 := by rw [← hW2]; exact below_new _ _
  have b3 : Below W2.heap.size W2 W3 := by rw [← hW3]; exact below_new _ _
  have x1 : Cells W3 w.heap.size 50 #[.slice A1 t.ig.length c1, .slice A2 t.kp.length c2, .slice A3 t.rs.length c3] := (b3.block _ (by omega)).trans ((b2.block _ (by omega)).trans (by rw [← hW1]; exact cells_new _ _ _))
  have x2 : Cells W3 (w.heap.size + 1) 57 #[.slice none 0 0, .slice none 0 0, .slice none 0 0] := (b3.block _ (by omega)).trans (by rw [← hW2, ← z1]; exact cells_new _ _ _)
  have x3 : Cells W3 (w.heap.size + 1 + 1) 57 #[.slice A1 t.ig.length c1, .slice A2 t.kp.length c2, .slice none 0 0] := by rw [← hW3, ← z2]; exact cells_new _ _ _
  have b13 : Below w.heap.size w W3 := b1.trans ((b2.mono (by omega)).trans (b3.mono (by omega)))
  have HW := Lib.hid (And.intro hW1 (And.intro hW2 (And.intro hW3 z3)))
  have H3 := Lib.hid (And.intro x1 (And.intro x2 (And.intro x3 (And.intro b13 (And.intro h1 (And.intro h2 h3))))))
  have HM := Lib.hid hmx
  obtain ⟨n, hN⟩ : ∃ n, t.rs.length = n := ⟨_, rfl⟩
  have HN := Lib.hid hN
  rw [hN] at hn HW H3 ⊢
  clear hW1 hW2 hW3 z1 z2 z3 b1 b2 b3 x1 x2 x3 b13 h1 h2 h3 hmx hN HO
  go_enter Try.func27, Try.ntmps27
  go_wp2_with fail
  rw [HW.out.1, HW.out.2.1, HW.out.2.2.1]
  go_loopw [4] (fun v wr => ∃ (j : Nat) (u : Value) (cs : List Value), v = .int .i64 (j : Int) ∧ j ≤ n ∧ Cells wr (w.heap.size + 1 + 1) 57 #[.slice A1 t.ig.length c1, .slice A2 t.kp.length c2, u] ∧ W3.grownBy wr (some (w.heap.size + 1 + 1)) ∧ wr.ownsRow W3.heap.size 68 7 u j cs ∧ KidsR wr W3.heap.size u t.rs j cs) (fun v _ => n - (RowKit.intOf v).toNat)
  case atStart => exact ⟨0, .slice none 0 0, [], rfl, by omega, H3.out.2.2.1, World.grownBy.refl _ _, World.ownsRow_nil _ _ _ _, rfl, fun i f hi => by omega⟩
  case round =>
    obtain ⟨j, u, cs, rfl, hj, hx3, hg, hown, hkids⟩ := hrel
    have hx1 : Cells wr w.heap.size 50 #[.slice A1 t.ig.length c1, .slice A2 t.kp.length c2, .slice A3 n c3] := (hg.block _ H3.out.1.lt (by simp; omega)).trans H3.out.1
    have d2 := hx1.cell 2
    simp at d2
    have hbw : Below w.heap.size w wr := H3.out.2.2.2.1.trans ⟨hg.os, hg.tape, hg.output, hg.size, fun k hk => hg.block k (by have := HW.out.2.2.2; omega) (by simp; omega)⟩
    by_cases hlt : j < n
    · have i1 : (j : Int) < (n : Int) := by omega
      obtain ⟨x, hx⟩ : ∃ x, t.rs[j]? = some x := ⟨t.rs[j]'(by rw [HN.out]; exact hlt), List.getElem?_eq_getElem _⟩
      obtain ⟨bq, oq, rfl, hbl, hr⟩ := (H3.out.2.2.2.2.2.2.below hbw).r (by rintro e; rw [e] at hx; simp at hx)
      obtain ⟨D1, d1, D2, d2', ⟨k0, k1, k2, k3, k4, k5, k6⟩, hv⟩ := hr j x hx
      obtain ⟨_, _, _, _, he, hv1, hv2⟩ := hv
      injection he with he
      have he' := congrArg Array.toList he
      simp at he'
      obtain ⟨⟨rfl, rfl⟩, rfl, rfl⟩ := he'
      clear he
      obtain ⟨Au, cu, rfl⟩ := own_formN hown
      have q1 : ∀ p : Later (fun _ => False) wr, p.W.cell? ⟨w.heap.size + 1 + 1, 2, none⟩ = some (.slice Au j cu) := fun p => cell_later (hx3.cell 2) (fun hf => hf) p
      have q2 : ∀ p : Later (fun _ => False) wr, p.W.cell? ⟨w.heap.size, 2, none⟩ = some (.slice (some ⟨bq, oq, none⟩) n c3) := fun p => cell_later (hx1.cell 2) (fun hf => hf) p
      have g0 : ∀ p : Later (fun _ => False) wr, p.W.cell? ⟨bq, oq + j * 7, none⟩ = some (.int .i64 x.l.k) := fun p => cell_later k0 (fun hf => hf) p
      have g1 : ∀ p : Later (fun _ => False) wr, p.W.cell? ⟨bq, oq + j * 7 + 1, none⟩ = some (.int .i64 x.l.c) := fun p => cell_later k1 (fun hf => hf) p
      have g2 : ∀ p : Later (fun _ => False) wr, p.W.cell? ⟨bq, oq + j * 7 + 2, none⟩ = some (.slice D1 x.l.ks.length d1) := fun p => cell_later k2 (fun hf => hf) p
      have g3 : ∀ p : Later (fun _ => False) wr, p.W.cell? ⟨bq, oq + j * 7 + 3, none⟩ = some (.int .i64 x.r.k) := fun p => cell_later k3 (fun hf => hf) p
      have g4 : ∀ p : Later (fun _ => False) wr, p.W.cell? ⟨bq, oq + j * 7 + 4, none⟩ = some (.int .i64 x.r.c) := fun p => cell_later k4 (fun hf => hf) p
      have g5 : ∀ p : Later (fun _ => False) wr, p.W.cell? ⟨bq, oq + j * 7 + 5, none⟩ = some (.slice D2 x.r.ks.length d2') := fun p => cell_later k5 (fun hf => hf) p
      have g6 : ∀ p : Later (fun _ => False) wr, p.W.cell? ⟨bq, oq + j * 7 + 6, none⟩ = some (.bool x.b) := fun p => cell_later k6 (fun hf => hf) p
      have HP := Lib.hid (And.intro hx3 (And.intro hg (And.intro hown (And.intro hkids (And.intro hx1 (And.intro hx (And.intro hbw (And.intro hv1 hv2))))))))
      clear hx3 hg hown hkids hx1 hx hr hbw hv1 hv2 k0 k1 k2 k3 k4 k5 k6
      go_wp2_with fail
      refine wp_region_mix0 (fun i => if i = 8 then 2 else if i = 15 then 2 else if i = 22 then 2 else if i = 23 then 2 else if 24 ≤ i then 3 else 0) [0, 1, 2, 3, 4, 5, 6, 7, 9, 10, 11, 12, 13, 14, 16, 17, 18, 19, 20, 21] [8, 15, 22, 23, 24, 25, 26] (fun w' => ∃ p : Later (fun _ => False) wr, w' = p.W) (by kernel_rfl) (by kernel_rfl) ⟨⟨_, Fz.drew wr⟩, rfl⟩ ?_
      simp only [opsAt, List.filterMap_cons, List.filterMap_nil, List.getElem?_toArray, List.getElem?_cons_zero, List.getElem?_cons_succ]
      change wpQuiet _ _ _ _ [_, _, _, _, _, _, _, _, _, _, _, _, _, _, _, _, _, _, _, _] _
      repeat (go_big_quiet_step (fail))
      refine wpQuiet_nil ?_
      clear q1 q2 g0 g1 g2 g3 g4 g5 g6
      have zz := Fz.drew (X := fun _ => False) wr
      have bd := zz.below (B := wr.heap.size) (Nat.le_refl _) (fun _ _ h => h)
      obtain ⟨W4, hW4⟩ : ∃ V, ({ wr with drawn := wr.drawn + 1 } : World) = V := ⟨_, rfl⟩
      rw [hW4] at zz bd ⊢
      clear hW4
      have hbs := HP.out.2.2.2.2.2.2.1.size
      have bw4 := bd.mono hbs
      have b4 := HP.out.2.2.2.2.2.2.1.trans bw4
      have n1 := (HP.out.2.2.2.2.2.2.2.1.below bw4).mono b4.size
      have HC1 := to_any (szE x.l) x.l (Nat.le_refl _) (HM.out x (List.mem_of_getElem? HP.out.2.2.2.2.2.1)).1 _ W4 n1
      have H4 := Lib.hid (And.intro zz (And.intro bd (And.intro bw4 b4)))
      clear zz bd bw4 b4 n1
      refine wpSeqM_step rfl ?_
      go_wp2_with fail
      refine HC1.mono ?_
      rintro r W5 ⟨v5, rfl, hN5, hb5⟩
      clear HC1
      obtain ⟨_, _, A5, c5, rfl, _⟩ := NdP_iff.1 hN5
      have s4 := H4.out.2.2.2.size
      have b45 := hb5.mono s4
      have n2 := ((HP.out.2.2.2.2.2.2.2.2.below H4.out.2.2.1).below b45).mono (H4.out.2.2.2.trans b45).size
      have HC2 := to_any (szE x.r) x.r (Nat.le_refl _) (HM.out x (List.mem_of_getElem? HP.out.2.2.2.2.2.1)).2 _ W5 n2
      have H5 := Lib.hid (And.intro hN5 (And.intro hb5 (H4.out.1.trans (Fz.of_below hb5))))
      clear hN5 hb5 n2 b45
      go_wp2_with fail
      refine ⟨⟨⟨_, H5.out.2.2⟩, rfl⟩, ?_⟩
      refine wpSeqM_step rfl ?_
      go_wp2_with fail
      refine HC2.mono ?_
      rintro r W6 ⟨v6, rfl, hN6, hb6⟩
      clear HC2
      obtain ⟨_, _, A6, c6, rfl, _⟩ := NdP_iff.1 hN6
      have s5 := H5.out.2.1.size
      have s6 := hb6.size
      have b46 := H5.out.2.1.trans (hb6.mono s5)
      have m5 : NdP W6 (fun b => W4.heap.size ≤ b ∧ b < W6.heap.size) x.l (.agg #[.int .i64 x.l.k, .int .i64 x.l.c, .slice A5 x.l.ks.length c5]) := H5.out.1.blocks (fun b hb => ⟨hb.1, by omega⟩) (fun b hb => hb6.block b hb.2)
      have m6 : NdP W6 (fun b => W4.heap.size ≤ b ∧ b < W6.heap.size) x.r (.agg #[.int .i64 x.r.k, .int .i64 x.r.c, .slice A6 x.r.ks.length c6]) := hN6.blocks (fun b hb => ⟨by omega, hb.2⟩) (fun _ _ => rfl)
      have bt := H4.out.2.1.trans (b46.mono H4.out.2.1.size)
      have own4 := ownsRow_below HP.out.2.2.1 H4.out.2.1
      have own6 := ownsRow_below HP.out.2.2.1 bt
      have hx36 := HP.out.1.on bt
      have hg6 := HP.out.2.1.trans (grownB bt (some (w.heap.size + 1 + 1)))
      have hk4 : KidsR W4 W3.heap.size (.slice Au j cu) t.rs j cs := HP.out.2.2.2.1.blocks (fun b _ hb => H4.out.2.1.block b hb) H4.out.2.1.size
      have h34 : W3.heap.size ≤ W4.heap.size := Nat.le_trans HP.out.2.1.size H4.out.2.1.size
      have H6 := Lib.hid (And.intro m5 (And.intro m6 (And.intro b46 (And.intro own4 (And.intro own6 (And.intro hx36 (And.intro hg6 (And.intro hk4 (H5.out.2.2.trans (Fz.of_below hb6))))))))))
      clear hN6 hb6 m5 m6 b46 bt own4 own6 hx36 hg6 hk4
      go_wp2_with fail
      refine ⟨⟨⟨_, H6.out.2.2.2.2.2.2.2.2⟩, rfl⟩, ?_⟩
      refine wpSeqM_step rfl ?_
      go_wp2_with fail
      refine ⟨⟨⟨_, H6.out.2.2.2.2.2.2.2.2⟩, rfl⟩, ?_⟩
      refine wpSeqM_step rfl ?_
      go_wp2_with fail
      refine ⟨⟨⟨_, H6.out.2.2.2.2.2.2.2.2.trans (Fz.of_below (below_new W6 _))⟩, rfl⟩, ?_⟩
      refine wpSeqM_step rfl ?_
      refine wpList_appN Try.underlying55 info68 (by omega) (by omega) rfl (.tmp 18) (.tmp 40) rfl W3.heap.size (.slice Au j cu) j cs #[.int .i64 x.l.k, .int .i64 x.l.c, .slice A5 x.l.ks.length c5, .int .i64 x.r.k, .int .i64 x.r.c, .slice A6 x.r.ks.length c6, .bool x.b] rfl (fun u hu => by simp at hu; rcases hu with rfl | rfl | rfl | rfl | rfl | rfl | rfl <;> rfl) rfl W6 H6.out.2.2.2.2.1 rfl rfl (by omega) (by omega) ?_
      intro g cp w7 ho7 hg7 hn7 hl7
      have nb : ∀ b, (Value.slice Au j cu).ownBlock = some b → W3.heap.size ≤ b ∧ b < W4.heap.size := own_block_lt H6.out.2.2.2.1
      have z3 := HW.out.2.2.2
      have hz7 : Fz (fun b => (Value.slice Au j cu).ownBlock = some b) W6 w7 := Fz.of_grown hg7 (fun k e => e)
      have hx7 := hz7.cells (fun e => by have := nb _ e; omega) H6.out.2.2.2.2.2.1
      have hg36 := H6.out.2.2.2.2.2.2.1
      have hg37 : W3.grownBy w7 (some (w.heap.size + 1 + 1)) := ⟨hg7.os.trans hg36.os, hg7.tape.trans hg36.tape, hg7.output.trans hg36.output, Nat.le_trans hg36.size hg7.size, fun k hk hn => (hg7.block k (Nat.lt_of_lt_of_le hk hg36.size) (fun e' => by have := nb k e'.symm; omega)).trans (hg36.block k hk hn)⟩
      have hk7 : KidsR w7 W3.heap.size (.slice (some ⟨g, 0, none⟩) (j + 1) cp) t.rs (j + 1) (cs ++ (nc x.l A5 c5 ++ nc x.r A6 c6 ++ [.bool x.b])) := KidsR.step (g := g) (w := W4) H6.out.2.2.2.2.2.2.2.1 HP.out.2.2.2.2.2.1 (fun b hb => (nb b hb).2) H6.out.1 H6.out.2.1 H6.out.2.2.1 h34 hg7 rfl hn7
      have hgb : W3.heap.size ≤ g := by
        rcases hn7 with hn7 | hn7
        · exact (nb g hn7).1
        · omega
      have d7 := hx7.cell 2
      simp at d7
      have f7 := hx7.froz 2
      have H7 := Lib.hid (And.intro ho7 (And.intro hg37 (And.intro hx7 hk7)))
      clear ho7 hg7 hn7 hz7 hx7 hg36 hg37 hk7 nb
      go_wp2_with fail
      refine wpSeqM_step rfl ?_
      go_wp2_with fail
      refine wpSeqM_step rfl ?_
      go_wp2_with fail
      unfold wpSeqM
      have fs := Fz.set (X := fun b => b = w.heap.size + 1 + 1) w7 (w.heap.size + 1 + 1) 2 (.slice (some ⟨g, 0, none⟩) (j + 1) cp) rfl
      have hx8 : Cells (w7.setCell ⟨w.heap.size + 1 + 1, 2, none⟩ (.slice (some ⟨g, 0, none⟩) (j + 1) cp)) (w.heap.size + 1 + 1) 57 #[.slice A1 t.ig.length c1, .slice A2 t.kp.length c2, .slice (some ⟨g, 0, none⟩) (j + 1) cp] := H7.out.2.2.1.set 2 _
      have ho8 := own_fz H7.out.1 fs (fun b e he => by simp [Value.ownBlock] at e; omega)
      have hk8 := H7.out.2.2.2.blocks (w' := w7.setCell ⟨w.heap.size + 1 + 1, 2, none⟩ (.slice (some ⟨g, 0, none⟩) (j + 1) cp)) (fun b hb hb2 => fs.block b hb2 (by omega)) fs.size
      have hend : ∃ (j' : Nat) (u' : Value) (cs' : List Value), Value.int .i64 ((j : Int) + 1) = .int .i64 (j' : Int) ∧ j' ≤ n ∧ Cells (w7.setCell ⟨w.heap.size + 1 + 1, 2, none⟩ (.slice (some ⟨g, 0, none⟩) (j + 1) cp)) (w.heap.size + 1 + 1) 57 #[.slice A1 t.ig.length c1, .slice A2 t.kp.length c2, u'] ∧ W3.grownBy (w7.setCell ⟨w.heap.size + 1 + 1, 2, none⟩ (.slice (some ⟨g, 0, none⟩) (j + 1) cp)) (some (w.heap.size + 1 + 1)) ∧
          (w7.setCell ⟨w.heap.size + 1 + 1, 2, none⟩ (.slice (some ⟨g, 0, none⟩) (j + 1) cp)).ownsRow W3.heap.size 68 7 u' j' cs' ∧ KidsR (w7.setCell ⟨w.heap.size + 1 + 1, 2, none⟩ (.slice (some ⟨g, 0, none⟩) (j + 1) cp)) W3.heap.size u' t.rs j' cs' :=
        ⟨j + 1, _, _, by simp, by omega, hx8, H7.out.2.1.trans (grown_setc _ _ _ _), ho8, hk8⟩
      have HEND := Lib.hid hend
      clear hx8 ho8 hk8 hend d7 f7 fs
      go_wp2_with fail
      go_roundw
      case rel => exact HEND.out
      case measure => simp [RowKit.intOf]; omega
    · obtain rfl : j = n := by omega
      have i1 : ¬ (j : Int) < (j : Int) := by omega
      have hown' : wr.ownsRow W3.heap.size 68 7 u t.rs.length cs := by rw [HN.out]; exact hown
      have hkids' : KidsR wr W3.heap.size u t.rs t.rs.length cs := by rw [HN.out]; exact hkids
      obtain ⟨A6, c6, rfl⟩ := own_formN hown
      have hx2 : Cells wr (w.heap.size + 1) 57 #[.slice none 0 0, .slice none 0 0, .slice none 0 0] := (hg.block _ H3.out.2.1.lt (by simp)).trans H3.out.2.1
      have z3 := HW.out.2.2.2
      have hs3 := hbw.size
      have hg3 := hg.size
      have hf := ((Fz.set (X := fun b => b = w.heap.size + 1) wr (w.heap.size + 1) 0 (.slice A1 t.ig.length c1) rfl).trans (Fz.set _ (w.heap.size + 1) 1 (.slice A2 t.kp.length c2) rfl)).trans (Fz.set _ (w.heap.size + 1) 2 (.slice A6 j c6) rfl)
      have hy := ((hx2.set 0 (.slice A1 t.ig.length c1)).set 1 (.slice A2 t.kp.length c2)).set 2 (.slice A6 j c6)
      have ho9 := own_fz hown' hf (fun b e he => by have := (own_block_lt hown' b e).1; omega)
      have hk9 := hkids'.blocks (fun b hb hb2 => hf.block b hb2 (by omega)) hf.size
      obtain ⟨A7, c7, he7, hrs⟩ := hk9.full ho9
      have he8 : A6 = A7 ∧ c6 = c7 := by injection he7 with q1 q2 q3; exact ⟨q1, q3⟩
      obtain ⟨rfl, rfl⟩ := he8
      have hb9 := hbw.trans (hf.below (B := w.heap.size) (by omega) (fun b hb e => by omega))
      have e0 := hx3.cell 0
      have e1 := hx3.cell 1
      have e2 := hx3.cell 2
      have r0 := hx2.cell 0
      have r1 := hx2.cell 1
      have r2 := hx2.cell 2
      have s0 := hx2.froz 0
      have s1 := hx2.froz 1
      have s2 := hx2.froz 2
      simp at e0 e1 e2 r0 r1 r2
      have HK := Lib.hid (And.intro hy (And.intro hrs hb9))
      clear hx3 hg hown hkids hown' hkids' hx2 hbw hf hy ho9 hk9 he7 hrs hb9
      go_wp2_with fail
      refine bodyPost_ret (v := .agg #[.slice A1 t.ig.length c1, .slice A2 t.kp.length c2, .slice A6 j c6]) (results_cell_row rfl _ _ (w.heap.size + 1) 57 #[.slice A1 t.ig.length c1, .slice A2 t.kp.length c2, .slice A6 j c6] (0, 0) _ rfl HK.out.1 Try.underlying57 rfl (by kernel_rfl)) rfl ⟨_, rfl, ⟨A1, c1, A2, c2, A6, c6, by rw [HN.out], ?_, ?_, HK.out.2.1⟩, HK.out.2.2⟩
      · exact (H3.out.2.2.2.2.1.below HK.out.2.2).mono HK.out.2.2.size
      · exact (H3.out.2.2.2.2.2.1.below HK.out.2.2).mono HK.out.2.2.size
end Go.Proofs.Ytegkogadceodlaa

namespace Go.Proofs.Ytegkogadceodlaa
open Go.RowKit Go.Shelf Go.Lib Go.Sort

theorem fld109 (a c d : Value) (A : Option Addr) (n k : Nat) (w : World) : (Instr.field 109 (.agg #[a, .slice A n k, c, d]) 1).run Try.prog w = .ok (.slice A n k) w := by kernel_rfl
set_option maxRecDepth 100000 in
set_option maxHeartbeats 4000000 in
theorem hidden_any (t : Tx) (v : Value) (ids : List Int) (A : Option Addr) (cap : Nat) (w : World) (h : TxV w w.heap.size t v) (hi : IS w w.heap.size ids A cap) (hn : ids.length ≤ 900) :
    Calls Try.prog 33 #[v, .slice A ids.length cap] w fun e w' => ∃ v', e = .returned v' ∧ w'.ownsRow w.heap.size 4 1 v' ids.length (bL (rdF (knownT t).ig (knownT t).kp ids).1) ∧ Below w.heap.size w w' := by
  have h' := h
  obtain ⟨A1, c1, A2, c2, A3, c3, rfl, _, _, _⟩ := h'
  obtain ⟨W0, hW0⟩ : ∃ W0, w.alloc (.cells #[.slice A1 t.ig.length c1, .slice A2 t.kp.length c2, .slice A3 t.rs.length c3] 57) = W0 := ⟨_, rfl⟩
  have hb0 : Below w.heap.size w W0 := by rw [← hW0]; exact below_new _ _
  have CR := Lib.hid (read_any t _ ids A cap W0 (h.on hb0) (hi.on hb0) hn)
  have HW := Lib.hid hW0
  have HB := Lib.hid hb0
  have hlen := (rdF_len (knownT t).ig (knownT t).kp ids).1
  have HL := Lib.hid hlen
  clear h hi hW0 hb0 hlen hn
  go_enter Try.func33, Try.ntmps33
  go_wp2_with fail
  rw [HW.out]
  refine CR.out.mono ?_
  rintro r w1 ⟨L, vr, vh, vm, vp, rfl, ro, hb1⟩
  have s0 := HB.out.size
  obtain ⟨Ar, cr, rfl⟩ := own_formN ro.r
  obtain ⟨Ah, ch, rfl⟩ := own_formN ro.h
  obtain ⟨Am, cm, rfl⟩ := own_formN ro.m
  obtain ⟨Ap, cp, rfl⟩ := own_formN ro.s
  have HZ := Lib.hid (And.intro (own_base ro.h s0) (HB.out.trans (hb1.mono s0)))
  have FLD := fld109 (.slice Ar (knownT t).rs.length cr) (.slice Am (rdF (knownT t).ig (knownT t).kp ids).2.1.length cm) (.slice Ap (rdF (knownT t).ig (knownT t).kp ids).2.2.length cp) Ah (rdF (knownT t).ig (knownT t).kp ids).1.length ch w1
  clear ro hb1 s0
  go_wp2_with fail
  go_ret
  exact ⟨_, rfl, by rw [← HL.out]; exact HZ.out.1, HZ.out.2⟩
end Go.Proofs.Ytegkogadceodlaa

namespace Go.Proofs.Ytegkogadceodlaa
open Go.RowKit Go.Shelf Go.Lib

/-- A list of bools, as it lies. -/
structure BS (w : World) (B : Nat) (xs : List Bool) (A : Option Addr) (cap : Nat) : Prop where
  l : xs.length ≤ cap
  m : cap ≤ maxLen
  r : xs ≠ [] → ∃ b o, A = some ⟨b, o, none⟩ ∧ b < B ∧ ∀ (i : Nat) x, xs[i]? = some x → w.cell? ⟨b, o + i, none⟩ = some (.bool x)
theorem BS.below {w w' : World} {B : Nat} {xs : List Bool} {A : Option Addr} {cap : Nat} (h : BS w B xs A cap) (hb : Below B w w') : BS w' B xs A cap :=
  ⟨h.l, h.m, fun hne => by
    obtain ⟨b, o, rfl, hl, hr⟩ := h.r hne
    exact ⟨b, o, rfl, hl, fun i x hx => (hb.cell (p := ⟨b, _, none⟩) hl).trans (hr i x hx)⟩⟩
theorem BS.mono {w : World} {B B' : Nat} {xs : List Bool} {A : Option Addr} {cap : Nat} (h : BS w B xs A cap) (hB : B ≤ B') : BS w B' xs A cap :=
  ⟨h.l, h.m, fun hne => by
    obtain ⟨b, o, rfl, hl, hr⟩ := h.r hne
    exact ⟨b, o, rfl, by omega, hr⟩⟩
theorem BS.on {w w' : World} {xs : List Bool} {A : Option Addr} {cap : Nat} (h : BS w w.heap.size xs A cap) (hb : Below w.heap.size w w') : BS w' w'.heap.size xs A cap := (h.below hb).mono hb.size
theorem BS.len {w : World} {B : Nat} {xs : List Bool} {A : Option Addr} {cap : Nat} (h : BS w B xs A cap) : xs.length ≤ 9223372036854775807 := by have := h.l; have := h.m; unfold maxLen at this; omega
set_option maxRecDepth 100000 in
set_option maxHeartbeats 4000000 in
theorem is_any (xs ys : List Bool) (A1 A2 : Option Addr) (c1 c2 : Nat) (w : World) (h1 : BS w w.heap.size xs A1 c1) (h2 : BS w w.heap.size ys A2 c2) :
    Calls Try.prog 28 #[.slice A1 xs.length c1, .slice A2 ys.length c2] w fun e w' => e = .returned (.bool (decide (xs = ys))) ∧ Below w.heap.size w w' := by
  have l1 := h1.len
  have l2 := h2.len
  obtain ⟨n, hn⟩ : ∃ n, xs.length = n := ⟨_, rfl⟩
  obtain ⟨m, hm⟩ : ∃ m, ys.length = m := ⟨_, rfl⟩
  obtain ⟨R, hR⟩ : ∃ R, decide (xs = ys) = R := ⟨_, rfl⟩
  rw [hn] at l1 ⊢
  rw [hm] at l2 ⊢
  rw [hR]
  have HH := Lib.hid (And.intro h1 (And.intro h2 (And.intro hn (And.intro hm hR))))
  clear h1 h2 hn hm hR
  by_cases hnm : n = m
  case neg =>
    have i1 : ¬ (n : Int) = (m : Int) := by omega
    have hf : R = false := by
      rw [← HH.out.2.2.2.2, decide_eq_false_iff_not]
      intro e
      have := HH.out.2.2.1
      rw [e, HH.out.2.2.2.1] at this
      omega
    subst hf
    clear hnm
    go_enter Try.func28, Try.ntmps28
    go_wp2
    go_ret
    exact ⟨rfl, Below.refl _ _⟩
  case pos =>
    subst hnm
    clear l2
    go_enter Try.func28, Try.ntmps28
    go_wp2_with fail
    go_loopw [5] (fun i wr => ∃ k : Nat, i = .int .i64 k ∧ k ≤ n ∧ xs.take k = ys.take k ∧ Below w.heap.size w wr) (fun i _ => n - (RowKit.intOf i).toNat)
    case atStart => exact ⟨0, rfl, Nat.zero_le _, by simp, Below.refl _ _⟩
    case round =>
      obtain ⟨k, rfl, hkn, heq, hb⟩ := hrel
      by_cases hlt : k < n
      · obtain ⟨x, hx⟩ : ∃ x, xs[k]? = some x := ⟨xs[k]'(by rw [HH.out.2.2.1]; exact hlt), List.getElem?_eq_getElem _⟩
        obtain ⟨y, hy⟩ : ∃ y, ys[k]? = some y := ⟨ys[k]'(by rw [HH.out.2.2.2.1]; exact hlt), List.getElem?_eq_getElem _⟩
        have i1 : (k : Int) < (n : Int) := by omega
        obtain ⟨b1, o1, rfl, hl1, hr1⟩ := (HH.out.1.below hb).r (by rintro e; rw [e] at hx; simp at hx)
        obtain ⟨b2, o2, rfl, hl2, hr2⟩ := (HH.out.2.1.below hb).r (by rintro e; rw [e] at hy; simp at hy)
        have k1 := hr1 k x hx
        have k2 := hr2 k y hy
        have HB := Lib.hid (And.intro hb (And.intro heq (And.intro hx hy)))
        clear hr1 hr2 hb heq hx hy
        by_cases hxy : x = y
        · subst hxy
          go_wp2_with go_quiet (fail)
          go_roundw
          case rel => exact ⟨k + 1, by go_num, by omega, by rw [List.take_add_one, List.take_add_one, HB.out.2.1, HB.out.2.2.1, HB.out.2.2.2], below_drewN HB.out.1 _⟩
          case measure => simp [RowKit.intOf]; omega
        · have hf : R = false := by
            rw [← HH.out.2.2.2.2, decide_eq_false_iff_not]
            intro e
            have h3 := HB.out.2.2.1
            rw [e, HB.out.2.2.2] at h3
            injection h3 with h3
            exact hxy h3.symm
          have nxy : (x == y) = false := by simpa using hxy
          subst hf
          go_wp2_with go_quiet (fail)
          go_ret
          exact ⟨rfl, below_drewN HB.out.1 _⟩
      · have hkn' : k = n := by omega
        subst hkn'
        have i1 : ¬ (k : Int) < (k : Int) := by omega
        have e1 : xs.take k = xs := by rw [← HH.out.2.2.1, List.take_length]
        have e2 : ys.take k = ys := by rw [← HH.out.2.2.2.1, List.take_length]
        rw [e1, e2] at heq
        have ht : R = true := by rw [← HH.out.2.2.2.2, decide_eq_true heq]
        subst ht
        have HB := Lib.hid hb
        clear hb heq e1 e2
        go_wp2
        go_ret
        exact ⟨rfl, HB.out⟩
end Go.Proofs.Ytegkogadceodlaa

namespace Go.Proofs.Ytegkogadceodlaa
open Go.RowKit Go.Shelf Go.Lib Go.Sort

/-- The program's list of what is hidden is the document's, place by place. -/
theorem rdF_one (ig kp : List Int) (id : Int) : (rdF ig kp [id]).1 = [false] := by
  simp [rdF, rdS]
/-- What the next number does, by the one ahead of it alone. -/
theorem rdF_prev (ig kp xs : List Int) (x : Int) : ∃ h, (rdF ig kp (xs ++ [x])).1[xs.length]? = some h ∧ (!kp.contains ((rdF ig kp (xs ++ [x])).2.1.getLast?.getD 0)) = (h || !kp.contains (clsI x)) := by
  have e : rdF ig kp (xs ++ [x]) = rdS ig kp (rdF ig kp xs) x := by unfold rdF; rw [List.foldl_append]; rfl
  have hl := (rdF_len ig kp xs).1
  rw [e]
  generalize rdF ig kp xs = S at *
  obtain ⟨hs, ms, ps⟩ := S
  dsimp only at hl
  unfold rdS
  dsimp only
  obtain ⟨H, hH⟩ : ∃ H, (ig.contains (clsI x) && (decide (0 < hs.length) && !kp.contains (ms.getLast?.getD 0))) = H := ⟨_, rfl⟩
  rw [hH]
  refine ⟨H, by rw [← hl]; simp, ?_⟩
  cases H with
  | false => simp
  | true =>
    simp only [Bool.and_eq_true] at hH
    simp only [if_true, Bool.true_or]
    exact hH.2.2
theorem rdF_next (ig kp xs : List Int) (x y : Int) : ∃ h, (rdF ig kp (xs ++ [x])).1[xs.length]? = some h ∧ (rdF ig kp (xs ++ [x] ++ [y])).1 = (rdF ig kp (xs ++ [x])).1 ++ [ig.contains (clsI y) && (h || !kp.contains (clsI x))] := by
  obtain ⟨h, h1, h2⟩ := rdF_prev ig kp xs x
  have e : rdF ig kp (xs ++ [x] ++ [y]) = rdS ig kp (rdF ig kp (xs ++ [x])) y := by unfold rdF; rw [List.foldl_append]; rfl
  have hl := (rdF_len ig kp (xs ++ [x])).1
  refine ⟨h, h1, ?_⟩
  rw [e]
  unfold rdS
  dsimp only
  rw [h2, hl]
  simp
/-- A row of bools of which the first are set. -/
def bc (L : List Bool) (n : Nat) : Array Value := (bL L ++ List.replicate (n - L.length) (Value.bool false)).toArray
theorem bc_get (L : List Bool) (n i : Nat) : (bc L n)[i]? = if i < L.length then (L[i]?).map Value.bool else if i < L.length + (n - L.length) then some (Value.bool false) else none := by
  unfold bc bL
  rw [List.getElem?_toArray]
  split
  · rw [List.getElem?_append_left (by simpa using ‹_›), List.getElem?_map]
  · rw [List.getElem?_append_right (by simp; omega)]
    split
    · rw [List.getElem?_replicate_of_lt (by simp; omega)]
    · rw [List.getElem?_eq_none_iff]; simp; omega
theorem bc_set (L : List Bool) (n : Nat) (b : Bool) (h : L.length < n) : (bc L n).setIfInBounds L.length (Value.bool b) = bc (L ++ [b]) n := by
  apply Array.ext_getElem?
  intro i
  rw [Array.getElem?_setIfInBounds, bc_get, bc_get]
  have hsz : (bc L n).size = n := by unfold bc bL; simp; omega
  rw [hsz]
  simp only [List.length_append, List.length_singleton]
  by_cases e : L.length = i
  · subst e
    rw [if_pos rfl, if_pos h, if_pos (by omega)]
    simp
  · rw [if_neg e]
    by_cases h1 : i < L.length
    · rw [if_pos h1, if_pos (by omega), List.getElem?_append_left h1]
    · rw [if_neg h1, if_neg (show ¬ i < L.length + 1 by omega)]
      by_cases h2 : i < n
      · rw [if_pos (show i < L.length + (n - L.length) by omega), if_pos (show i < L.length + 1 + (n - (L.length + 1)) by omega)]
      · rw [if_neg (show ¬ i < L.length + (n - L.length) by omega), if_neg (show ¬ i < L.length + 1 + (n - (L.length + 1)) by omega)]
theorem bc_one (n : Nat) (h : 0 < n) : bc [] n = bc [false] n := by
  apply Array.ext_getElem?
  intro i
  rw [bc_get, bc_get]
  by_cases h1 : i < 1
  · have : i = 0 := by omega
    subst this
    simp [h]
  · simp only [List.length_nil, List.length_singleton, if_neg h1, if_neg (Nat.not_lt_zero i)]
    by_cases h2 : i < n
    · rw [if_pos (by omega), if_pos (by omega)]
    · rw [if_neg (by omega), if_neg (by omega)]
set_option maxRecDepth 100000 in
theorem make_bools (n : Nat) (hn : n ≤ 1000) (w : World) : (Instr.makeSlice 52 (.int .i64 (n : Int)) (.int .i64 (n : Int))).run Try.prog w = .ok (.slice (some ⟨w.heap.size, 0, none⟩) n n) (w.alloc (.cells (bc [] n) 4)) := by
  obtain ⟨i, hi, hz, hsize, hby⟩ : ∃ i, Try.prog.info? 4 = some i ∧ i.zero = some (.bool false) ∧ i.size = 1 ∧ i.bytes = 1 := ⟨_, rfl, rfl, rfl, rfl⟩
  have := run_make (P := Try.prog) w 52 4 i _ Try.underlying52 hi hz .i64 .i64 (n : Int) (n : Int) (by omega) (by omega) (by rw [hby]; omega) (by omega)
  rw [hsize] at this
  have e : madeCells (Value.bool false).cells ((n : Int).toNat * 1) = bc [] n := by
    apply Array.ext_getElem?
    intro j
    unfold madeCells
    rw [Array.getElem?_map, Array.getElem?_range, bc_get]
    by_cases hj : j < n
    · rw [if_pos (by simp; omega)]
      simp [Value.cells, Nat.mod_one, hj]
    · rw [if_neg (by simp; omega)]
      simp [hj]
  rw [e] at this
  simpa using this
set_option maxRecDepth 100000 in
set_option maxHeartbeats 8000000 in
theorem refHidden_any (t : Tx) (v : Value) (ids : List Int) (A : Option Addr) (cap : Nat) (w : World) (h : TxV w w.heap.size t v) (hi : IS w w.heap.size ids A cap) (hn : ids.length ≤ 900) :
    Calls Try.prog 34 #[v, .slice A ids.length cap] w fun e w' => ∃ A' c', e = .returned (.slice A' ids.length c') ∧ BS w' w'.heap.size (rdF t.ig t.kp ids).1 A' c' ∧ Below w.heap.size w w' := by
  obtain ⟨A1, c1, A2, c2, A3, c3, rfl, h1, h2, _⟩ := h
  obtain ⟨n, hN⟩ : ∃ n, ids.length = n := ⟨_, rfl⟩
  rw [hN] at hn ⊢
  obtain ⟨W0, hW0⟩ : ∃ W0, w.alloc (.cells #[.slice A1 t.ig.length c1, .slice A2 t.kp.length c2, .slice A3 t.rs.length c3] 50) = W0 := ⟨_, rfl⟩
  have hb0 : Below w.heap.size w W0 := by rw [← hW0]; exact below_new _ _
  have hs0 : W0.heap.size = w.heap.size + 1 := by rw [← hW0]; simp
  have x0 : Cells W0 w.heap.size 50 #[.slice A1 t.ig.length c1, .slice A2 t.kp.length c2, .slice A3 t.rs.length c3] := by rw [← hW0]; exact cells_new _ _ _
  obtain ⟨W1, hW1⟩ : ∃ W1, W0.alloc (.cells (bc [] n) 4) = W1 := ⟨_, rfl⟩
  have hb1 : Below W0.heap.size W0 W1 := by rw [← hW1]; exact below_new _ _
  have x1 : Cells W1 (w.heap.size + 1) 4 (bc [] n) := by rw [← hs0, ← hW1]; exact cells_new _ _ _
  have hmk := make_bools n (by omega) W0
  rw [hs0, hW1] at hmk
  rw [← hW0] at hmk
  have HW := Lib.hid hW0
  have HH := Lib.hid (And.intro (And.intro h1 h2) (And.intro hi (And.intro hN (And.intro (x0.on hb1) (And.intro x1 (hb0.trans (hb1.mono hb0.size)))))))
  clear h1 h2 hi hN x0 x1 hb0 hb1 hW0 hW1 hs0
  go_enter Try.func34, Try.ntmps34
  go_wp2_with fail
  go_loopw [6] (fun i wr => ∃ j : Nat, i = .int .i64 ((j + 1 : Nat) : Int) ∧ (j + 1 ≤ n ∨ j = 0) ∧ Cells wr w.heap.size 50 #[.slice A1 t.ig.length c1, .slice A2 t.kp.length c2, .slice A3 t.rs.length c3] ∧ Cells wr (w.heap.size + 1) 4 (bc (rdF t.ig t.kp (ids.take (j + 1))).1 n) ∧ Below w.heap.size w wr) (fun i _ => n - (RowKit.intOf i).toNat)
  case atStart =>
    refine ⟨0, rfl, .inr rfl, HH.out.2.2.2.1, ?_, HH.out.2.2.2.2.2⟩
    have hx := HH.out.2.2.2.2.1
    cases e : ids with
    | nil => simpa [rdF] using hx
    | cons y ys =>
      rw [show (y :: ys).take (0 + 1) = [y] from rfl, rdF_one, ← bc_one n (by rw [← HH.out.2.2.1, e]; simp)]
      exact hx
  case round =>
    obtain ⟨j, rfl, hj, x0, x1, hb⟩ := hrel
    by_cases hlt : j + 1 < n
    · obtain ⟨x, hx⟩ : ∃ x, ids[j]? = some x := ⟨ids[j]'(by rw [HH.out.2.2.1]; omega), List.getElem?_eq_getElem _⟩
      obtain ⟨y, hy⟩ : ∃ y, ids[j + 1]? = some y := ⟨ids[j + 1]'(by rw [HH.out.2.2.1]; exact hlt), List.getElem?_eq_getElem _⟩
      obtain ⟨bq, oq, rfl, hbq, hr⟩ := (HH.out.2.1.below hb).r (by rintro e; rw [e] at hx; simp at hx)
      have cx := hr j x hx
      have cy := hr (j + 1) y hy
      have e1 : ids.take (j + 1) = ids.take j ++ [x] := by rw [List.take_add_one, hx]; rfl
      have e2 : ids.take (j + 1 + 1) = ids.take j ++ [x] ++ [y] := by rw [List.take_add_one, hy, e1]; rfl
      obtain ⟨hv, g1, g2⟩ := rdF_next t.ig t.kp (ids.take j) x y
      rw [← e2, ← e1] at g2
      rw [← e1] at g1
      have hlj : (ids.take j).length = j := by rw [List.length_take, HH.out.2.2.1]; omega
      rw [hlj] at g1
      have hL := (rdF_len t.ig t.kp (ids.take (j + 1))).1
      rw [show (ids.take (j + 1)).length = j + 1 by rw [List.length_take, HH.out.2.2.1]; omega] at hL
      obtain ⟨K, hK⟩ : ∃ K, j + 1 = K := ⟨_, rfl⟩
      rw [hK] at x1 cy g2 g1 hL hlt ⊢
      have hK1 : (K : Int) - 1 = (j : Int) := by omega
      have iK : (K : Int) < (n : Int) := by omega
      have ij : (j : Int) < (n : Int) := by omega
      obtain ⟨a, ha⟩ : ∃ a, t.ig.contains (clsI y) = a := ⟨_, rfl⟩
      obtain ⟨d, hd⟩ : ∃ a, t.kp.contains (clsI x) = a := ⟨_, rfl⟩
      obtain ⟨yc, hyc⟩ : ∃ a, clsI y = a := ⟨_, rfl⟩
      obtain ⟨xc, hxc⟩ : ∃ a, clsI x = a := ⟨_, rfl⟩
      have hs := hb.size
      have CA : ∀ p : Later (fun _ => False) wr, Calls Try.prog 52 #[.int .i64 y] p.W fun r w' => r = .returned (.int .i64 yc) ∧ ∃ q : Later (fun _ => False) wr, w' = q.W := fun p => (refClass_any y p.W).mono (by rintro r w' ⟨rfl, rfl⟩; exact ⟨by rw [hyc], p, rfl⟩)
      have CD : ∀ p : Later (fun _ => False) wr, Calls Try.prog 52 #[.int .i64 x] p.W fun r w' => r = .returned (.int .i64 xc) ∧ ∃ q : Later (fun _ => False) wr, w' = q.W := fun p => (refClass_any x p.W).mono (by rintro r w' ⟨rfl, rfl⟩; exact ⟨by rw [hxc], p, rfl⟩)
      have bp : ∀ p : Later (fun _ => False) wr, Below w.heap.size w p.W := fun p => hb.trans ((p.h.below (Nat.le_refl _) (fun _ _ hf => hf)).mono hs)
      have CB : ∀ p : Later (fun _ => False) wr, Calls Try.prog 53 #[.slice A1 t.ig.length c1, .int .i64 yc] p.W fun r w' => r = .returned (.bool a) ∧ ∃ q : Later (fun _ => False) wr, w' = q.W := fun p => (in_any t.ig yc A1 c1 p.W ((HH.out.1.1.below (bp p)).mono (bp p).size)).mono (by rintro r w' ⟨rfl, rfl⟩; exact ⟨by rw [← hyc, ha], p, rfl⟩)
      have CE : ∀ p : Later (fun _ => False) wr, Calls Try.prog 53 #[.slice A2 t.kp.length c2, .int .i64 xc] p.W fun r w' => r = .returned (.bool d) ∧ ∃ q : Later (fun _ => False) wr, w' = q.W := fun p => (in_any t.kp xc A2 c2 p.W ((HH.out.1.2.below (bp p)).mono (bp p).size)).mono (by rintro r w' ⟨rfl, rfl⟩; exact ⟨by rw [← hxc, hd], p, rfl⟩)
      rw [ha, hd] at g2
      have q0 : ∀ p : Later (fun _ => False) wr, p.W.cell? ⟨w.heap.size, 0, none⟩ = some (.slice A1 t.ig.length c1) := fun p => cell_later (x0.cell 0) (fun hf => hf) p
      have q1 : ∀ p : Later (fun _ => False) wr, p.W.cell? ⟨w.heap.size, 1, none⟩ = some (.slice A2 t.kp.length c2) := fun p => cell_later (x0.cell 1) (fun hf => hf) p
      have q2 : ∀ p : Later (fun _ => False) wr, p.W.cell? ⟨w.heap.size + 1, j, none⟩ = some (.bool hv) := fun p => cell_later ((x1.cell j).trans (by rw [bc_get, hL, if_pos (by omega), g1]; rfl)) (fun hf => hf) p
      have qx : ∀ p : Later (fun _ => False) wr, p.W.cell? ⟨bq, oq + j, none⟩ = some (.int .i64 x) := fun p => cell_later cx (fun hf => hf) p
      have qy : ∀ p : Later (fun _ => False) wr, p.W.cell? ⟨bq, oq + K, none⟩ = some (.int .i64 y) := fun p => cell_later cy (fun hf => hf) p
      have hbK : (bc (rdF t.ig t.kp (ids.take K)).1 n)[K]? = some (.bool false) := by rw [bc_get, hL, if_neg (by omega), if_pos (by omega)]
      have HZ := Lib.hid (And.intro x0 (And.intro x1 (And.intro hb (And.intro hL (And.intro (rfl : K = K) hbK)))))
      have HG := Lib.hid g2
      clear hx hy hr cx cy e1 e2 g1 g2 hlj hL x0 x1 hb bp ha hd hyc hxc hbK
      cases a with
      | false =>
          go_wp2_with fail
          refine wp_region_mix (fun i => if i = 8 then 1 else if i = 9 then 1 else if i = 24 then 1 else if i = 25 then 1 else if 29 ≤ i then 3 else 0) [0, 1, 2, 3, 4, 5, 6, 7, 8, 9, 10, 11, 12, 13, 14, 15, 16, 17, 18, 19, 20, 21, 22, 23, 24, 25, 26, 27, 28] [29, 30] (fun w' => ∃ p : Later (fun _ => False) wr, w' = p.W) (by kernel_rfl) (by kernel_rfl) ⟨⟨_, Fz.drew wr⟩, rfl⟩ ?_
          simp only [opsAt, List.filterMap_cons, List.filterMap_nil, List.getElem?_toArray, List.getElem?_cons_zero, List.getElem?_cons_succ]
          change wpQuiet _ _ _ _ [_, _, _, _, _, _, _, _, _, _, _, _, _, _, _, _, _, _, _, _, _, _, _, _, _, _, _, _, _] _
          iterate 9 (go_big_quiet_step (exact CA _))
          clear CA
          go_big_quiet_step (exact CB _)
          clear CB
          iterate 14 (go_big_quiet_step (fail))
          go_big_quiet_step (exact CD _)
          clear CD
          go_big_quiet_step (exact CE _)
          clear CE
          repeat (go_big_quiet_step (fail))
          refine wpQuiet_nil ?_
          intro _ hw'
          obtain ⟨p, hw''⟩ := hw'
          subst hw''
          have hz5 := p.h
          clear q0 q1 q2 qx qy
          obtain ⟨W5, hW5⟩ : ∃ V, p.W = V := ⟨_, rfl⟩
          rw [hW5] at hz5 ⊢
          clear hW5
          clear p
          have bt := hz5.below (Nat.le_refl wr.heap.size) (fun _ _ hf => hf)
          have x0 := HZ.out.1.on bt
          have x1 := HZ.out.2.1.on bt
          have hb5 := HZ.out.2.2.1.trans (bt.mono HZ.out.2.2.1.size)
          have dK : W5.cell? ⟨w.heap.size + 1, K, none⟩ = some (.bool false) := (x1.cell K).trans HZ.out.2.2.2.2.2
          have fK := x1.froz K
          have hend : Cells (W5.setCell ⟨w.heap.size + 1, K, none⟩ (.bool false)) w.heap.size 50 #[.slice A1 t.ig.length c1, .slice A2 t.kp.length c2, .slice A3 t.rs.length c3] ∧ Cells (W5.setCell ⟨w.heap.size + 1, K, none⟩ (.bool false)) (w.heap.size + 1) 4 (bc (rdF t.ig t.kp (ids.take (K + 1))).1 n) ∧ Below w.heap.size w (W5.setCell ⟨w.heap.size + 1, K, none⟩ (.bool false)) := by
            refine ⟨(Fz.set (X := fun k => k = w.heap.size + 1) W5 (w.heap.size + 1) K (.bool false) rfl).cells (by omega) x0, ?_, hb5.setc (Nat.le_succ _) K (.bool false)⟩
            have := x1.set K (.bool false)
            rw [show (bc (rdF t.ig t.kp (ids.take K)).1 n).setIfInBounds K (.bool false) = bc ((rdF t.ig t.kp (ids.take K)).1 ++ [false]) n from by have := bc_set (rdF t.ig t.kp (ids.take K)).1 n false (by rw [HZ.out.2.2.2.1]; exact hlt); rw [HZ.out.2.2.2.1] at this; exact this] at this
            rw [HG.out]
            simpa using this
          have HEND := Lib.hid hend
          clear hend x0 x1 bt hb5 hz5
          refine wpSeqM_step rfl ?_
          go_wp2_with fail
          refine wpSeqM_step rfl ?_
          go_wp2_with fail
          unfold wpSeqM
          go_wp2_with fail
          go_roundw
          case rel => exact ⟨K, by go_num, .inl (by omega), HEND.out⟩
          case measure => simp [RowKit.intOf]; omega
      | true =>
        cases hv with
        | true =>
          go_wp2_with fail
          refine wp_region_mix (fun i => if i = 8 then 1 else if i = 9 then 1 else if i = 24 then 1 else if i = 25 then 1 else if 29 ≤ i then 3 else 0) [0, 1, 2, 3, 4, 5, 6, 7, 8, 9, 10, 11, 12, 13, 14, 15, 16, 17, 18, 19, 20, 21, 22, 23, 24, 25, 26, 27, 28] [29, 30] (fun w' => ∃ p : Later (fun _ => False) wr, w' = p.W) (by kernel_rfl) (by kernel_rfl) ⟨⟨_, Fz.drew wr⟩, rfl⟩ ?_
          simp only [opsAt, List.filterMap_cons, List.filterMap_nil, List.getElem?_toArray, List.getElem?_cons_zero, List.getElem?_cons_succ]
          change wpQuiet _ _ _ _ [_, _, _, _, _, _, _, _, _, _, _, _, _, _, _, _, _, _, _, _, _, _, _, _, _, _, _, _, _] _
          iterate 9 (go_big_quiet_step (exact CA _))
          clear CA
          go_big_quiet_step (exact CB _)
          clear CB
          iterate 14 (go_big_quiet_step (fail))
          go_big_quiet_step (exact CD _)
          clear CD
          go_big_quiet_step (exact CE _)
          clear CE
          repeat (go_big_quiet_step (fail))
          refine wpQuiet_nil ?_
          intro _ hw'
          obtain ⟨p, hw''⟩ := hw'
          subst hw''
          have hz5 := p.h
          clear q0 q1 q2 qx qy
          obtain ⟨W5, hW5⟩ : ∃ V, p.W = V := ⟨_, rfl⟩
          rw [hW5] at hz5 ⊢
          clear hW5
          clear p
          have bt := hz5.below (Nat.le_refl wr.heap.size) (fun _ _ hf => hf)
          have x0 := HZ.out.1.on bt
          have x1 := HZ.out.2.1.on bt
          have hb5 := HZ.out.2.2.1.trans (bt.mono HZ.out.2.2.1.size)
          have dK : W5.cell? ⟨w.heap.size + 1, K, none⟩ = some (.bool false) := (x1.cell K).trans HZ.out.2.2.2.2.2
          have fK := x1.froz K
          have hend : Cells (W5.setCell ⟨w.heap.size + 1, K, none⟩ (.bool true)) w.heap.size 50 #[.slice A1 t.ig.length c1, .slice A2 t.kp.length c2, .slice A3 t.rs.length c3] ∧ Cells (W5.setCell ⟨w.heap.size + 1, K, none⟩ (.bool true)) (w.heap.size + 1) 4 (bc (rdF t.ig t.kp (ids.take (K + 1))).1 n) ∧ Below w.heap.size w (W5.setCell ⟨w.heap.size + 1, K, none⟩ (.bool true)) := by
            refine ⟨(Fz.set (X := fun k => k = w.heap.size + 1) W5 (w.heap.size + 1) K (.bool true) rfl).cells (by omega) x0, ?_, hb5.setc (Nat.le_succ _) K (.bool true)⟩
            have := x1.set K (.bool true)
            rw [show (bc (rdF t.ig t.kp (ids.take K)).1 n).setIfInBounds K (.bool true) = bc ((rdF t.ig t.kp (ids.take K)).1 ++ [true]) n from by have := bc_set (rdF t.ig t.kp (ids.take K)).1 n true (by rw [HZ.out.2.2.2.1]; exact hlt); rw [HZ.out.2.2.2.1] at this; exact this] at this
            rw [HG.out]
            simpa using this
          have HEND := Lib.hid hend
          clear hend x0 x1 bt hb5 hz5
          refine wpSeqM_step rfl ?_
          go_wp2_with fail
          refine wpSeqM_step rfl ?_
          go_wp2_with fail
          unfold wpSeqM
          go_wp2_with fail
          go_roundw
          case rel => exact ⟨K, by go_num, .inl (by omega), HEND.out⟩
          case measure => simp [RowKit.intOf]; omega
        | false =>
          go_wp2_with fail
          refine wp_region_mix (fun i => if i = 8 then 1 else if i = 9 then 1 else if i = 24 then 1 else if i = 25 then 1 else if 29 ≤ i then 3 else 0) [0, 1, 2, 3, 4, 5, 6, 7, 8, 9, 10, 11, 12, 13, 14, 15, 16, 17, 18, 19, 20, 21, 22, 23, 24, 25, 26, 27, 28] [29, 30] (fun w' => ∃ p : Later (fun _ => False) wr, w' = p.W) (by kernel_rfl) (by kernel_rfl) ⟨⟨_, Fz.drew wr⟩, rfl⟩ ?_
          simp only [opsAt, List.filterMap_cons, List.filterMap_nil, List.getElem?_toArray, List.getElem?_cons_zero, List.getElem?_cons_succ]
          change wpQuiet _ _ _ _ [_, _, _, _, _, _, _, _, _, _, _, _, _, _, _, _, _, _, _, _, _, _, _, _, _, _, _, _, _] _
          iterate 9 (go_big_quiet_step (exact CA _))
          clear CA
          go_big_quiet_step (exact CB _)
          clear CB
          iterate 14 (go_big_quiet_step (fail))
          go_big_quiet_step (exact CD _)
          clear CD
          go_big_quiet_step (exact CE _)
          clear CE
          repeat (go_big_quiet_step (fail))
          refine wpQuiet_nil ?_
          intro _ hw'
          obtain ⟨p, hw''⟩ := hw'
          subst hw''
          have hz5 := p.h
          clear q0 q1 q2 qx qy
          obtain ⟨W5, hW5⟩ : ∃ V, p.W = V := ⟨_, rfl⟩
          rw [hW5] at hz5 ⊢
          clear hW5
          clear p
          have bt := hz5.below (Nat.le_refl wr.heap.size) (fun _ _ hf => hf)
          have x0 := HZ.out.1.on bt
          have x1 := HZ.out.2.1.on bt
          have hb5 := HZ.out.2.2.1.trans (bt.mono HZ.out.2.2.1.size)
          have dK : W5.cell? ⟨w.heap.size + 1, K, none⟩ = some (.bool false) := (x1.cell K).trans HZ.out.2.2.2.2.2
          have fK := x1.froz K
          have hend : Cells (W5.setCell ⟨w.heap.size + 1, K, none⟩ (.bool (!d))) w.heap.size 50 #[.slice A1 t.ig.length c1, .slice A2 t.kp.length c2, .slice A3 t.rs.length c3] ∧ Cells (W5.setCell ⟨w.heap.size + 1, K, none⟩ (.bool (!d))) (w.heap.size + 1) 4 (bc (rdF t.ig t.kp (ids.take (K + 1))).1 n) ∧ Below w.heap.size w (W5.setCell ⟨w.heap.size + 1, K, none⟩ (.bool (!d))) := by
            refine ⟨(Fz.set (X := fun k => k = w.heap.size + 1) W5 (w.heap.size + 1) K (.bool (!d)) rfl).cells (by omega) x0, ?_, hb5.setc (Nat.le_succ _) K (.bool (!d))⟩
            have := x1.set K (.bool (!d))
            rw [show (bc (rdF t.ig t.kp (ids.take K)).1 n).setIfInBounds K (.bool (!d)) = bc ((rdF t.ig t.kp (ids.take K)).1 ++ [(!d)]) n from by have := bc_set (rdF t.ig t.kp (ids.take K)).1 n (!d) (by rw [HZ.out.2.2.2.1]; exact hlt); rw [HZ.out.2.2.2.1] at this; exact this] at this
            rw [HG.out]
            simpa using this
          have HEND := Lib.hid hend
          clear hend x0 x1 bt hb5 hz5
          refine wpSeqM_step rfl ?_
          go_wp2_with fail
          refine wpSeqM_step rfl ?_
          go_wp2_with fail
          unfold wpSeqM
          go_wp2_with fail
          go_roundw
          case rel => exact ⟨K, by go_num, .inl (by omega), HEND.out⟩
          case measure => simp [RowKit.intOf]; omega
    · have i1 : ¬ ((j + 1 : Nat) : Int) < (n : Int) := by omega
      have ht : ids.take (j + 1) = ids := List.take_of_length_le (by rw [HH.out.2.2.1]; omega)
      rw [ht] at x1
      have hL := (rdF_len t.ig t.kp ids).1
      rw [HH.out.2.2.1] at hL
      have hbs : BS wr wr.heap.size (rdF t.ig t.kp ids).1 (some ⟨w.heap.size + 1, 0, none⟩) n := by
        refine ⟨by omega, by unfold maxLen; omega, fun _ => ⟨w.heap.size + 1, 0, rfl, x1.lt, fun i x hx => ?_⟩⟩
        have hil : i < n := by rw [← hL]; exact (List.getElem?_eq_some_iff.1 hx).1
        rw [Nat.zero_add]
        refine (x1.cell i).trans ?_
        rw [bc_get, hL, if_pos hil, hx]
        rfl
      have HB := Lib.hid (And.intro hbs hb)
      clear x0 x1 hb ht hL hbs hj
      obtain ⟨K, hK⟩ : ∃ K, j + 1 = K := ⟨_, rfl⟩
      rw [hK] at i1 ⊢
      clear hK
      go_wp2
      go_ret
      exact ⟨_, _, rfl, HB.out.1, HB.out.2⟩
end Go.Proofs.Ytegkogadceodlaa

namespace Go.Proofs.Ytegkogadceodlaa
open Go.RowKit Go.Shelf Go.Lib Go.Sort

theorem BS.of_own {w : World} {base : Nat} {xs : List Bool} {A : Option Addr} {n c : Nat} (h : w.ownsRow base 4 1 (.slice A n c) xs.length (bL xs)) : n = xs.length ∧ BS w w.heap.size xs A c := by
  have h' := h
  rcases h.2 with ⟨h1, h2⟩ | ⟨g, cap, cur, h1, h2, h3, h4, h5, h6, h7⟩
  · simp only [Value.slice.injEq] at h1
    obtain ⟨_, rfl, rfl⟩ := h1
    have : xs = [] := List.eq_nil_of_length_eq_zero h2
    subst this
    exact ⟨rfl, by simp, by unfold maxLen; omega, fun hne => absurd rfl hne⟩
  · simp only [Value.slice.injEq] at h1
    obtain ⟨rfl, rfl, rfl⟩ := h1
    refine ⟨rfl, h4, h5, fun _ => ⟨g, 0, rfl, (Array.getElem?_eq_some_iff.1 h3).1, fun i x hx => ?_⟩⟩
    have hc := World.ownsRow.cells h' (g := g) rfl i (.bool x) (by simp [bL, hx])
    rw [add0] at hc
    rw [Nat.zero_add]
    exact hc
/-- The calls of awake hand back yes. -/
def AwakeOk : Prop := ∀ w, Calls Try.prog 25 #[] w fun e w' => e = .returned (.bool true) ∧ Below w.heap.size w w'
set_option maxRecDepth 100000 in
set_option maxHeartbeats 8000000 in
theorem hides_law (AWK : AwakeOk) (t : Tx) (v : Value) (ids : List Int) (A : Option Addr) (cap : Nat) (w : World) (h : TxV w w.heap.size t v) (hi : IS w w.heap.size ids A cap) :
    Calls Try.prog 8 #[v, .slice A ids.length cap] w fun e w' => e = .returned (.bool true) ∧ Below w.heap.size w w' := by
  have h' := h
  obtain ⟨A1, c1, A2, c2, A3, c3, rfl, _, _, _⟩ := h'
  have hil := hi.len
  obtain ⟨n, hN⟩ : ∃ n, ids.length = n := ⟨_, rfl⟩
  obtain ⟨W0, hW0⟩ : ∃ W0, w.alloc (.cells #[.slice A1 t.ig.length c1, .slice A2 t.kp.length c2, .slice A3 t.rs.length c3] 50) = W0 := ⟨_, rfl⟩
  have hb0 : Below w.heap.size w W0 := by rw [← hW0]; exact below_new _ _
  have hz0 : W0.heap.size = w.heap.size + 1 := by rw [← hW0]; simp
  have x0 : Cells W0 w.heap.size 50 #[.slice A1 t.ig.length c1, .slice A2 t.kp.length c2, .slice A3 t.rs.length c3] := by rw [← hW0]; exact cells_new _ _ _
  have GR := great_any t _ W0 (h.on hb0)
  have HW := Lib.hid hW0
  have HH := Lib.hid (And.intro h (And.intro hi (And.intro hN (And.intro hb0 (And.intro hz0 x0)))))
  rw [hN] at hil ⊢
  have HA := Lib.hid AWK
  clear h hi hN hW0 hb0 hz0 x0 AWK
  go_enter Try.func8, Try.ntmps8
  go_wp2_with fail
  rw [HW.out]
  refine GR.mono ?_
  rintro r w1 ⟨⟨g, rfl, hgs⟩, hb1⟩
  have hbw1 := HH.out.2.2.2.1.trans (hb1.mono HH.out.2.2.2.1.size)
  have HG := Lib.hid (And.intro hb1 (And.intro hbw1 hgs))
  clear GR hb1 hbw1 hgs
  cases g with
  | true =>
    go_wp2_with fail
    refine (HA.out _).mono ?_
    rintro r w2 ⟨rfl, hb2⟩
    have HB := Lib.hid (HG.out.2.1.trans (hb2.mono HG.out.2.1.size))
    clear hb2
    go_wp2_with fail
    go_ret
    exact ⟨rfl, HB.out⟩
  | false =>
    by_cases h60 : 60 < n
    · have i1 : (60 : Int) < (n : Int) := by omega
      clear h60
      go_wp2_with fail
      refine (HA.out _).mono ?_
      rintro r w2 ⟨rfl, hb2⟩
      have HB := Lib.hid (HG.out.2.1.trans (hb2.mono HG.out.2.1.size))
      clear hb2
      go_wp2_with fail
      go_ret
      exact ⟨rfl, HB.out⟩
    · have i1 : ¬ (60 : Int) < (n : Int) := by omega
      go_wp2_with fail
      refine (HA.out _).mono ?_
      rintro r w2 ⟨rfl, hb2⟩
      have hbw2 := HG.out.2.1.trans (hb2.mono HG.out.2.1.size)
      have x2 := HH.out.2.2.2.2.2.on (HG.out.1.trans (hb2.mono HG.out.1.size))
      have q0 : ∀ p : Later (fun _ => False) w2, p.W.cell? ⟨w.heap.size, 0, none⟩ = some (.slice A1 t.ig.length c1) := fun p => cell_later (x2.cell 0) (fun hf => hf) p
      have q1 : ∀ p : Later (fun _ => False) w2, p.W.cell? ⟨w.heap.size, 1, none⟩ = some (.slice A2 t.kp.length c2) := fun p => cell_later (x2.cell 1) (fun hf => hf) p
      have q2 : ∀ p : Later (fun _ => False) w2, p.W.cell? ⟨w.heap.size, 2, none⟩ = some (.slice A3 t.rs.length c3) := fun p => cell_later (x2.cell 2) (fun hf => hf) p
      have HB := Lib.hid (And.intro hbw2 h60)
      clear hb2 hbw2 x2 h60
      go_wp2_with fail
      refine wp_region_mix0 (fun i => if i = 0 then 0 else if i = 2 then 0 else if i = 4 then 0 else if i = 6 then 0 else 2) [0, 2, 4, 6] [1, 3, 5, 7, 8, 9] (fun w' => ∃ p : Later (fun _ => False) w2, w' = p.W) (by kernel_rfl) (by kernel_rfl) ⟨⟨_, Fz.drew w2⟩, rfl⟩ ?_
      simp only [opsAt, List.filterMap_cons, List.filterMap_nil, List.getElem?_toArray, List.getElem?_cons_zero, List.getElem?_cons_succ]
      change wpQuiet _ _ _ _ [_, _, _, _] _
      repeat (go_big_quiet_step (fail))
      refine wpQuiet_nil ?_
      clear q0 q1 q2
      have zz := Fz.drew (X := fun _ => False) w2
      have bd := zz.below (B := w2.heap.size) (Nat.le_refl _) (fun _ _ h => h)
      obtain ⟨W4, hW4⟩ : ∃ V, ({ w2 with drawn := w2.drawn + 1 } : World) = V := ⟨_, rfl⟩
      rw [hW4] at zz bd ⊢
      clear hW4
      have b4 := HB.out.1.trans (bd.mono HB.out.1.size)
      have h60 := HB.out.2
      have hsm := HG.out.2.2 (by trivial)
      unfold smallT at hsm
      have C1 := toT_any t _ W4 (HH.out.1.on b4) (fun x hx => by have := hsm.2.2.2 x hx; omega) (by omega)
      have H4 := Lib.hid (And.intro zz b4)
      clear zz bd b4 hsm
      refine wpSeqM_step rfl ?_
      go_wp2_with fail
      refine C1.mono ?_
      rintro r W5 ⟨v5, rfl, hv5, hb5⟩
      clear C1
      have s4 := H4.out.2.size
      have b5 := H4.out.2.trans (hb5.mono s4)
      have C2 := hidden_any t v5 ids A cap W5 hv5 (HH.out.2.1.on b5) (by rw [HH.out.2.2.1]; omega)
      rw [HH.out.2.2.1] at C2
      have H5 := Lib.hid (And.intro (H4.out.1.trans (Fz.of_below hb5)) b5)
      obtain ⟨B1, d1, B2, d2, B3, d3, rfl, _⟩ := hv5
      clear hb5 b5
      go_wp2_with fail
      refine ⟨⟨⟨_, H5.out.1⟩, rfl⟩, ?_⟩
      refine wpSeqM_step rfl ?_
      go_wp2_with fail
      refine C2.mono ?_
      rintro r W6 ⟨v6, rfl, hr6, hb6⟩
      clear C2
      obtain ⟨A6, c6, rfl⟩ := own_formN hr6
      have s5 := H5.out.2.size
      have b6 := H5.out.2.trans (hb6.mono s5)
      have C3 := known_any t _ W6 (HH.out.1.on b6)
      have e6 := (rdF_len (knownT t).ig (knownT t).kp ids).1
      rw [← HH.out.2.2.1, ← e6] at hr6
      have hbs := (BS.of_own hr6).2
      have H6 := Lib.hid (And.intro hbs (And.intro (H5.out.1.trans (Fz.of_below hb6)) (And.intro b6 e6)))
      clear hr6 hb6 b6 hbs e6
      go_wp2_with fail
      refine ⟨⟨⟨_, H6.out.2.1⟩, rfl⟩, ?_⟩
      refine wpSeqM_step rfl ?_
      go_wp2_with fail
      refine C3.mono ?_
      rintro r W7 ⟨⟨v7, rfl, hv7⟩, hb7⟩
      clear C3
      have s6 := H6.out.2.2.1.size
      have b7 := H6.out.2.2.1.trans (hb7.mono s6)
      have C4 := refHidden_any (knownT t) v7 ids A cap W7 hv7 (HH.out.2.1.on b7) (by rw [HH.out.2.2.1]; omega)
      rw [HH.out.2.2.1] at C4
      have H7 := Lib.hid (And.intro (H6.out.1.on hb7) (And.intro (H6.out.2.1.trans (Fz.of_below hb7)) b7))
      obtain ⟨E1, f1, E2, f2, E3, f3, rfl, _⟩ := hv7
      clear hb7 b7
      go_wp2_with fail
      refine ⟨⟨⟨_, H7.out.2.1⟩, rfl⟩, ?_⟩
      refine wpSeqM_step rfl ?_
      go_wp2_with fail
      refine C4.mono ?_
      rintro r W8 ⟨A8, c8, rfl, hs8, hb8⟩
      clear C4
      have s7 := H7.out.2.2.size
      have b8 := H7.out.2.2.trans (hb8.mono s7)
      have C5 := is_any _ _ A6 A8 c6 c8 W8 (H7.out.1.on hb8) hs8
      rw [H6.out.2.2.2, HH.out.2.2.1, decide_eq_true rfl] at C5
      have H8 := Lib.hid (And.intro (H7.out.2.1.trans (Fz.of_below hb8)) b8)
      clear hb8 b8 hs8
      go_wp2_with fail
      refine ⟨⟨⟨_, H8.out.1⟩, rfl⟩, ?_⟩
      refine wpSeqM_step rfl ?_
      go_wp2_with fail
      refine C5.mono ?_
      rintro r W9 ⟨rfl, hb9⟩
      clear C5
      have H9 := Lib.hid (And.intro (H8.out.1.trans (Fz.of_below hb9)) (H8.out.2.trans (hb9.mono H8.out.2.size)))
      clear hb9
      go_wp2_with fail
      refine ⟨⟨⟨_, H9.out.1⟩, rfl⟩, ?_⟩
      refine wpSeqM_step rfl ?_
      go_wp2_with fail
      refine ⟨⟨⟨_, H9.out.1⟩, rfl⟩, ?_⟩
      unfold wpSeqM
      go_wp2_with fail
      go_ret
      exact ⟨rfl, H9.out.2⟩
end Go.Proofs.Ytegkogadceodlaa

namespace Go.Proofs.Ytegkogadceodlaa
open Go.RowKit Go.Shelf Go.Lib Go.Sort

set_option maxRecDepth 100000 in
set_option maxHeartbeats 8000000 in
theorem breaksA_any (v : Value) (A : Option Addr) (cap : Nat) (w : World) (h : TxV w w.heap.size tA v) (hi : IS w w.heap.size [2, 1, 2] A cap) :
    Calls Try.prog 26 #[v, .slice A 3 cap] w fun e w' => ∃ A' c', e = .returned (.slice A' 4 c') ∧ BS w' w'.heap.size [true, true, false, true] A' c' ∧ Below w.heap.size w w' := by
  have h' := h
  obtain ⟨B1, e1, B2, e2, B3, e3, rfl, _, _, _⟩ := h'
  obtain ⟨W0, hW0⟩ : ∃ W0, w.alloc (.cells #[.slice B1 tA.ig.length e1, .slice B2 tA.kp.length e2, .slice B3 tA.rs.length e3] 57) = W0 := ⟨_, rfl⟩
  have hb0 : Below w.heap.size w W0 := by rw [← hW0]; exact below_new _ _
  have CR := read_any tA _ [2, 1, 2] A cap W0 (h.on hb0) (hi.on hb0) (by decide)
  rw [tA_known] at CR
  have HW := Lib.hid (And.intro hW0 hb0)
  clear h hi hW0 hb0
  obtain ⟨n1, hn1⟩ : ∃ n, tA.ig.length = n := ⟨_, rfl⟩
  obtain ⟨n2, hn2⟩ : ∃ n, tA.kp.length = n := ⟨_, rfl⟩
  obtain ⟨n3, hn3⟩ : ∃ n, tA.rs.length = n := ⟨_, rfl⟩
  rw [hn1, hn2, hn3] at HW CR ⊢
  clear hn1 hn2 hn3
  have CR : Calls Try.prog 48 #[.agg #[.slice B1 n1 e1, .slice B2 n2 e2, .slice B3 n3 e3], .slice A 3 cap] W0 _ := CR
  go_enter Try.func26, Try.ntmps26
  go_wp2_with fail
  rw [HW.out.1]
  refine CR.mono ?_
  rintro e w1 ⟨L, vr, vh, vm, vp, rfl, ro, hb1⟩
  clear CR
  have b1 := HW.out.2.trans (hb1.mono HW.out.2.size)
  obtain ⟨W2, hW2⟩ : ∃ V, w1.alloc (.cells #[vr, vh, vm, vp] 109) = V := ⟨_, rfl⟩
  have b2 : Below w1.heap.size w1 W2 := by rw [← hW2]; exact below_new _ _
  have x2 : Cells W2 w1.heap.size 109 #[vr, vh, vm, vp] := by rw [← hW2]; exact cells_new _ _ _
  have s2 : W2.heap.size = w1.heap.size + 1 := by rw [← hW2]; simp
  have ro2 : RdO W2 W0.heap.size tA [2, 1, 2] L vr vh vm vp := ⟨ownsRow_below ro.r b2, ro.p.below (b2.mono hb1.size), ownsRow_below ro.h b2, ownsRow_below ro.m b2, ownsRow_below ro.s b2, ro.i⟩
  have s01 := hb1.size
  obtain ⟨A1, d1, A2, d2, r, cr, gh, ch, gm, cm, gp, cp, hR⟩ := rdo_rd1 (by omega) ro2 x2
  obtain ⟨Ar, qr, rfl⟩ := own_formN ro.r
  obtain ⟨Ah, qh, rfl⟩ := own_formN ro.h
  obtain ⟨Am, qm, rfl⟩ := own_formN ro.m
  obtain ⟨Ap, qp, rfl⟩ := own_formN ro.s
  obtain ⟨l0, hl0⟩ : ∃ n, tA.rs.length = n := ⟨_, rfl⟩
  obtain ⟨l1, hl1⟩ : ∃ n, (rdF tA.ig tA.kp [2, 1, 2]).1.length = n := ⟨_, rfl⟩
  obtain ⟨l2, hl2⟩ : ∃ n, (rdF tA.ig tA.kp [2, 1, 2]).2.1.length = n := ⟨_, rfl⟩
  obtain ⟨l3, hl3⟩ : ∃ n, (rdF tA.ig tA.kp [2, 1, 2]).2.2.length = n := ⟨_, rfl⟩
  rw [hl0, hl1, hl2, hl3] at hW2 ⊢
  have HR := Lib.hid hR
  have H2 := Lib.hid (And.intro (b1.trans (b2.mono b1.size)) hW2)
  clear ro ro2 x2 b1 b2 hb1 hR hW2 hl0 hl1 hl2 hl3 s01
  go_wp2_with fail
  rw [H2.out.2]
  have hst : ((W2.alloc (.cells #[.bool true] 4)).ownsRow W2.heap.size 4 1 (.slice (some ⟨W2.heap.size, 0, none⟩) 1 1) 1 (bL [true])) ∧ Below W2.heap.size W2 (W2.alloc (.cells #[.bool true] 4)) := ⟨⟨rfl, .inr ⟨W2.heap.size, 1, #[.bool true], rfl, Nat.le_refl _, cells_new _ _ _, Nat.le_refl _, by unfold maxLen; omega, rfl, rfl⟩⟩, below_new _ _⟩
  have HST := Lib.hid hst
  clear hst
  rw [s2] at HST
  go_loopw [6, 7] (fun u i wr => ((i = .int .i64 1 ∧ wr.ownsRow W2.heap.size 4 1 u 1 (bL [true])) ∨ (i = .int .i64 2 ∧ wr.ownsRow W2.heap.size 4 1 u 2 (bL [true, true])) ∨ (i = .int .i64 3 ∧ wr.ownsRow W2.heap.size 4 1 u 3 (bL [true, true, false]))) ∧ Below W2.heap.size W2 wr) (fun _ i _ => 4 - (RowKit.intOf i).toNat)
  case atStart => rw [s2]; exact ⟨.inl ⟨rfl, HST.out.1⟩, HST.out.2⟩
  case round =>
    obtain ⟨hc, hb⟩ := hrel
    have cc : ∀ {b o : Nat} {u : Value}, W2.cell? ⟨b, o, none⟩ = some u → wr.cell? ⟨b, o, none⟩ = some u := fun hu => (hb.cell (p := ⟨_, _, none⟩) (cell_lt hu)).trans hu
    rcases hc with ⟨rfl, ho⟩ | ⟨rfl, ho⟩ | ⟨rfl, ho⟩
    · obtain ⟨Au, cu, rfl⟩ := own_formN ho
      have CB := breaks1_any 0 1 A1 d1 0 2 A2 d2 false w1.heap.size r cr gh 3 ch gm 4 cm gp 3 cp 1 2 2 1 wr (HR.out.1.on hb) (by omega) (by omega) (by omega) (by omega) (by omega) (cc (HR.out.2.1 1 (by omega))) (cc HR.out.2.2.2.1) (cc HR.out.2.2.1.2.2.1) (cc HR.out.2.2.1.2.1)
      rw [show (if (takesG 0 2 1 && takesG 0 1 2) = true then false else true) = true from by rw [tak_2]; rfl] at CB
      have HO := Lib.hid (And.intro ho hb)
      clear ho hb cc
      go_wp2_with fail
      refine CB.mono ?_
      rintro e w5 ⟨rfl, hb5⟩
      clear CB
      have ho5 := ownsRow_below HO.out.1 hb5
      have s5 := HO.out.2.size
      have b5 := HO.out.2.trans (hb5.mono s5)
      have s55 := b5.size
      have H5 := Lib.hid (And.intro ho5 b5)
      clear ho5 b5 hb5
      go_wp2_with (first
        | (at_builtin; refine wpList_app1 Try.underlying52 info4 (by omega) rfl (.tmp 18) (.tmp 21) rfl W2.heap.size _ 1 (bL [true]) (.bool true) rfl rfl w5 H5.out.1 rfl rfl (by omega) (by omega) ?_)
        | fail)
      intro g7 cp7 w7 ho7 hg7 hn7 hl7
      have b7 : Below W2.heap.size W2 w7 := H5.out.2.trans ⟨hg7.os, hg7.tape, hg7.output, hg7.size, fun k hk => hg7.block k (by omega) (fun e' => by have := (own_block_lt H5.out.1 k e'.symm).1; omega)⟩
      have H7 := Lib.hid (And.intro (show w7.ownsRow W2.heap.size 4 1 (.slice (some ⟨g7, 0, none⟩) 2 cp7) 2 (bL [true, true]) from (by rw [s2]; exact ho7)) b7)
      clear ho7 hg7 hn7 b7
      go_wp2_with fail
      go_roundw
      case rel => exact ⟨.inr (.inl ⟨by simp, H7.out.1⟩), H7.out.2⟩
      case measure => simp [RowKit.intOf]
    · obtain ⟨Au, cu, rfl⟩ := own_formN ho
      have CB := breaks1_any 0 1 A1 d1 0 2 A2 d2 false w1.heap.size r cr gh 3 ch gm 4 cm gp 3 cp 2 3 1 2 wr (HR.out.1.on hb) (by omega) (by omega) (by omega) (by omega) (by omega) (cc (HR.out.2.1 2 (by omega))) (cc HR.out.2.2.2.2) (cc HR.out.2.2.1.2.2.2) (cc HR.out.2.2.1.2.2.1)
      rw [show (if (takesG 0 2 2 && takesG 0 1 1) = true then false else true) = false from by rw [tak_1]; rfl] at CB
      have HO := Lib.hid (And.intro ho hb)
      clear ho hb cc
      go_wp2_with fail
      refine CB.mono ?_
      rintro e w5 ⟨rfl, hb5⟩
      clear CB
      have ho5 := ownsRow_below HO.out.1 hb5
      have s5 := HO.out.2.size
      have b5 := HO.out.2.trans (hb5.mono s5)
      have s55 := b5.size
      have H5 := Lib.hid (And.intro ho5 b5)
      clear ho5 b5 hb5
      go_wp2_with (first
        | (at_builtin; refine wpList_app1 Try.underlying52 info4 (by omega) rfl (.tmp 18) (.tmp 21) rfl W2.heap.size _ 2 (bL [true, true]) (.bool false) rfl rfl w5 H5.out.1 rfl rfl (by omega) (by omega) ?_)
        | fail)
      intro g7 cp7 w7 ho7 hg7 hn7 hl7
      have b7 : Below W2.heap.size W2 w7 := H5.out.2.trans ⟨hg7.os, hg7.tape, hg7.output, hg7.size, fun k hk => hg7.block k (by omega) (fun e' => by have := (own_block_lt H5.out.1 k e'.symm).1; omega)⟩
      have H7 := Lib.hid (And.intro (show w7.ownsRow W2.heap.size 4 1 (.slice (some ⟨g7, 0, none⟩) 3 cp7) 3 (bL [true, true, false]) from (by rw [s2]; exact ho7)) b7)
      clear ho7 hg7 hn7 b7
      go_wp2_with fail
      go_roundw
      case rel => exact ⟨.inr (.inr ⟨by simp, H7.out.1⟩), H7.out.2⟩
      case measure => simp [RowKit.intOf]
    · obtain ⟨Au, cu, rfl⟩ := own_formN ho
      have hws := hb.size
      have HO := Lib.hid (And.intro ho hb)
      clear ho hb cc
      go_wp2_with (first
        | (at_builtin; refine wpList_app1 Try.underlying52 info4 (by omega) rfl (.tmp 26) (.tmp 27) rfl W2.heap.size _ 3 (bL [true, true, false]) (.bool true) rfl rfl wr HO.out.1 rfl rfl (by omega) (by omega) ?_)
        | fail)
      intro g7 cp7 w7 ho7 hg7 hn7 hl7
      have b7 : Below W2.heap.size W2 w7 := HO.out.2.trans ⟨hg7.os, hg7.tape, hg7.output, hg7.size, fun k hk => hg7.block k (by omega) (fun e' => by have := (own_block_lt HO.out.1 k e'.symm).1; omega)⟩
      have H7 := Lib.hid (And.intro (BS.of_own (xs := [true, true, false, true]) (show w7.ownsRow W2.heap.size 4 1 (.slice (some ⟨g7, 0, none⟩) 4 cp7) 4 (bL [true, true, false, true]) from (by rw [s2]; exact ho7))).2 (H2.out.1.trans (b7.mono H2.out.1.size)))
      clear ho7 hg7 hn7 b7
      go_wp2_with fail
      go_ret
      exact ⟨_, _, rfl, H7.out.1, H7.out.2⟩
end Go.Proofs.Ytegkogadceodlaa

namespace Go.Proofs.Ytegkogadceodlaa
open Go.RowKit Go.Shelf Go.Lib Go.Sort

theorem leaf_nd (w : World) (B : Nat) (c : Int) (hc : i64 c) : Nd w B (.mk 0 c []) (.agg #[.int .i64 0, .int .i64 c, .slice none 0 0]) :=
  Nd_iff.2 ⟨show i64 0 by (unfold i64; omega), hc, none, 0, rfl, ⟨Nat.le_refl _, by unfold maxLen; omega, fun _ => rfl, fun hn => absurd rfl hn⟩⟩
theorem bs_lit (w : World) (xs : List Bool) (n : Nat) (hn : xs.length = n) (hn2 : n ≤ 1000) : BS (w.alloc (.cells (bL xs).toArray 4)) (w.alloc (.cells (bL xs).toArray 4)).heap.size xs (some ⟨w.heap.size, 0, none⟩) n := by
  refine ⟨by omega, by unfold maxLen; omega, fun _ => ⟨w.heap.size, 0, rfl, by simp, fun i x hx => ?_⟩⟩
  rw [Nat.zero_add]
  refine ((cells_new w (bL xs).toArray 4).cell i).trans ?_
  simp [bL, hx]
set_option maxRecDepth 100000 in
set_option maxHeartbeats 8000000 in
theorem awake_ok : AwakeOk := by
  intro w
  obtain ⟨W1, hW1⟩ : ∃ V, w.alloc (.cells #[.int .i64 0, .int .i64 1, .slice none 0 0, .int .i64 0, .int .i64 2, .slice none 0 0, .bool false] 68) = V := ⟨_, rfl⟩
  have b1 : Below w.heap.size w W1 := by rw [← hW1]; exact below_new _ _
  have x1 : Cells W1 w.heap.size 68 #[.int .i64 0, .int .i64 1, .slice none 0 0, .int .i64 0, .int .i64 2, .slice none 0 0, .bool false] := by rw [← hW1]; exact cells_new _ _ _
  have s1 : W1.heap.size = w.heap.size + 1 := by rw [← hW1]; simp
  obtain ⟨W2, hW2⟩ : ∃ V, W1.alloc (.cells #[.slice none 0 0, .slice none 0 0, .slice (some ⟨w.heap.size, 0, none⟩) 1 1] 57) = V := ⟨_, rfl⟩
  have b2 : Below W1.heap.size W1 W2 := by rw [← hW2]; exact below_new _ _
  have s2 : W2.heap.size = w.heap.size + 2 := by rw [← hW2]; simp [s1]
  obtain ⟨W3, hW3⟩ : ∃ V, W2.alloc (.cells #[.int .i64 2, .int .i64 1, .int .i64 2] 3) = V := ⟨_, rfl⟩
  have b3 : Below W2.heap.size W2 W3 := by rw [← hW3]; exact below_new _ _
  have x3 : Cells W3 W2.heap.size 3 #[.int .i64 2, .int .i64 1, .int .i64 2] := by rw [← hW3]; exact cells_new _ _ _
  have s3 : W3.heap.size = w.heap.size + 3 := by rw [← hW3]; simp [s2]
  have x13 := (x1.on b2).on b3
  have b13 := (b1.trans (b2.mono b1.size)).trans (b3.mono (by omega))
  have hru : RuV W3 W3.heap.size ⟨.mk 0 1 [], .mk 0 2 [], false⟩ (.agg #[.int .i64 0, .int .i64 1, .slice none 0 0, .int .i64 0, .int .i64 2, .slice none 0 0, .bool false]) :=
    ⟨none, 0, none, 0, rfl, leaf_nd _ _ _ (by unfold i64; omega), leaf_nd _ _ _ (by unfold i64; omega)⟩
  have hrs : RsAt W3 W3.heap.size tA.rs (some ⟨w.heap.size, 0, none⟩) 1 := by
    refine ⟨by decide, by unfold maxLen; omega, fun _ => ⟨w.heap.size, 0, rfl, by omega, fun i x hx => ?_⟩⟩
    match i, hx with
    | 0, hx =>
      simp [tA] at hx
      subst hx
      exact ⟨none, 0, none, 0, ⟨x13.cell 0, x13.cell 1, x13.cell 2, x13.cell 3, x13.cell 4, x13.cell 5, x13.cell 6⟩, hru⟩
    | i + 1, hx => simp [tA] at hx
  have hid : IS W3 W3.heap.size [2, 1, 2] (some ⟨W2.heap.size, 0, none⟩) 3 := by
    refine ⟨by decide, by unfold maxLen; omega, fun x hx => by unfold i64; simp at hx; omega, fun _ => ⟨W2.heap.size, 0, rfl, by omega, fun i x hx => ?_⟩⟩
    rw [Nat.zero_add]
    refine (x3.cell i).trans ?_
    match i, hx with
    | 0, hx => simp at hx; subst hx; rfl
    | 1, hx => simp at hx; subst hx; rfl
    | 2, hx => simp at hx; subst hx; rfl
    | i + 3, hx => simp at hx
  have hnil : ∀ W : World, IS W W.heap.size [] none 0 := fun W => ⟨Nat.le_refl _, by unfold maxLen; omega, fun x hx => by simp at hx, fun h => absurd rfl h⟩
  have CB := breaksA_any (.agg #[.slice none 0 0, .slice none 0 0, .slice (some ⟨w.heap.size, 0, none⟩) 1 1]) (some ⟨W2.heap.size, 0, none⟩) 3 W3 ⟨none, 0, none, 0, some ⟨w.heap.size, 0, none⟩, 1, rfl, hnil W3, hnil W3, hrs⟩ hid
  rw [s2] at CB
  have HW := Lib.hid (And.intro hW1 (And.intro hW2 (And.intro hW3 b13)))
  clear hW1 hW2 hW3 b1 b2 b3 x1 x3 x13 b13 hru hrs hid hnil
  go_enter Try.func25, Try.ntmps25
  go_wp2_with fail
  rw [HW.out.1, HW.out.2.1, HW.out.2.2.1]
  refine CB.mono ?_
  rintro e w4 ⟨A4, c4, rfl, hbs, hb4⟩
  clear CB
  have b4 := HW.out.2.2.2.trans (hb4.mono HW.out.2.2.2.size)
  obtain ⟨W5, hW5⟩ : ∃ V, w4.alloc (.cells #[.bool true, .bool true, .bool false, .bool true] 4) = V := ⟨_, rfl⟩
  have b5 : Below w4.heap.size w4 W5 := by rw [← hW5]; exact below_new _ _
  have hlit : BS W5 W5.heap.size [true, true, false, true] (some ⟨w4.heap.size, 0, none⟩) 4 := by rw [← hW5]; exact bs_lit w4 [true, true, false, true] 4 rfl (by omega)
  have CI := is_any [true, true, false, true] [true, true, false, true] A4 (some ⟨w4.heap.size, 0, none⟩) c4 4 W5 (hbs.on b5) hlit
  rw [decide_eq_true rfl] at CI
  have H5 := Lib.hid (And.intro hW5 (b4.trans (b5.mono b4.size)))
  clear hW5 b5 hlit hbs hb4 b4
  go_wp2_with fail
  rw [H5.out.1]
  refine CI.mono ?_
  rintro e w6 ⟨rfl, hb6⟩
  have H6 := Lib.hid (H5.out.2.trans (hb6.mono H5.out.2.size))
  clear hb6 CI
  go_wp2_with fail
  go_ret
  exact ⟨rfl, H6.out⟩
/-- The law, of any meaning and any list. -/
theorem hidesLaw (t : Tx) (v : Value) (ids : List Int) (A : Option Addr) (cap : Nat) (w : World) (h : TxV w w.heap.size t v) (hi : IS w w.heap.size ids A cap) :
    Calls Try.prog 8 #[v, .slice A ids.length cap] w fun e w' => e = .returned (.bool true) ∧ Below w.heap.size w w' := hides_law awake_ok t v ids A cap w h hi
end Go.Proofs.Ytegkogadceodlaa

