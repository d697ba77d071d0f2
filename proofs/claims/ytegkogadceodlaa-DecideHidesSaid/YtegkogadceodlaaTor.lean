/-
  Contract: virgulelaw06.To: a meaning copied into new memory.
-/
import Derived.BigQuiet
import Derived.Test.YtegkogadceodlaaTod
import Derived.Test.YtegkogadceodlaaRdd
namespace Go.Proofs.Ytegkogadceodlaa
open Go.RowKit Go.Shelf Go.Lib Go.Sort

theorem info68 : (Try.prog.info? 68).map (fun i => (i.zero.map (fun z => z.cells.size), i.size, i.bytes)) = some (some 7, 7, 88) := by kernel_rfl
/-- The rules that were turned so far: their cells in the row, what they are; the row is none of their blocks. -/
def KidsR (w : World) (base : Nat) (v : Value) (rs : List Ru) (j : Nat) (cs : List Value) : Prop :=
  cs.length = j * 7 ∧ ∀ (i : Nat) (x : Ru), i < j → rs[i]? = some x → ∃ A1 c1 A2 c2, (∀ (q : Nat) (u : Value), (nc x.l A1 c1 ++ nc x.r A2 c2 ++ [.bool x.b])[q]? = some u → cs[i * 7 + q]? = some u) ∧
    NdP w (fun b => base ≤ b ∧ b < w.heap.size ∧ v.ownBlock ≠ some b) x.l (.agg #[.int .i64 x.l.k, .int .i64 x.l.c, .slice A1 x.l.ks.length c1]) ∧ NdP w (fun b => base ≤ b ∧ b < w.heap.size ∧ v.ownBlock ≠ some b) x.r (.agg #[.int .i64 x.r.k, .int .i64 x.r.c, .slice A2 x.r.ks.length c2])
theorem seven_lt {x : Ru} {A1 : Option Addr} {c1 : Nat} {A2 : Option Addr} {c2 q : Nat} {u : Value} (h : (nc x.l A1 c1 ++ nc x.r A2 c2 ++ [.bool x.b])[q]? = some u) : q < 7 := by
  have := (List.getElem?_eq_some_iff.1 h).1
  simpa [nc] using this
theorem KidsR.step {w w6 w7 : World} {base : Nat} {v v7 : Value} {rs : List Ru} {j g : Nat} {cs : List Value} {x : Ru} {A1 : Option Addr} {c1 : Nat} {A2 : Option Addr} {c2 : Nat} (h : KidsR w base v rs j cs) (hx : rs[j]? = some x)
    (hown : ∀ b, v.ownBlock = some b → b < w.heap.size) (h5 : NdP w6 (fun b => w.heap.size ≤ b ∧ b < w6.heap.size) x.l (.agg #[.int .i64 x.l.k, .int .i64 x.l.c, .slice A1 x.l.ks.length c1])) (h6 : NdP w6 (fun b => w.heap.size ≤ b ∧ b < w6.heap.size) x.r (.agg #[.int .i64 x.r.k, .int .i64 x.r.c, .slice A2 x.r.ks.length c2]))
    (hb6 : Below w.heap.size w w6) (hbase : base ≤ w.heap.size) (hg7 : w6.grownBy w7 v.ownBlock) (hv7 : v7.ownBlock = some g) (hg : v.ownBlock = some g ∨ w6.heap.size ≤ g) : KidsR w7 base v7 rs (j + 1) (cs ++ (nc x.l A1 c1 ++ nc x.r A2 c2 ++ [.bool x.b])) := by
  have hs7 := hg7.size
  have hs6 := hb6.size
  have mv : ∀ {e : E} {u : Value}, NdP w6 (fun b => w.heap.size ≤ b ∧ b < w6.heap.size) e u → NdP w7 (fun b => base ≤ b ∧ b < w7.heap.size ∧ v7.ownBlock ≠ some b) e u := fun hn => hn.blocks (fun b hb => ⟨by omega, by omega, by
    rw [hv7]
    intro e'
    injection e' with e'
    rcases hg with hg | hg
    · have := hown g hg; omega
    · omega⟩) (fun b hb => hg7.block b hb.2 (fun e' => by have := hown b e'.symm; omega))
  refine ⟨by rw [List.length_append, h.1]; simp [nc]; omega, fun i y hi hy => ?_⟩
  by_cases hij : i = j
  · subst hij
    obtain rfl : x = y := by rw [hx] at hy; injection hy
    refine ⟨A1, c1, A2, c2, fun q u hq => ?_, mv h5, mv h6⟩
    rw [List.getElem?_append_right (by rw [h.1]; omega), h.1, show i * 7 + q - i * 7 = q by omega]
    exact hq
  · obtain ⟨B1, d1, B2, d2, hc, hN1, hN2⟩ := h.2 i y (by omega) hy
    have mv2 : ∀ {e : E} {u : Value}, NdP w (fun b => base ≤ b ∧ b < w.heap.size ∧ v.ownBlock ≠ some b) e u → NdP w7 (fun b => base ≤ b ∧ b < w7.heap.size ∧ v7.ownBlock ≠ some b) e u := fun hn => hn.blocks (fun b hb => ⟨hb.1, by omega, by
      rw [hv7]
      intro e'
      injection e' with e'
      rcases hg with hg | hg
      · exact hb.2.2 (by rw [hg, e'])
      · omega⟩) (fun b hb => (hg7.block b (by omega) (fun e' => hb.2.2 e'.symm)).trans (hb6.block b hb.2.1))
    refine ⟨B1, d1, B2, d2, fun q u hq => ?_, mv2 hN1, mv2 hN2⟩
    have hl := h.1
    have hq7 := seven_lt hq
    rw [List.getElem?_append_left (by omega)]
    exact hc q u hq
theorem KidsR.blocks {w w' : World} {base : Nat} {v : Value} {rs : List Ru} {j : Nat} {cs : List Value} (h : KidsR w base v rs j cs) (hb : ∀ b, base ≤ b → b < w.heap.size → w'.heap[b]? = w.heap[b]?) (hs : w.heap.size ≤ w'.heap.size) : KidsR w' base v rs j cs :=
  ⟨h.1, fun i x hi hx => by
    obtain ⟨B1, d1, B2, d2, hc, hN1, hN2⟩ := h.2 i x hi hx
    exact ⟨B1, d1, B2, d2, hc, hN1.blocks (fun b hb' => ⟨hb'.1, by omega, hb'.2.2⟩) (fun b hb' => hb b hb'.1 hb'.2.1), hN2.blocks (fun b hb' => ⟨hb'.1, by omega, hb'.2.2⟩) (fun b hb' => hb b hb'.1 hb'.2.1)⟩⟩
/-- All rules: the list lies in memory. -/
theorem KidsR.full {w : World} {base : Nat} {v : Value} {rs : List Ru} {cs : List Value} (h : KidsR w base v rs rs.length cs) (hown : w.ownsRow base 68 7 v rs.length cs) :
    ∃ A cap, v = .slice A rs.length cap ∧ RsAt w w.heap.size rs A cap := by
  rcases hown.2 with ⟨h1, h2⟩ | ⟨g, cap, cur, h1, h3, h4, h5, h6, h7, h8⟩
  · have : rs = [] := List.eq_nil_of_length_eq_zero h2
    subst this
    exact ⟨none, 0, by rw [h1]; rfl, by simp, by unfold maxLen; omega, fun hn => absurd rfl hn⟩
  · refine ⟨_, cap, h1, h5, h6, fun _ => ⟨g, 0, rfl, (Array.getElem?_eq_some_iff.1 h4).1, fun i x hx => ?_⟩⟩
    obtain ⟨B1, d1, B2, d2, hc, hN1, hN2⟩ := h.2 i x (List.getElem?_eq_some_iff.1 hx).1 hx
    have cc := fun j u hj => World.ownsRow.cells hown (g := g) (by rw [h1]; rfl) j u hj
    have d : ∀ (j : Nat) (u : Value), cs[j]? = some u → w.cell? ⟨g, j, none⟩ = some u := fun j u hj => by have := cc j u hj; rwa [add0] at this
    have n1 := NdP.nd (fun b hb => hb.2.1) _ _ _ (Nat.le_refl _) hN1
    have n2 := NdP.nd (fun b hb => hb.2.1) _ _ _ (Nat.le_refl _) hN2
    refine ⟨B1, d1, B2, d2, ⟨?_, ?_, ?_, ?_, ?_, ?_, ?_⟩, ⟨B1, d1, B2, d2, rfl, n1, n2⟩⟩
    · rw [Nat.zero_add]; exact d _ _ (hc 0 _ rfl)
    · rw [Nat.zero_add]; exact d _ _ (hc 1 _ rfl)
    · rw [Nat.zero_add]; exact d _ _ (hc 2 _ rfl)
    · rw [Nat.zero_add]; exact d _ _ (hc 3 _ rfl)
    · rw [Nat.zero_add]; exact d _ _ (hc 4 _ rfl)
    · rw [Nat.zero_add]; exact d _ _ (hc 5 _ rfl)
    · rw [Nat.zero_add]; exact d _ _ (hc 6 _ rfl)
set_option maxHeartbeats 8000000 in
set_option maxRecDepth 100000 in
theorem toT_any (t : Tx) (v : Value) (w : World) (h : TxV w w.heap.size t v) (hmx : ∀ x ∈ t.rs, szE x.l ≤ 100000 ∧ szE x.r ≤ 100000) (hn : t.rs.length ≤ 900) :
    Calls Try.prog 27 #[v] w fun e w' => ∃ v', e = .returned v' ∧ TxV w' w'.heap.size t v' ∧ Below w.heap.size w w' := by
  obtain ⟨A1, c1, A2, c2, A3, c3, rfl, h1, h2, h3⟩ := h
  obtain ⟨s1, hs1⟩ : ∃ s, Value.slice A1 t.ig.length c1 = s := ⟨_, rfl⟩
  obtain ⟨s2, hs2⟩ : ∃ s, Value.slice A2 t.kp.length c2 = s := ⟨_, rfl⟩
  have o1 : s1.oneCell' = true := by rw [← hs1]; rfl
  have HO := Lib.hid (And.intro hs1 hs2)
  clear hs1 hs2 o1
  obtain ⟨W1, hW1⟩ : ∃ W, w.alloc (.cells #[.slice A1 t.ig.length c1, .slice A2 t.kp.length c2, .slice A3 t.rs.length c3] 50) = W := ⟨_, rfl⟩
  obtain ⟨W2, hW2⟩ : ∃ W, W1.alloc (.cells #[.slice none 0 0, .slice none 0 0, .slice none 0 0] 57) = W := ⟨_, rfl⟩
  obtain ⟨W3, hW3⟩ : ∃ W, W2.alloc (.cells #[.slice A1 t.ig.length c1, .slice A2 t.kp.length c2, .slice none 0 0] 57) = W := ⟨_, rfl⟩
  have z1 : W1.heap.size = w.heap.size + 1 := by rw [← hW1]; simp
  have z2 : W2.heap.size = w.heap.size + 1 + 1 := by rw [← hW2]; simp [z1]
  have z3 : W3.heap.size = w.heap.size + 1 + 1 + 1 := by rw [← hW3]; simp [z2]
  have b1 : Below w.heap.size w W1 := by rw [← hW1]; exact below_new _ _
  have b2 : Below W1.heap.size W1 W2 := by rw [← hW2]; exact below_new _ _
  have b3 : Below W2.heap.size W2 W3 := by rw [← hW3]; exact below_new _ _
  have x1 : Cells W3 w.heap.size 50 #[.slice A1 t.ig.length c1, .slice A2 t.kp.length c2, .slice A3 t.rs.length c3] := (b3.block _ (by omega)).trans ((b2.block _ (by omega)).trans (by rw [← hW1]; exact cells_new _ _ _))
  have x2 : Cells W3 (w.heap.size + 1) 57 #[.slice none 0 0, .slice none 0 0, .slice none 0 0] := (b3.block _ (by omega)).trans (by rw [← hW2, ← z1]; exact cells_new _ _ _)
  have x3 : Cells W3 (w.heap.size + 1 + 1) 57 #[.slice A1 t.ig.length c1, .slice A2 t.kp.length c2, .slice none 0 0] := by rw [← hW3, ← z2]; exact cells_new _ _ _
  have b13 : Below w.heap.size w W3 := b1.trans ((b2.mono (by omega)).trans (b3.mono (by omega)))
  have HW := Lib.hid (And.intro hW1 (And.intro hW2 (And.intro hW3 z3)))
  have H3 := Lib.hid (And.intro x1 (And.intro x2 (And.intro x3 (And.intro b13 (And.intro h1 (And.intro h2 h3))))))
  have HM := Lib.hid hmx
  obtain ⟨n, hN⟩ : ∃ n, t.rs.length = n := ⟨_, rfl⟩
  have HN := Lib.hid hN
  rw [hN] at hn HW H3 ⊢
  clear hW1 hW2 hW3 z1 z2 z3 b1 b2 b3 x1 x2 x3 b13 h1 h2 h3 hmx hN HO
  go_enter Try.func27, Try.ntmps27
  go_wp2_with fail
  rw [HW.out.1, HW.out.2.1, HW.out.2.2.1]
  go_loopw [4] (fun v wr => ∃ (j : Nat) (u : Value) (cs : List Value), v = .int .i64 (j : Int) ∧ j ≤ n ∧ Cells wr (w.heap.size + 1 + 1) 57 #[.slice A1 t.ig.length c1, .slice A2 t.kp.length c2, u] ∧ W3.grownBy wr (some (w.heap.size + 1 + 1)) ∧ wr.ownsRow W3.heap.size 68 7 u j cs ∧ KidsR wr W3.heap.size u t.rs j cs) (fun v _ => n - (RowKit.intOf v).toNat)
  case atStart => exact ⟨0, .slice none 0 0, [], rfl, by omega, H3.out.2.2.1, World.grownBy.refl _ _, World.ownsRow_nil _ _ _ _, rfl, fun i f hi => by omega⟩
  case round =>
    obtain ⟨j, u, cs, rfl, hj, hx3, hg, hown, hkids⟩ := hrel
    have hx1 : Cells wr w.heap.size 50 #[.slice A1 t.ig.length c1, .slice A2 t.kp.length c2, .slice A3 n c3] := (hg.block _ H3.out.1.lt (by simp; omega)).trans H3.out.1
    have d2 := hx1.cell 2
    simp at d2
    have hbw : Below w.heap.size w wr := H3.out.2.2.2.1.trans ⟨hg.os, hg.tape, hg.output, hg.size, fun k hk => hg.block k (by have := HW.out.2.2.2; omega) (by simp; omega)⟩
    by_cases hlt : j < n
    · have i1 : (j : Int) < (n : Int) := by omega
      obtain ⟨x, hx⟩ : ∃ x, t.rs[j]? = some x := ⟨t.rs[j]'(by rw [HN.out]; exact hlt), List.getElem?_eq_getElem _⟩
      obtain ⟨bq, oq, rfl, hbl, hr⟩ := (H3.out.2.2.2.2.2.2.below hbw).r (by rintro e; rw [e] at hx; simp at hx)
      obtain ⟨D1, d1, D2, d2', ⟨k0, k1, k2, k3, k4, k5, k6⟩, hv⟩ := hr j x hx
      obtain ⟨_, _, _, _, he, hv1, hv2⟩ := hv
      injection he with he
      have he' := congrArg Array.toList he
      simp at he'
      obtain ⟨⟨rfl, rfl⟩, rfl, rfl⟩ := he'
      clear he
      obtain ⟨Au, cu, rfl⟩ := own_formN hown
      have q1 : ∀ p : Later (fun _ => False) wr, p.W.cell? ⟨w.heap.size + 1 + 1, 2, none⟩ = some (.slice Au j cu) := fun p => cell_later (hx3.cell 2) (fun hf => hf) p
      have q2 : ∀ p : Later (fun _ => False) wr, p.W.cell? ⟨w.heap.size, 2, none⟩ = some (.slice (some ⟨bq, oq, none⟩) n c3) := fun p => cell_later (hx1.cell 2) (fun hf => hf) p
      have g0 : ∀ p : Later (fun _ => False) wr, p.W.cell? ⟨bq, oq + j * 7, none⟩ = some (.int .i64 x.l.k) := fun p => cell_later k0 (fun hf => hf) p
      have g1 : ∀ p : Later (fun _ => False) wr, p.W.cell? ⟨bq, oq + j * 7 + 1, none⟩ = some (.int .i64 x.l.c) := fun p => cell_later k1 (fun hf => hf) p
      have g2 : ∀ p : Later (fun _ => False) wr, p.W.cell? ⟨bq, oq + j * 7 + 2, none⟩ = some (.slice D1 x.l.ks.length d1) := fun p => cell_later k2 (fun hf => hf) p
      have g3 : ∀ p : Later (fun _ => False) wr, p.W.cell? ⟨bq, oq + j * 7 + 3, none⟩ = some (.int .i64 x.r.k) := fun p => cell_later k3 (fun hf => hf) p
      have g4 : ∀ p : Later (fun _ => False) wr, p.W.cell? ⟨bq, oq + j * 7 + 4, none⟩ = some (.int .i64 x.r.c) := fun p => cell_later k4 (fun hf => hf) p
      have g5 : ∀ p : Later (fun _ => False) wr, p.W.cell? ⟨bq, oq + j * 7 + 5, none⟩ = some (.slice D2 x.r.ks.length d2') := fun p => cell_later k5 (fun hf => hf) p
      have g6 : ∀ p : Later (fun _ => False) wr, p.W.cell? ⟨bq, oq + j * 7 + 6, none⟩ = some (.bool x.b) := fun p => cell_later k6 (fun hf => hf) p
      have HP := Lib.hid (And.intro hx3 (And.intro hg (And.intro hown (And.intro hkids (And.intro hx1 (And.intro hx (And.intro hbw (And.intro hv1 hv2))))))))
      clear hx3 hg hown hkids hx1 hx hr hbw hv1 hv2 k0 k1 k2 k3 k4 k5 k6
      go_wp2_with fail
      refine wp_region_mix0 (fun i => if i = 8 then 2 else if i = 15 then 2 else if i = 22 then 2 else if i = 23 then 2 else if 24 ≤ i then 3 else 0) [0, 1, 2, 3, 4, 5, 6, 7, 9, 10, 11, 12, 13, 14, 16, 17, 18, 19, 20, 21] [8, 15, 22, 23, 24, 25, 26] (fun w' => ∃ p : Later (fun _ => False) wr, w' = p.W) (by kernel_rfl) (by kernel_rfl) ⟨⟨_, Fz.drew wr⟩, rfl⟩ ?_
      simp only [opsAt, List.filterMap_cons, List.filterMap_nil, List.getElem?_toArray, List.getElem?_cons_zero, List.getElem?_cons_succ]
      change wpQuiet _ _ _ _ [_, _, _, _, _, _, _, _, _, _, _, _, _, _, _, _, _, _, _, _] _
      repeat (go_big_quiet_step (fail))
      refine wpQuiet_nil ?_
      clear q1 q2 g0 g1 g2 g3 g4 g5 g6
      have zz := Fz.drew (X := fun _ => False) wr
      have bd := zz.below (B := wr.heap.size) (Nat.le_refl _) (fun _ _ h => h)
      obtain ⟨W4, hW4⟩ : ∃ V, ({ wr with drawn := wr.drawn + 1 } : World) = V := ⟨_, rfl⟩
      rw [hW4] at zz bd ⊢
      clear hW4
      have hbs := HP.out.2.2.2.2.2.2.1.size
      have bw4 := bd.mono hbs
      have b4 := HP.out.2.2.2.2.2.2.1.trans bw4
      have n1 := (HP.out.2.2.2.2.2.2.2.1.below bw4).mono b4.size
      have HC1 := to_any (szE x.l) x.l (Nat.le_refl _) (HM.out x (List.mem_of_getElem? HP.out.2.2.2.2.2.1)).1 _ W4 n1
      have H4 := Lib.hid (And.intro zz (And.intro bd (And.intro bw4 b4)))
      clear zz bd bw4 b4 n1
      refine wpSeqM_step rfl ?_
      go_wp2_with fail
      refine HC1.mono ?_
      rintro r W5 ⟨v5, rfl, hN5, hb5⟩
      clear HC1
      obtain ⟨_, _, A5, c5, rfl, _⟩ := NdP_iff.1 hN5
      have s4 := H4.out.2.2.2.size
      have b45 := hb5.mono s4
      have n2 := ((HP.out.2.2.2.2.2.2.2.2.below H4.out.2.2.1).below b45).mono (H4.out.2.2.2.trans b45).size
      have HC2 := to_any (szE x.r) x.r (Nat.le_refl _) (HM.out x (List.mem_of_getElem? HP.out.2.2.2.2.2.1)).2 _ W5 n2
      have H5 := Lib.hid (And.intro hN5 (And.intro hb5 (H4.out.1.trans (Fz.of_below hb5))))
      clear hN5 hb5 n2 b45
      go_wp2_with fail
      refine ⟨⟨⟨_, H5.out.2.2⟩, rfl⟩, ?_⟩
      refine wpSeqM_step rfl ?_
      go_wp2_with fail
      refine HC2.mono ?_
      rintro r W6 ⟨v6, rfl, hN6, hb6⟩
      clear HC2
      obtain ⟨_, _, A6, c6, rfl, _⟩ := NdP_iff.1 hN6
      have s5 := H5.out.2.1.size
      have s6 := hb6.size
      have b46 := H5.out.2.1.trans (hb6.mono s5)
      have m5 : NdP W6 (fun b => W4.heap.size ≤ b ∧ b < W6.heap.size) x.l (.agg #[.int .i64 x.l.k, .int .i64 x.l.c, .slice A5 x.l.ks.length c5]) := H5.out.1.blocks (fun b hb => ⟨hb.1, by omega⟩) (fun b hb => hb6.block b hb.2)
      have m6 : NdP W6 (fun b => W4.heap.size ≤ b ∧ b < W6.heap.size) x.r (.agg #[.int .i64 x.r.k, .int .i64 x.r.c, .slice A6 x.r.ks.length c6]) := hN6.blocks (fun b hb => ⟨by omega, hb.2⟩) (fun _ _ => rfl)
      have bt := H4.out.2.1.trans (b46.mono H4.out.2.1.size)
      have own4 := ownsRow_below HP.out.2.2.1 H4.out.2.1
      have own6 := ownsRow_below HP.out.2.2.1 bt
      have hx36 := HP.out.1.on bt
      have hg6 := HP.out.2.1.trans (grownB bt (some (w.heap.size + 1 + 1)))
      have hk4 : KidsR W4 W3.heap.size (.slice Au j cu) t.rs j cs := HP.out.2.2.2.1.blocks (fun b _ hb => H4.out.2.1.block b hb) H4.out.2.1.size
      have h34 : W3.heap.size ≤ W4.heap.size := Nat.le_trans HP.out.2.1.size H4.out.2.1.size
      have H6 := Lib.hid (And.intro m5 (And.intro m6 (And.intro b46 (And.intro own4 (And.intro own6 (And.intro hx36 (And.intro hg6 (And.intro hk4 (H5.out.2.2.trans (Fz.of_below hb6))))))))))
      clear hN6 hb6 m5 m6 b46 bt own4 own6 hx36 hg6 hk4
      go_wp2_with fail
      refine ⟨⟨⟨_, H6.out.2.2.2.2.2.2.2.2⟩, rfl⟩, ?_⟩
      refine wpSeqM_step rfl ?_
      go_wp2_with fail
      refine ⟨⟨⟨_, H6.out.2.2.2.2.2.2.2.2⟩, rfl⟩, ?_⟩
      refine wpSeqM_step rfl ?_
      go_wp2_with fail
      refine ⟨⟨⟨_, H6.out.2.2.2.2.2.2.2.2.trans (Fz.of_below (below_new W6 _))⟩, rfl⟩, ?_⟩
      refine wpSeqM_step rfl ?_
      refine wpList_appN Try.underlying55 info68 (by omega) (by omega) rfl (.tmp 18) (.tmp 40) rfl W3.heap.size (.slice Au j cu) j cs #[.int .i64 x.l.k, .int .i64 x.l.c, .slice A5 x.l.ks.length c5, .int .i64 x.r.k, .int .i64 x.r.c, .slice A6 x.r.ks.length c6, .bool x.b] rfl (fun u hu => by simp at hu; rcases hu with rfl | rfl | rfl | rfl | rfl | rfl | rfl <;> rfl) rfl W6 H6.out.2.2.2.2.1 rfl rfl (by omega) (by omega) ?_
      intro g cp w7 ho7 hg7 hn7 hl7
      have nb : ∀ b, (Value.slice Au j cu).ownBlock = some b → W3.heap.size ≤ b ∧ b < W4.heap.size := own_block_lt H6.out.2.2.2.1
      have z3 := HW.out.2.2.2
      have hz7 : Fz (fun b => (Value.slice Au j cu).ownBlock = some b) W6 w7 := Fz.of_grown hg7 (fun k e => e)
      have hx7 := hz7.cells (fun e => by have := nb _ e; omega) H6.out.2.2.2.2.2.1
      have hg36 := H6.out.2.2.2.2.2.2.1
      have hg37 : W3.grownBy w7 (some (w.heap.size + 1 + 1)) := ⟨hg7.os.trans hg36.os, hg7.tape.trans hg36.tape, hg7.output.trans hg36.output, Nat.le_trans hg36.size hg7.size, fun k hk hn => (hg7.block k (Nat.lt_of_lt_of_le hk hg36.size) (fun e' => by have := nb k e'.symm; omega)).trans (hg36.block k hk hn)⟩
      have hk7 : KidsR w7 W3.heap.size (.slice (some ⟨g, 0, none⟩) (j + 1) cp) t.rs (j + 1) (cs ++ (nc x.l A5 c5 ++ nc x.r A6 c6 ++ [.bool x.b])) := KidsR.step (g := g) (w := W4) H6.out.2.2.2.2.2.2.2.1 HP.out.2.2.2.2.2.1 (fun b hb => (nb b hb).2) H6.out.1 H6.out.2.1 H6.out.2.2.1 h34 hg7 rfl hn7
      have hgb : W3.heap.size ≤ g := by
        rcases hn7 with hn7 | hn7
        · exact (nb g hn7).1
        · omega
      have d7 := hx7.cell 2
      simp at d7
      have f7 := hx7.froz 2
      have H7 := Lib.hid (And.intro ho7 (And.intro hg37 (And.intro hx7 hk7)))
      clear ho7 hg7 hn7 hz7 hx7 hg36 hg37 hk7 nb
      go_wp2_with fail
      refine wpSeqM_step rfl ?_
      go_wp2_with fail
      refine wpSeqM_step rfl ?_
      go_wp2_with fail
      unfold wpSeqM
      have fs := Fz.set (X := fun b => b = w.heap.size + 1 + 1) w7 (w.heap.size + 1 + 1) 2 (.slice (some ⟨g, 0, none⟩) (j + 1) cp) rfl
      have hx8 : Cells (w7.setCell ⟨w.heap.size + 1 + 1, 2, none⟩ (.slice (some ⟨g, 0, none⟩) (j + 1) cp)) (w.heap.size + 1 + 1) 57 #[.slice A1 t.ig.length c1, .slice A2 t.kp.length c2, .slice (some ⟨g, 0, none⟩) (j + 1) cp] := H7.out.2.2.1.set 2 _
      have ho8 := own_fz H7.out.1 fs (fun b e he => by simp [Value.ownBlock] at e; omega)
      have hk8 := H7.out.2.2.2.blocks (w' := w7.setCell ⟨w.heap.size + 1 + 1, 2, none⟩ (.slice (some ⟨g, 0, none⟩) (j + 1) cp)) (fun b hb hb2 => fs.block b hb2 (by omega)) fs.size
      have hend : ∃ (j' : Nat) (u' : Value) (cs' : List Value), Value.int .i64 ((j : Int) + 1) = .int .i64 (j' : Int) ∧ j' ≤ n ∧ Cells (w7.setCell ⟨w.heap.size + 1 + 1, 2, none⟩ (.slice (some ⟨g, 0, none⟩) (j + 1) cp)) (w.heap.size + 1 + 1) 57 #[.slice A1 t.ig.length c1, .slice A2 t.kp.length c2, u'] ∧ W3.grownBy (w7.setCell ⟨w.heap.size + 1 + 1, 2, none⟩ (.slice (some ⟨g, 0, none⟩) (j + 1) cp)) (some (w.heap.size + 1 + 1)) ∧
          (w7.setCell ⟨w.heap.size + 1 + 1, 2, none⟩ (.slice (some ⟨g, 0, none⟩) (j + 1) cp)).ownsRow W3.heap.size 68 7 u' j' cs' ∧ KidsR (w7.setCell ⟨w.heap.size + 1 + 1, 2, none⟩ (.slice (some ⟨g, 0, none⟩) (j + 1) cp)) W3.heap.size u' t.rs j' cs' :=
        ⟨j + 1, _, _, by simp, by omega, hx8, H7.out.2.1.trans (grown_setc _ _ _ _), ho8, hk8⟩
      have HEND := Lib.hid hend
      clear hx8 ho8 hk8 hend d7 f7 fs
      go_wp2_with fail
      go_roundw
      case rel => exact HEND.out
      case measure => simp [RowKit.intOf]; omega
    · obtain rfl : j = n := by omega
      have i1 : ¬ (j : Int) < (j : Int) := by omega
      have hown' : wr.ownsRow W3.heap.size 68 7 u t.rs.length cs := by rw [HN.out]; exact hown
      have hkids' : KidsR wr W3.heap.size u t.rs t.rs.length cs := by rw [HN.out]; exact hkids
      obtain ⟨A6, c6, rfl⟩ := own_formN hown
      have hx2 : Cells wr (w.heap.size + 1) 57 #[.slice none 0 0, .slice none 0 0, .slice none 0 0] := (hg.block _ H3.out.2.1.lt (by simp)).trans H3.out.2.1
      have z3 := HW.out.2.2.2
      have hs3 := hbw.size
      have hg3 := hg.size
      have hf := ((Fz.set (X := fun b => b = w.heap.size + 1) wr (w.heap.size + 1) 0 (.slice A1 t.ig.length c1) rfl).trans (Fz.set _ (w.heap.size + 1) 1 (.slice A2 t.kp.length c2) rfl)).trans (Fz.set _ (w.heap.size + 1) 2 (.slice A6 j c6) rfl)
      have hy := ((hx2.set 0 (.slice A1 t.ig.length c1)).set 1 (.slice A2 t.kp.length c2)).set 2 (.slice A6 j c6)
      have ho9 := own_fz hown' hf (fun b e he => by have := (own_block_lt hown' b e).1; omega)
      have hk9 := hkids'.blocks (fun b hb hb2 => hf.block b hb2 (by omega)) hf.size
      obtain ⟨A7, c7, he7, hrs⟩ := hk9.full ho9
      have he8 : A6 = A7 ∧ c6 = c7 := by injection he7 with q1 q2 q3; exact ⟨q1, q3⟩
      obtain ⟨rfl, rfl⟩ := he8
      have hb9 := hbw.trans (hf.below (B := w.heap.size) (by omega) (fun b hb e => by omega))
      have e0 := hx3.cell 0
      have e1 := hx3.cell 1
      have e2 := hx3.cell 2
      have r0 := hx2.cell 0
      have r1 := hx2.cell 1
      have r2 := hx2.cell 2
      have s0 := hx2.froz 0
      have s1 := hx2.froz 1
      have s2 := hx2.froz 2
      simp at e0 e1 e2 r0 r1 r2
      have HK := Lib.hid (And.intro hy (And.intro hrs hb9))
      clear hx3 hg hown hkids hown' hkids' hx2 hbw hf hy ho9 hk9 he7 hrs hb9
      go_wp2_with fail
      refine bodyPost_ret (v := .agg #[.slice A1 t.ig.length c1, .slice A2 t.kp.length c2, .slice A6 j c6]) (results_cell_row rfl _ _ (w.heap.size + 1) 57 #[.slice A1 t.ig.length c1, .slice A2 t.kp.length c2, .slice A6 j c6] (0, 0) _ rfl HK.out.1 Try.underlying57 rfl (by kernel_rfl)) rfl ⟨_, rfl, ⟨A1, c1, A2, c2, A6, c6, by rw [HN.out], ?_, ?_, HK.out.2.1⟩, HK.out.2.2⟩
      · exact (H3.out.2.2.2.2.1.below HK.out.2.2).mono HK.out.2.2.size
      · exact (H3.out.2.2.2.2.2.1.below HK.out.2.2).mono HK.out.2.2.size
end Go.Proofs.Ytegkogadceodlaa
