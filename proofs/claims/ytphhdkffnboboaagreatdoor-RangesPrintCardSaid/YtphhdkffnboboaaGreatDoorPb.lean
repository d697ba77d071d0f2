/-
  Contracts: ranges.Parse, the ways ahead of its loop.
-/
import Derived.Test.YtphhdkffnboboaaGreatDoorPa
namespace Go.Proofs.YtphhdkffnboboaaGreatDoor
open Go.RowKit Go.Shelf
open Go.Lib
attribute [local go_sem] Oper.semAt_some

theorem made3_boxes (s : ByteArray) (w : World) : Boxed (made3 s w) w.heap.size 9 (.string s) ∧ Boxed (made3 s w) (w.heap.size + 1) 9 (.string ⟨#[44]⟩) ∧ Boxed (made3 s w) (w.heap.size + 2) 3 (.int .i64 0) := by
  have h2 := Boxed.new (w.alloc (.cells #[.string s] 9)) 9 (.string ⟨#[44]⟩)
  have h3 := Boxed.new ((w.alloc (.cells #[.string s] 9)).alloc (.cells #[.string ⟨#[44]⟩] 9)) 3 (.int .i64 0)
  simp only [World.size_alloc] at h2 h3
  exact ⟨((Boxed.new w 9 _).alloc _).alloc _, h2.alloc _, h3⟩
theorem made3_size (s : ByteArray) (w : World) : (made3 s w).heap.size = w.heap.size + 3 := by simp [made3]

set_option maxHeartbeats 4000000 in
theorem parse_loop (s : List UInt8) (w : World) (hs : s.length ≤ 100000) (hM : MX w) (hE : EV w) (hT : TZ w) (hn : (s == [110, 111, 110, 101]) = false) (hc : ¬ 1000 ≤ s.count 44) (hc' : decide ((1000 : Int) ≤ (s.count 44 : Nat)) = false) :
    Calls Tryz.prog 8 #[.string ⟨s.toArray⟩] w (ParsePost (parseF s) w) := by
  have hm := hM
  obtain ⟨m, hm0, hm1⟩ := hm
  have CC := Lib.hid (fun W => count_any s W)
  have CS := Lib.hid (fun W => split_any ⟨s.toArray⟩ W)
  refine (callsIn_wide (n := 5)).1 ?_
  refine callsIn_of_wp_marks Tryz.func8 rfl trivial ?_ rfl
  simp only [Tryz.ntmps8, List.size_toArray, List.length_cons, List.length_nil, Nat.reduceAdd, Nat.reduceSub, Array.replicate_succ, Array.replicate_zero, List.push_toArray, List.append_toArray, List.nil_append, List.cons_append]
  gi_wp2_with (first
    | (refine ⟨trivial, ?_⟩; gi_at_call 18; refine (callsIn_wide.2 (CC.out _)).mono ?_; rintro e w' ⟨rfl, rfl⟩)
    | (refine ⟨trivial, ?_⟩; gi_at_call 19; refine (callsIn_wide.2 (CS.out _)).mono ?_; rintro e w' ⟨rfl, rfl⟩))
  obtain ⟨W0, hW0⟩ : ∃ W0, made3 ⟨s.toArray⟩ (((w.alloc (.cells #[.slice none 0 0] 27)).alloc (.cells #[.int .i64 0] 29)).alloc (.cells #[.slice none 0 0] 27)) = W0 := ⟨_, rfl⟩
  rw [hW0]
  have hz : W0.heap.size = w.heap.size + 6 := by rw [← hW0]; simp [made3]
  have hb0 : Below w.heap.size w W0 := by
    rw [← hW0]
    unfold made3
    exact ((((((Below.refl _ w).alloc (Nat.le_refl _) _).alloc (by simp) _).alloc (by simp; omega) _).alloc (by simp; omega) _).alloc (by simp; omega) _).alloc (by simp; omega) _
  obtain ⟨c0, c1, c2, f0⟩ : W0.cell? ⟨w.heap.size + 1 + 1 + 1, 0, none⟩ = some (.string ⟨s.toArray⟩) ∧ W0.cell? ⟨w.heap.size + 1 + 1 + 1 + 1, 0, none⟩ = some (.string ⟨#[44]⟩) ∧ W0.cell? ⟨w.heap.size + 1 + 1 + 1 + 2, 0, none⟩ = some (.int .i64 0) ∧
      W0.frozen? ⟨w.heap.size + 1 + 1 + 1, 0, none⟩ = false := by
    have h := made3_boxes ⟨s.toArray⟩ (((w.alloc (.cells #[.slice none 0 0] 27)).alloc (.cells #[.int .i64 0] 29)).alloc (.cells #[.slice none 0 0] 27))
    rw [hW0] at h
    simp only [World.size_alloc] at h
    exact ⟨h.1.cell, h.2.1.cell, h.2.2.cell, h.1.frozen⟩
  have b0 : Boxed W0 w.heap.size 27 (.slice none 0 0) := by rw [← hW0]; exact (((((Boxed.new w 27 _).alloc _).alloc _).alloc _).alloc _).alloc _
  have b1 : Boxed W0 (w.heap.size + 1) 29 (.int .i64 0) := by
    rw [← hW0]
    have := Boxed.new (w.alloc (.cells #[.slice none 0 0] 27)) 29 (.int .i64 0)
    rw [World.size_alloc] at this
    exact (((this.alloc _).alloc _).alloc _).alloc _
  have b2 : Boxed W0 (w.heap.size + 2) 27 (.slice none 0 0) := by
    rw [← hW0]
    have := Boxed.new ((w.alloc (.cells #[.slice none 0 0] 27)).alloc (.cells #[.int .i64 0] 29)) 27 (.slice none 0 0)
    rw [World.size_alloc, World.size_alloc] at this
    exact ((this.alloc _).alloc _).alloc _
  clear hW0
  have hin : ∀ pre x, pre ++ [x] <+: splitC s → x.length ≤ s.length := fun pre x h => splitC_part s x (h.subset (by simp))
  refine wpIn_hands (n := 5) (by omega) (gf := 44) (q := w.heap.size + 1 + 1 + 1) rfl (enters_of Tryz.func44 (by kernel_rfl) rfl)
    (split_hands 4 (by omega) (w.heap.size + 1 + 1 + 1) s (by omega) m W0 c0 c1 c2 f0 ((hb0.cell (p := ⟨0, 0, none⟩) (by show 0 < w.heap.size; omega)).trans hm0) (by omega)) (by omega) rfl
    (PI w.heap.size w) (PX w.heap.size w) (PI_lets _ _) (PX_lets _ _) (PI_own _ _ (Nat.le_refl _) _ (by omega)) (PX_own _ _ (Nat.le_refl _) _ (by omega))
    ⟨⟨⟨⟨_, b2, World.ownsRow_nil _ _ _ _, rfl, by simp [gotten]⟩, ⟨_, b0, trivial⟩⟩, ⟨_, b1, trivial⟩⟩, hb0, by omega⟩
    (fun x => { tmps := #[.string ⟨s.toArray⟩, undef, .pointer (some ⟨w.heap.size, 0, none⟩), .pointer (some ⟨w.heap.size + 1, 0, none⟩), .pointer (some ⟨w.heap.size + 1 + 1, 0, none⟩), .string ⟨x.toArray⟩, undef, undef, .string ⟨s.toArray⟩, .bool false, .string ⟨s.toArray⟩, .int .i64 (s.count 44 : Nat), .bool false, .string ⟨s.toArray⟩,
      .func (.func 44) #[] #[.pointer (some ⟨w.heap.size + 1 + 1 + 1 + 1, 0, none⟩), .pointer (some ⟨w.heap.size + 1 + 1 + 1, 0, none⟩), .pointer (some ⟨w.heap.size + 1 + 1 + 1 + 2, 0, none⟩)], .string ⟨x.toArray⟩, undef, undef, undef, undef, undef, undef, undef, undef, undef, undef, undef, undef, undef, undef, undef, undef], defers := [] }) ?assign ?body ?done ?stop
  case assign =>
    intro l x W K hK
    gi_wp2
    exact hK
  case body =>
    rintro l pre x W ⟨⟨⟨⟨v, hv, hr, hall, hi32⟩, ⟨v0, h0, _⟩⟩, ⟨v1, h1, _⟩⟩, hb, hz6⟩ hpre
    have C := parseRange_any ⟨x.toArray⟩ W (by show x.toArray.size ≤ _; rw [List.size_toArray]; have := hin pre x hpre; omega) (hM.below hb) (hE.below hb)
    have C : Calls Tryz.prog 20 #[.string ⟨x.toArray⟩] W (PrPost (prP x) W) := C
    cases hp : prP x with
    | none =>
      rw [hp] at C
      have hW : w.heap.size + 1 < W.heap.size := h1.lt
      gi_wp2_with (refine ⟨trivial, ?_⟩; gi_at_call 20; refine (CallsIn.inRound l (callsIn_wide.2 C)).mono ?_; rintro e W1 ⟨a, b, hI, rfl, hx, hb1⟩; have k0 := (boxed_below h0 hb1).cell; have k1 := (boxed_below h1 hb1).cell; have z0 := (boxed_below h0 hb1).frozen; have z1 := (boxed_below h1 hb1).frozen; have n0 : w.heap.size < W1.heap.size := (by have := hb1.size; omega); have n1 : w.heap.size + 1 < W1.heap.size := (by have := hb1.size; omega))
      have q0 := boxed_below h0 hb1
      have q1 := boxed_below h1 hb1
      have hn0 : w.heap.size ≤ W.heap.size := hb.size
      refine ⟨(((keepsOthers_below hb1).trans (KeepsOthers.setCell _ _ _)).trans (KeepsOthers.setCell _ _ _)).trans (KeepsOthers.alloc _ _), ⟨⟨⟨_, (boxed_far (q0.set _) _ _ (by omega)).alloc _, rfl⟩, ⟨_, ((boxed_far q1 _ _ (by omega)).set _).alloc _, rfl⟩⟩, ?_⟩, by simp [hp]⟩
      exact hb.trans ((((hb1.mono hn0).setCell (p := ⟨w.heap.size, 0, none⟩) (Nat.le_refl _) _).setCell (p := ⟨w.heap.size + 1, 0, none⟩) (by simp) _).alloc (by simp; omega) _)
    | some r =>
      rw [hp] at C
      have hglen := gotten_len s pre x hpre hc
      obtain ⟨A, c, rfl⟩ : ∃ A c, v = .slice A (gotten pre).length c := by
        rcases hr.2 with ⟨rfl, h0⟩ | ⟨g, cap, _, rfl, _⟩
        · exact ⟨none, 0, by rw [h0]⟩
        · exact ⟨_, _, rfl⟩
      have hG := gotten_some pre x r hp
      have hall' : ((pre ++ [x]).all fun p => (prP p).isSome) = true := by simp [hall, hp]
      have hq0 : 1 ≤ w.heap.size := hm1
      have HP := Lib.hid (And.intro hall' (And.intro hG hi32))
      generalize gotten pre = G at *
      obtain ⟨n, hn'⟩ : ∃ n, G.length = n := ⟨_, rfl⟩
      rw [hn'] at hv hr hglen
      have HN := Lib.hid hn'
      clear hn' hall hall' hG hi32 hp
      obtain ⟨i0, hi, hz0, hz1, hz2⟩ := info_parts Tryz.info39
      gi_wp2_with (first
        | (refine ⟨trivial, ?_⟩; gi_at_call 20; refine (CallsIn.inRound l (callsIn_wide.2 C)).mono ?_; rintro e W1 ⟨a, b, hI, rfl, hx, hb1⟩; have k2 := (boxed_below hv hb1).cell; have z2 := (boxed_below hv hb1).frozen; have n2 : w.heap.size + 1 + 1 < W1.heap.size := (by have := hb1.size; omega);
            have HR := ((ownsRow_below hr hb1).alloc (.cells #[.int .i32 a, .int .i32 b] 39)).alloc (.cells #[.int .i32 a, .int .i32 b] 39))
        | (gi_at_builtin; refine wpListIn_append_own _ rfl _ _ 27 rfl (w.heap.size + 6) 39 i0 (.agg #[.int .i32 0, .int .i32 0]) 2 8 Tryz.underlying27 hi hz0 hz1 hz2 rfl (by decide) _ _ _ rfl HR ⟨W1.heap.size + 1, 0, none⟩ 1 1 [.int .i32 a, .int .i32 b] rfl rfl (by have := pair_cells (W1.alloc (.cells #[.int .i32 a, .int .i32 b] 39)) a b; rw [World.size_alloc] at this; exact this) (by simp [Value.oneCell']) (by unfold maxLen; omega) (by omega) (by have := hb1.size; simp; omega) ?_; intro v' w2 hown' hgrow _; obtain ⟨g', cap', rfl⟩ := ownsRow_succ hown'; have hv2 := (((boxed_below hv hb1).alloc (.cells #[.int .i32 a, .int .i32 b] 39)).alloc (.cells #[.int .i32 a, .int .i32 b] 39)).kept hgrow (fun e => by have := (own_block_lt HR _ e.symm).1; omega); have k3 := hv2.cell; have z3 := hv2.frozen))
      obtain rfl : r = (a, b) := hx r rfl
      replace hgrow : ((W1.alloc (.cells #[.int .i32 a, .int .i32 b] 39)).alloc (.cells #[.int .i32 a, .int .i32 b] 39)).grownBy w2 (Value.slice A n c).ownBlock := hgrow
      have hs1 := hb1.size
      have hsz : (((W1.alloc (.cells #[.int .i32 a, .int .i32 b] 39)).alloc (.cells #[.int .i32 a, .int .i32 b] 39))).heap.size = W1.heap.size + 2 := by simp
      have hrow : ∀ k, (Value.slice A n c).ownBlock = some k → w.heap.size + 6 ≤ k := fun k e => (own_block_lt HR k e).1
      have hrow' : ∀ k, (Value.slice (some ⟨g', 0, none⟩) (n + 1) cap').ownBlock = some k → w.heap.size + 6 ≤ k := fun k e => (own_block_lt hown' k e).1
      have heq : ∀ k, k < w.heap.size + 6 → k ≠ w.heap.size + 2 → (w2.setCell ⟨w.heap.size + 1 + 1, 0, none⟩ (.slice (some ⟨g', 0, none⟩) (n + 1) cap')).heap[k]? = W.heap[k]? := fun k hk hk2 => by
        have e1 := Below.heap_setCell w2 ⟨w.heap.size + 1 + 1, 0, none⟩ (.slice (some ⟨g', 0, none⟩) (n + 1) cap') k (by simp only; omega)
        have e2 := hgrow.block k (by rw [hsz]; omega) (fun e => by have := hrow k e.symm; omega)
        exact ((e1.trans e2).trans ((Below.heap_alloc _ _ _ (by simp; omega)).trans (Below.heap_alloc _ _ _ (by omega)))).trans (hb1.block k (by omega))
      have hko : KeepsOthers ((W1.alloc (.cells #[.int .i32 a, .int .i32 b] 39)).alloc (.cells #[.int .i32 a, .int .i32 b] 39)) w2 := KeepsOthers.of_grownBy hgrow fun j o ej hj => by
        rcases HR.2 with ⟨h, _⟩ | ⟨g, cap, cur, h, _, hgb, _⟩
        · rw [h] at ej; simp [Value.ownBlock] at ej
        · rw [h] at ej
          obtain rfl : g = j := by simpa [Value.ownBlock] using ej
          rw [hgb] at hj; cases hj; rfl
      obtain ⟨p1, p2, p3⟩ := HP.out
      have hn' := HN.out
      refine ⟨((((keepsOthers_below hb1).trans (KeepsOthers.alloc _ _)).trans (KeepsOthers.alloc _ _)).trans hko).trans (KeepsOthers.setCell _ _ _), keeps3_of _ _ _ (fun k h1 h2 => heq k (by omega) (by omega)) (by omega), ?_⟩
      refine ⟨⟨⟨⟨_, hv2.set _, ?_, p1, ?_⟩, ⟨v0, (heq _ (by omega) (by omega)).trans h0, trivial⟩⟩, ⟨v1, (heq _ (by omega) (by omega)).trans h1, trivial⟩⟩, ?_, ?_⟩
      · rw [p2, List.length_append, hn', cells2_append]
        exact hown'.kept (grownBy_setCell' w2 _ _) (.inr fun e => by have := hrow' _ e; omega)
      · rw [p2]
        intro y hy
        rcases List.mem_append.1 hy with hy | hy
        · exact p3 y hy
        · rw [List.mem_singleton.1 hy]; exact hI
      · refine ((hb.trans (((hb1.mono (by omega)).alloc (by omega) _).alloc (by simp; omega) _)).grown hgrow (by simp; omega) fun k e => ?_).setCell (p := ⟨w.heap.size + 1 + 1, 0, none⟩) (by simp; omega) _
        have := hrow k e; omega
      · have := hgrow.size; rw [hsz] at this; simp; omega
  case done =>
    rintro D W hD ⟨⟨⟨⟨v, hv, hr, hall, hi32⟩, ⟨v0, h0, _⟩⟩, ⟨v1, h1, _⟩⟩, hb, hz6⟩ hK
    have hlen : (gotten (splitC s)).length ≤ 1000 := by
      have h1 : (gotten (splitC s)).length ≤ (splitC s).length := List.length_filterMap_le _ _
      rw [splitC_len] at h1
      omega
    have hF : parseF s = if setText (known (gotten (splitC s))) = s then some (gotten (splitC s)) else none := by
      unfold parseF
      rw [if_neg (fun e => by rw [e] at hn; cases hn), if_neg hc, if_pos hall]
      rfl
    obtain ⟨A, c, rfl, hsw⟩ := sw_own hr hi32
    have C := print_any A c (gotten (splitC s)) W hsw.r (hT.below hb) hlen
    rw [hF]
    generalize gotten (splitC s) = G at *
    generalize setText (known G) = L at *
    have kv := hv.cell
    by_cases hq : L = s
    · have hq1 : (L == s) = true := by simp [hq]
      rw [if_pos hq]
      gi_wp2_with (refine ⟨trivial, ?_⟩; gi_at_call 6; refine (callsIn_wide.2 C).mono ?_; rintro e W1 ⟨rfl, hb1⟩; have k0 := (boxed_below h0 hb1).cell; have z0 := (boxed_below h0 hb1).frozen; have k1 := (boxed_below h1 hb1).cell; have z1 := (boxed_below h1 hb1).frozen; have k2 := (boxed_below hv hb1).cell)
      have hK1 : W1.heap[D]? = some (.deferred (some [])) := (hb1.block D (Array.getElem?_eq_some_iff.1 hK).1).trans hK
      have hK2 : ((W1.setCell ⟨w.heap.size, 0, none⟩ (.slice A G.length c)).setCell ⟨w.heap.size + 1, 0, none⟩ (.int .i64 0)).heap[D]? = some (.deferred (some [])) :=
        (KeepsOthers.setCell _ _ _).same D _ ((KeepsOthers.setCell _ _ _).same D _ hK1 rfl) rfl
      refine ⟨by simp, .inl ⟨_, _, rfl, run_takeDeferred hK2, ?_⟩⟩
      have j0 := boxed_far ((boxed_below h0 hb1).set (.slice A G.length c)) (w.heap.size + 1) (.int .i64 0) (by omega)
      have j1 := (boxed_far (boxed_below h1 hb1) w.heap.size (.slice A G.length c) (by omega)).set (.int .i64 0)
      have hB2 := ((hb.trans (hb1.mono hb.size)).setCell (p := ⟨w.heap.size, 0, none⟩) (Nat.le_refl _) (.slice A G.length c)).setCell (p := ⟨w.heap.size + 1, 0, none⟩) (by simp) (.int .i64 0)
      have hr2 : ((W1.setCell ⟨w.heap.size, 0, none⟩ (.slice A G.length c)).setCell ⟨w.heap.size + 1, 0, none⟩ (.int .i64 0)).ownsRow (w.heap.size + 6) 39 2 (.slice A G.length c) G.length (cells2 G) :=
        ((ownsRow_below hr hb1).kept (grownBy_setCell' W1 _ _) (.inr fun e => by have := (own_block_lt hr _ e).1; omega)).kept (grownBy_setCell' _ _ _) (.inr fun e => by have := (own_block_lt hr _ e).1; omega)
      generalize hW2 : (W1.setCell ⟨w.heap.size, 0, none⟩ (.slice A G.length c)).setCell ⟨w.heap.size + 1, 0, none⟩ (.int .i64 0) = W2 at *
      have k0 : (W2.putObj D (.deferred none)).cell? ⟨w.heap.size, 0, none⟩ = some (.slice A G.length c) := cell_kept j0.cell (grownBy_putObj' W2 D (.deferred none)) (fun r e => by cases e; exact ⟨_, hK2, rfl⟩)
      have k1 : (W2.putObj D (.deferred none)).cell? ⟨w.heap.size + 1, 0, none⟩ = some (.int .i64 0) := cell_kept j1.cell (grownBy_putObj' W2 D (.deferred none)) (fun r e => by cases e; exact ⟨_, hK2, rfl⟩)
      refine ⟨.tuple #[.slice A G.length c, .int .i64 0], by simp [results, Tryz.f8, go_sem, k0, k1], ?_⟩
      rw [hF, if_pos hq]
      obtain ⟨A', c', e', hsw'⟩ := sw_own (ownsRow_putObj hr2 (.deferred none) hK2 rfl) hi32
      injection e' with e1 _ e3
      subst e1
      subst e3
      exact ⟨hB2.trans (belowK_b (w := w) (Nat.le_refl _) W2 D _ _ (by omega) hK2 rfl rfl), A, c, rfl, hsw'⟩
    · have hq1 : (L == s) = false := by simpa using hq
      rw [if_neg hq]
      gi_wp2_with (refine ⟨trivial, ?_⟩; gi_at_call 6; refine (callsIn_wide.2 C).mono ?_; rintro e W1 ⟨rfl, hb1⟩; have k0 := (boxed_below h0 hb1).cell; have z0 := (boxed_below h0 hb1).frozen; have k1 := (boxed_below h1 hb1).cell; have z1 := (boxed_below h1 hb1).frozen; have k2 := (boxed_below hv hb1).cell)
      have hK1 : W1.heap[D]? = some (.deferred (some [])) := (hb1.block D (Array.getElem?_eq_some_iff.1 hK).1).trans hK
      have hK2 : ((W1.setCell ⟨w.heap.size, 0, none⟩ (.slice none 0 0)).setCell ⟨w.heap.size + 1, 0, none⟩ (.int .i64 4)).heap[D]? = some (.deferred (some [])) :=
        (KeepsOthers.setCell _ _ _).same D _ ((KeepsOthers.setCell _ _ _).same D _ hK1 rfl) rfl
      refine ⟨by simp, .inl ⟨_, _, rfl, run_takeDeferred hK2, ?_⟩⟩
      have j0 := boxed_far ((boxed_below h0 hb1).set (.slice none 0 0)) (w.heap.size + 1) (.int .i64 4) (by omega)
      have j1 := (boxed_far (boxed_below h1 hb1) w.heap.size (.slice none 0 0) (by omega)).set (.int .i64 4)
      have hB2 := ((hb.trans (hb1.mono hb.size)).setCell (p := ⟨w.heap.size, 0, none⟩) (Nat.le_refl _) (.slice none 0 0)).setCell (p := ⟨w.heap.size + 1, 0, none⟩) (by simp) (.int .i64 4)
      generalize hW2 : (W1.setCell ⟨w.heap.size, 0, none⟩ (.slice none 0 0)).setCell ⟨w.heap.size + 1, 0, none⟩ (.int .i64 4) = W2 at *
      have k0 : (W2.putObj D (.deferred none)).cell? ⟨w.heap.size, 0, none⟩ = some (.slice none 0 0) := cell_kept j0.cell (grownBy_putObj' W2 D (.deferred none)) (fun r e => by cases e; exact ⟨_, hK2, rfl⟩)
      have k1 : (W2.putObj D (.deferred none)).cell? ⟨w.heap.size + 1, 0, none⟩ = some (.int .i64 4) := cell_kept j1.cell (grownBy_putObj' W2 D (.deferred none)) (fun r e => by cases e; exact ⟨_, hK2, rfl⟩)
      refine ⟨.tuple #[.slice none 0 0, .int .i64 4], by simp [results, Tryz.f8, go_sem, k0, k1], ?_⟩
      rw [hF, if_neg hq]
      exact ⟨hB2.trans (belowK_b (w := w) (Nat.le_refl _) W2 D _ _ (by omega) hK2 rfl rfl), rfl⟩
  case stop =>
    rintro D pre W hD hpre ⟨⟨⟨⟨v0, h0, rfl⟩, ⟨v1, h1, rfl⟩⟩, hb⟩, hall⟩ hK
    have hF : parseF s = none := by
      unfold parseF
      rw [if_neg (fun e => by rw [e] at hn; cases hn), if_neg hc, if_neg]
      intro h
      rw [List.all_eq_true] at h
      have : (pre.all fun p => (prP p).isSome) = true := List.all_eq_true.2 fun p hp => h p (hpre.subset hp)
      rw [this] at hall
      cases hall
    rw [hF]
    gi_wp2
    refine ⟨by simp, .inl ⟨_, _, rfl, run_takeDeferred hK, ?_⟩⟩
    have k0 : (W.putObj D (.deferred none)).cell? ⟨w.heap.size, 0, none⟩ = some (.slice none 0 0) := cell_kept h0.cell (grownBy_putObj' W D (.deferred none)) (fun r e => by cases e; exact ⟨_, hK, rfl⟩)
    have k1 : (W.putObj D (.deferred none)).cell? ⟨w.heap.size + 1, 0, none⟩ = some (.int .i64 4) := cell_kept h1.cell (grownBy_putObj' W D (.deferred none)) (fun r e => by cases e; exact ⟨_, hK, rfl⟩)
    refine ⟨.tuple #[.slice none 0 0, .int .i64 4], by simp [results, Tryz.f8, go_sem, k0, k1], hb.trans (belowK_b (w := w) (Nat.le_refl _) W D _ _ (by omega) hK rfl rfl), rfl⟩
end Go.Proofs.YtphhdkffnboboaaGreatDoor
