/-
  Contracts: build.
  A table in memory; contracts: has, Right, Run, Tells.
-/
import Derived.Test.YteamonmneoakpaaDoorXqg
namespace Go.Proofs.YteamonmneoakpaaDoor
open Go.RowKit Go.Shelf Go.Lib Go.Great Go.Maps

/-- What is handed back: a table in memory. -/
structure TbO (w0 w : World) (G : Nat) (R : List (List Int)) (T : List Nat) (vN vT : Value) : Prop where
  rn : Rn w (G + 5) (fun b => G + 5 ≤ b) R vN
  rt : w.ownsRow (G + 5) 37 1 vT T.length (u64C T)
  low : Below G w0 w
def BuOk (w0 : World) (se : Bool) (s : St) (r : Ending) (w' : World) : Prop :=
  (∃ S, Sv se s S ∧ 1000 < S.length ∧ r = .returned (.tuple #[.agg #[.slice none 0 0, .slice none 0 0], .int .i64 7]) ∧ Below w0.heap.size w0 w') ∨
  (∃ S R T vN vT, Bf se s S R T ∧ R.length = S.length ∧ S.length ≤ 1000 ∧ r = .returned (.tuple #[.agg #[vN, vT], .int .i64 0]) ∧ TbO w0 w' w0.heap.size R T vN vT)
def OutRel (w0 : World) (se : Bool) (s : St) (k : Nat) (wr : World) : Prop :=
  k ≤ 1000 ∧ ∃ S R T vN vT, R.length = k ∧ Bf se s S R T ∧ S.length ≤ 1037 ∧ Bd w0 wr w0.heap.size k (Xo w0.heap.size vN vT) S R T vN vT
theorem nxt_eq (se : Bool) (s : St) (x : List Int) (m : Nat) : posI (stepM se s x m) = nxt se s x m := by unfold nxt; rfl
theorem posL_len (m : Nat) : (posL m).length ≤ 1024 := by
  unfold posL
  have := List.length_filter_le (inM m) (List.range 1024)
  rw [List.length_range] at this
  exact this
theorem nxt_len (se : Bool) (s : St) (x : List Int) (m : Nat) : (nxt se s x m).length ≤ 1024 := by
  rw [← nxt_eq]
  unfold posI
  rw [List.length_map]
  exact posL_len _
theorem sv_len {se : Bool} {s : St} {S : List (List Int)} (h : Sv se s S) {i : Nat} {x : List Int} (hx : S[i]? = some x) : x.length ≤ 1024 := by
  rcases Nat.eq_zero_or_pos i with rfl | h0
  · rw [h.z] at hx
    injection hx with hx
    rw [← hx]
    simp
  · obtain ⟨_, _, y, _, m, _, he⟩ := h.j i x h0 hx
    rw [he]
    exact nxt_len _ _ _ _
set_option maxHeartbeats 4000000 in
set_option maxRecDepth 100000 in
/-- Before the loop. -/
def W5of (w : World) : World := ((((w.alloc (.cells #[.slice none 0 0, .slice none 0 0] 54)).alloc (.cells #[.slice none 0 0, .slice none 0 0] 54)).alloc (.map #[] 0)).alloc (.map #[] 0)).alloc (.cells #[.map (some (w.heap.size + 1 + 1)), .map (some (w.heap.size + 1 + 1 + 1))] 112)
structure S5 (w W5 : World) : Prop where
  z : W5.heap.size = w.heap.size + 5
  res : Cells W5 w.heap.size 54 #[.slice none 0 0, .slice none 0 0]
  d : Cells W5 (w.heap.size + 1) 54 #[.slice none 0 0, .slice none 0 0]
  nm : Nm W5 (w.heap.size + 1 + 1) []
  wt : MapF W5 (w.heap.size + 1 + 1 + 1) 0 (.slice none 0 0) (fun _ => .slice none 0 0)
  b : Cells W5 (w.heap.size + 1 + 1 + 1 + 1) 112 #[.map (some (w.heap.size + 1 + 1)), .map (some (w.heap.size + 1 + 1 + 1))]
  low : Below w.heap.size w W5
theorem s5 {w W5 : World} (h5 : W5of w = W5) : S5 w W5 := by
  unfold W5of at h5
  have x1 := cells_new w #[.slice none 0 0, .slice none 0 0] 54
  have b1 := below_new w (.cells #[.slice none 0 0, .slice none 0 0] 54)
  have z1 : (w.alloc (.cells #[.slice none 0 0, .slice none 0 0] 54)).heap.size = w.heap.size + 1 := by simp
  generalize w.alloc (.cells #[.slice none 0 0, .slice none 0 0] 54) = W1 at *
  have x2 := cells_new W1 #[.slice none 0 0, .slice none 0 0] 54
  have b2 := below_new W1 (.cells #[.slice none 0 0, .slice none 0 0] 54)
  have z2 : (W1.alloc (.cells #[.slice none 0 0, .slice none 0 0] 54)).heap.size = W1.heap.size + 1 := by simp
  generalize W1.alloc (.cells #[.slice none 0 0, .slice none 0 0] 54) = W2 at *
  have x3 := Nm.made W2
  have b3 := below_new W2 (.map #[] 0)
  have z3 : (W2.alloc (.map #[] 0)).heap.size = W2.heap.size + 1 := by simp
  generalize W2.alloc (.map #[] 0) = W3 at *
  have x4 := MapF.made W3 (.slice none 0 0)
  have b4 := below_new W3 (.map #[] 0)
  have z4 : (W3.alloc (.map #[] 0)).heap.size = W3.heap.size + 1 := by simp
  generalize W3.alloc (.map #[] 0) = W4 at *
  have x5 := cells_new W4 #[.map (some (w.heap.size + 1 + 1)), .map (some (w.heap.size + 1 + 1 + 1))] 112
  have b5 := below_new W4 (.cells #[.map (some (w.heap.size + 1 + 1)), .map (some (w.heap.size + 1 + 1 + 1))] 112)
  have z5 : (W4.alloc (.cells #[.map (some (w.heap.size + 1 + 1)), .map (some (w.heap.size + 1 + 1 + 1))] 112)).heap.size = W4.heap.size + 1 := by simp
  rw [h5] at x5 b5 z5
  have y4 : W4.heap.size = w.heap.size + 1 + 1 + 1 + 1 := by omega
  have y3 : W3.heap.size = w.heap.size + 1 + 1 + 1 := by omega
  have y2 : W2.heap.size = w.heap.size + 1 + 1 := by omega
  rw [y4] at x5
  rw [y3] at x4
  rw [y2] at x3
  rw [z1] at x2
  exact ⟨by omega, (b5.block _ (by omega)).trans ((b4.block _ (by omega)).trans ((b3.block _ (by omega)).trans ((b2.block _ (by omega)).trans x1))), (b5.block _ (by omega)).trans ((b4.block _ (by omega)).trans ((b3.block _ (by omega)).trans x2)),
    x3.block ((b5.block _ (by omega)).trans (b4.block _ (by omega))), x4.block (b5.block _ (by omega)), x5, b1.trans ((b2.mono (by omega)).trans ((b3.mono (by omega)).trans ((b4.mono (by omega)).trans (b5.mono (by omega)))))⟩
theorem start_facts {w W5 W6 : World} (hh : 1 < w.heap.size) (h5 : W5of w = W5) (h6 : W5.alloc (.cells #[.int .i64 0] 3) = W6) :
    Cells W6 (w.heap.size + 1 + 1 + 1 + 1) 112 #[.map (some (w.heap.size + 1 + 1)), .map (some (w.heap.size + 1 + 1 + 1))] ∧ Nm W6 (w.heap.size + 1 + 1) [] ∧ MapF W6 (w.heap.size + 1 + 1 + 1) 0 (.slice none 0 0) (fun _ => .slice none 0 0) ∧ (PW w → PW W6) := by
  have h := s5 h5
  have b6 := below_new W5 (.cells #[.int .i64 0] 3)
  rw [h6] at b6
  have z := h.z
  exact ⟨(b6.block _ (by omega)).trans h.b, h.nm.block (b6.block _ (by omega)), h.wt.block (b6.block _ (by omega)), fun hp => (hp.below h.low hh).below b6 (by omega)⟩
theorem bd_start {w W5 W6 W7 : World} (_hh : 1 < w.heap.size) (h5 : W5of w = W5) (h6 : W5.alloc (.cells #[.int .i64 0] 3) = W6) {f : Int → Value} {r : Ending}
    (hr : StOk W6 (w.heap.size + 1 + 1) (w.heap.size + 1 + 1 + 1) [] f [0] (.slice (some ⟨W5.heap.size, 0, none⟩) 1 1) r W7) (se : Bool) (s : St) : r = .returned (.int .i64 0) ∧ OutRel w se s 0 W7 := by
  have h := s5 h5
  have b6 := below_new W5 (.cells #[.int .i64 0] 3)
  have x6 := slx_begin W5
  have z6 : (W5.alloc (.cells #[.int .i64 0] 3)).heap.size = W5.heap.size + 1 := by simp
  rw [h6] at b6 x6 z6
  have z := h.z
  rcases hr with ⟨i, hi, _⟩ | ⟨_, rfl, hn, hm, hg⟩
  · simp at hi
  · refine ⟨by simp, by omega, [[0]], [], [], .slice none 0 0, .slice none 0 0, rfl, Bf.begin se s, by simp, ?_⟩
    have nb : ∀ b, b < w.heap.size + 5 → b ≠ w.heap.size + 2 → b ≠ w.heap.size + 3 → W7.heap[b]? = W5.heap[b]? := fun b hb h2 h3 => (hg.block b (by omega) (by omega)).trans (b6.block b (by omega))
    refine ⟨by have := hg.size; omega, (nb _ (by omega) (by omega) (by omega)).trans h.res, (nb _ (by omega) (by omega) (by omega)).trans h.d, (nb _ (by omega) (by omega) (by omega)).trans h.b, hn, ⟨_, hm, fun i x _ hx => ?_⟩, ⟨[], ⟨rfl, .inl ⟨rfl, rfl⟩⟩, fun i r hr => by simp at hr⟩, ⟨rfl, .inl ⟨rfl, rfl⟩⟩, (fun g e => by cases e), ?_⟩
    · have hl := (List.getElem?_eq_some_iff.1 hx).1
      simp at hl
      subst hl
      simp at hx
      subst hx
      refine SlX.move (X := fun b => W5.heap.size ≤ b) (w := W6) ?_ hg.size (fun b hb hl => ⟨⟨by omega, by simp [Value.ownBlock], by simp [Value.ownBlock]⟩, hg.block b hl (by omega)⟩)
      exact x6
    · refine h.low.trans ⟨hg.os.trans b6.os, hg.tape.trans b6.tape, hg.output.trans b6.output, by have := hg.size; omega, fun j hj => nb j (by omega) (by omega) (by omega)⟩
theorem set_below {B : Nat} (w : World) (b i : Nat) (v : Value) (h : B ≤ b) : Below B w (w.setCell ⟨b, i, none⟩ v) :=
  ⟨rfl, rfl, rfl, by simp, fun k hk => Below.heap_setCell _ _ _ _ (by simp; omega)⟩
theorem done_bd {w0 w : World} {k : Nat} {S R : List (List Int)} {T : List Nat} {vN vT : Value} (h : Bd w0 w w0.heap.size k (Xo w0.heap.size vN vT) S R T vN vT) :
    TbO w0 ((w.setCell ⟨w0.heap.size, 0, none⟩ vN).setCell ⟨w0.heap.size, 1, none⟩ vT) w0.heap.size R T vN vT := by
  have g1 := grown_setc w w0.heap.size 0 vN
  have g2 := grown_setc (w.setCell ⟨w0.heap.size, 0, none⟩ vN) w0.heap.size 1 vT
  have hn : vN.ownBlock ≠ some w0.heap.size := fun e => by have := (h.rn.lt _ e).1; omega
  have ht : vT.ownBlock ≠ some w0.heap.size := fun e => by have := (own_block_lt h.rt _ e).1; omega
  exact ⟨(h.rn.move (X' := fun b => w0.heap.size + 5 ≤ b) g1 (.inr hn) (fun b hb _ => ⟨hb.1, fun e => by injection e with e; have := hb.1; omega⟩)).move g2 (.inr hn) (fun b hb _ => ⟨hb, fun e => by injection e with e; omega⟩), (h.rt.kept g1 (.inr ht)).kept g2 (.inr ht),
    (h.low.trans (set_below _ _ _ _ (Nat.le_refl _))).trans (set_below _ _ _ _ (Nat.le_refl _))⟩
theorem owns_form1 {w : World} {base e size n : Nat} {v : Value} {xs : List Value} (h : w.ownsRow base e size v n xs) : ∃ A cap, v = .slice A n cap := by
  rcases h.2 with ⟨h1, h2⟩ | ⟨g, c, _, h1, _⟩
  · exact ⟨none, 0, by rw [h1, h2]⟩
  · exact ⟨_, c, h1⟩
theorem step_slx {q : Np} {n : Nat} {se : Bool} {s : St} {w : World} (h : NfaAt w q n se s) (hT : TZ w) {X : Nat → Prop} {x : List Int} {V : Value} (hv : SlX w X x V) (m : Nat) (hm : m < 37) :
    Calls Tryd.prog 21 #[.pointer (some ⟨q.b, 0, none⟩), V, .int .i64 (m : Int)] w fun r w' => ∃ v', r = .returned v' ∧ SlX w' (fun b => w.heap.size ≤ b) (nxt se s x m) v' ∧ Below w.heap.size w w' := by
  obtain ⟨A, cap, rfl, his, _⟩ := hv.is
  refine (step_any h hT x A cap his (m : Int) (nat64 (by omega))).mono ?_
  rintro r w' ⟨v', rfl, ho, hb⟩
  refine ⟨v', rfl, ?_, hb⟩
  rw [← nxt_eq]
  exact slx_own ho
theorem tells_slx {q : Np} {n : Nat} {se : Bool} {s : St} {w : World} (h : NfaAt w q n se s) {X : Nat → Prop} {x : List Int} {V : Value} (hv : SlX w X x V) :
    Calls Tryd.prog 19 #[.pointer (some ⟨q.b, 0, none⟩), V] w fun r w' => r = .returned (.int .u64 (tellsU s x : Nat)) ∧ w' = w := by
  obtain ⟨A, cap, rfl, his, _⟩ := hv.is
  exact tells_any h x A cap his
theorem row_slx {w : World} {X : Nat → Prop} {ρ : Nat} {r : List Int} (h37 : r.length = 37) (hc : Cells w ρ 3 (rowC r)) (hi : ∀ y ∈ r, i64 y) (hX : X ρ) : SlX w X r (.slice (some ⟨ρ, 0, none⟩) 37 37) := by
  refine ⟨some ⟨ρ, 0, none⟩, 37, by rw [h37], by omega, by unfold maxLen; omega, hi, fun e => (by cases e), fun _ => ⟨ρ, rfl, hX, hc.lt, fun i x hx => ?_⟩⟩
  rw [hc.cell, rowC_full h37]
  simp [hx]
theorem row_i64 {se : Bool} {s : St} {S : List (List Int)} {x r : List Int} (h : RowOk se s S x r) (hS : S.length ≤ 100000) : ∀ y ∈ r, i64 y := by
  intro y hy
  obtain ⟨m, hm⟩ := List.getElem?_of_mem hy
  obtain ⟨j, rfl, hj⟩ := h m y hm
  exact nat64 (by have := (List.getElem?_eq_some_iff.1 hj).1; omega)
theorem out_step {w0 w w' : World} {se : Bool} {s : St} {S S' R : List (List Int)} {T : List Nat} {vN vT : Value} {x r : List Int} {k g cap : Nat} (hk : k + 1 ≤ 1000) (hR : R.length = k) (hB : Bf se s S R T) (hx : S[k]? = some x) (he : Ext S S') (hs : Sv se s S') (hl : S'.length ≤ 1037) (ho : RowOk se s S' x r) (h37 : r.length = 37)
    (hD : Bd w0 w w0.heap.size (k + 1) (Xo w0.heap.size vN vT) S' (R ++ [r]) T vN vT) (ho2 : w'.ownsRow (w0.heap.size + 5) 37 1 (.slice (some ⟨g, 0, none⟩) (T.length + 1) cap) (T.length + 1) (u64C T ++ [.int .u64 (tellsU s x : Nat)])) (hg : w.grownBy w' vT.ownBlock) (hat : vT.ownBlock = some g ∨ g = w.heap.size) :
    OutRel w0 se s (k + 1) (w'.setCell ⟨w0.heap.size + 1, 1, none⟩ (.slice (some ⟨g, 0, none⟩) (T.length + 1) cap)) :=
  ⟨hk, S', R ++ [r], T ++ [tellsU s x], vN, _, by simp [hR], hB.snoc he hs (by rw [hR]; exact hx) h37 ho, hl, hD.tell (fun b hb => hb) ho2 hg hat⟩
set_option maxHeartbeats 16000000 in
set_option maxRecDepth 100000 in
theorem build_any {q : Np} {n : Nat} {se : Bool} {s : St} {w : World} (h : NfaAt w q n se s) (hT : TZ w) (hP : PW w) : Calls Tryd.prog 54 #[.pointer (some ⟨q.b, 0, none⟩)] w (BuOk w se s) := by
  obtain ⟨W5, h5⟩ : ∃ W, W5of w = W := ⟨_, rfl⟩
  have H := Lib.hid (And.intro h (And.intro hT (And.intro hP (And.intro trivial h5))))
  clear h hT hP h5
  obtain ⟨ia, hi1⟩ : ∃ i, Tryd.prog.info? 23 = some i ∧ i.zero = some (.slice none 0 0) ∧ i.size = 1 ∧ i.bytes = 24 := ⟨_, rfl, rfl, rfl, rfl⟩
  obtain ⟨ib, hi2⟩ : ∃ i, Tryd.prog.info? 37 = some i ∧ i.zero = some (.int .u64 0) ∧ i.size = 1 ∧ i.bytes = 8 := ⟨_, rfl, rfl, rfl, rfl⟩
  have J := Lib.hid (And.intro hi1 hi2)
  clear hi1 hi2
  have mk2 := make37
  have mk1 : ∀ t (W : World), (Instr.makeMap t none).run Tryd.prog W = .ok (.map (some W.heap.size)) (W.alloc (.map #[] 0)) := fun t W => run_makeMap t W
  go_enter Tryd.func54, Tryd.ntmps54
  go_wp2_with fail
  rw [show ((((w.alloc (.cells #[.slice none 0 0, .slice none 0 0] 54)).alloc (.cells #[.slice none 0 0, .slice none 0 0] 54)).alloc (.map #[] 0)).alloc (.map #[] 0)).alloc (.cells #[.map (some (w.heap.size + 1 + 1)), .map (some (w.heap.size + 1 + 1 + 1))] 112) = W5 from H.out.2.2.2.2]
  refine (begin_any q.b W5).mono ?_
  rintro r W6 ⟨rfl, hW6⟩
  have hs6 := start_facts H.out.2.2.1.lt H.out.2.2.2.2 hW6.symm
  have C := state_any (w.heap.size + 1 + 1 + 1 + 1) (w.heap.size + 1 + 1) (w.heap.size + 1 + 1 + 1) [] _ [0] (.slice (some ⟨W5.heap.size, 0, none⟩) 1 1) _ W6 hs6.1 hs6.2.1 (by simp) (by simp) hs6.2.2.1 (by rw [hW6]; exact slx_begin W5) (by simp) (by simp) (hs6.2.2.2 H.out.2.2.1) (by omega) (by omega)
  have HC := Lib.hid C
  have H6 := Lib.hid hW6
  clear C hs6 hW6
  go_wp2_with fail
  refine HC.out.mono ?_
  intro r W7 hr
  obtain ⟨rfl, hO⟩ := bd_start H.out.2.2.1.lt H.out.2.2.2.2 H6.out.symm hr se s
  have HO := Lib.hid hO
  clear hr hO
  go_wp2_with fail
  go_loopw [6] (fun i wr => ∃ k : Nat, i = .int .i64 (k : Int) ∧ OutRel w se s k wr) (fun i _ => 2000 - (RowKit.intOf i).toNat)
  case atStart => exact ⟨0, rfl, HO.out⟩
  case round =>
    obtain ⟨k, rfl, hk1000, S, R, T, vN, vT, hR, hB, hS, hD⟩ := hrel
    have c5 : wr.cell? ⟨w.heap.size + 1 + 1 + 1 + 1, 0, none⟩ = some (.map (some (w.heap.size + 1 + 1))) := hD.b.cell 0
    have c6 : wr.cell? ⟨w.heap.size + 1 + 1 + 1 + 1, 1, none⟩ = some (.map (some (w.heap.size + 1 + 1 + 1))) := hD.b.cell 1
    obtain ⟨N, hN⟩ : ∃ N, S.length = N := ⟨_, rfl⟩
    have hkN : k ≤ N := by have := hB.le; omega
    have hN37 : N ≤ 1037 := by omega
    have HH := Lib.hid (And.intro hR (And.intro hB (And.intro hN hD)))
    clear hR hB hS hD hN
    by_cases hlt : k < N
    · have i1 : (k : Int) < (N : Int) := by omega
      by_cases hbig : 1000 < N
      · have i2 : (1000 : Int) < (N : Int) := by omega
        have r0 : wr.cell? ⟨w.heap.size, 0, none⟩ = some (.slice none 0 0) := HH.out.2.2.2.res.cell 0
        have r1 : wr.cell? ⟨w.heap.size, 1, none⟩ = some (.slice none 0 0) := HH.out.2.2.2.res.cell 1
        have f0 := HH.out.2.2.2.res.froz 0
        have f1 := HH.out.2.2.2.res.froz 1
        go_wp2_with (first
          | (refine wpList_lenNm rfl (.tmp 18) rfl (w.heap.size + 1 + 1) S HH.out.2.2.2.nm rfl ?_; rw [HH.out.2.2.1])
          | (refine wpList_lenNm rfl (.tmp 24) rfl (w.heap.size + 1 + 1) S HH.out.2.2.2.nm rfl ?_; rw [HH.out.2.2.1])
          | fail)
        have xx := (HH.out.2.2.2.res.set 0 (.slice none 0 0)).set 1 (.slice none 0 0)
        have e0 := xx.cell 0
        have e1 := xx.cell 1
        simp at e0 e1
        refine bodyPost_ret (v := .tuple #[.agg #[.slice none 0 0, .slice none 0 0], .int .i64 7]) (by simp [results, Tryd.results54, go_sem, e0, e1]) rfl ?_
        exact .inl ⟨S, HH.out.2.1.sv, by rw [HH.out.2.2.1]; exact hbig, rfl, ((HH.out.2.2.2.low).trans (set_below _ _ _ _ (Nat.le_refl _))).trans (set_below _ _ _ _ (Nat.le_refl _))⟩
      · have i2 : ¬ (1000 : Int) < (N : Int) := by omega
        obtain ⟨f, hmf, hfs⟩ := HH.out.2.2.2.wt
        obtain ⟨x, hx⟩ : ∃ x, S[k]? = some x := ⟨S[k]'(by rw [HH.out.2.2.1]; exact hlt), List.getElem?_eq_getElem _⟩
        have hv0 := hfs k x (Nat.le_refl _) hx
        obtain ⟨V, hV⟩ : ∃ V, f (k : Int) = V := ⟨_, rfl⟩
        rw [hV] at hv0
        have HM := Lib.hid (And.intro hmf (And.intro hfs (And.intro hx (And.intro hV hv0))))
        clear hmf hfs hx hV hv0
        go_wp2_with (first
          | (refine wpList_lenNm rfl (.tmp 18) rfl (w.heap.size + 1 + 1) S HH.out.2.2.2.nm rfl ?_; rw [HH.out.2.2.1])
          | (refine wpList_lenNm rfl (.tmp 24) rfl (w.heap.size + 1 + 1) S HH.out.2.2.2.nm rfl ?_; rw [HH.out.2.2.1])
          | (refine wpList_lookupF rfl (.tmp 29) (.tmp 30) 110 23 rfl Tryd.underlying110 (w.heap.size + 1 + 1 + 1) S.length (.slice none 0 0) f HM.out.1 (zero23 wr) (k : Int) (nat64 (by omega)) rfl rfl ?_; rw [HM.out.2.2.2.1])
          | (refine wpList_delF rfl (.tmp 33) (.tmp 34) 110 23 rfl Tryd.underlying110 (w.heap.size + 1 + 1 + 1) S.length (.slice none 0 0) f HM.out.1 (k : Int) (nat64 (by omega)) rfl rfl ?_
             intro w1 hm1 hg1
             have d1 := HH.out.2.2.2.deleted (fun b hb => hb.1) HM.out.2.1 hm1 hg1
             have v1 := HM.out.2.2.2.2.move hg1.size (fun b hb hl => ⟨hb, hg1.block b hl (fun e => by injection e with e; have := hb.1; omega)⟩)
             have HI := Lib.hid (in_start (k := k) HH.out.2.1.sv d1 v1)
             clear hm1 hg1 d1 v1)
          | fail)
        go_loopw [36] (fun i wr2 => ∃ m : Nat, i = .int .i64 (m : Int) ∧ m ≤ 37 ∧ InRel w se s S x V R T vN vT k w1.heap.size m wr2) (fun i _ => 37 - (RowKit.intOf i).toNat)
        case atStart => exact ⟨0, rfl, by omega, HI.out.1⟩
        case round =>
          rename_i wr2
          obtain ⟨m, rfl, hm, S', r, hr, he, hs', hl', ho', hD', hc', hv'⟩ := hrel
          obtain ⟨ρ, hρ⟩ : ∃ ρ, w1.heap.size = ρ := ⟨_, rfl⟩
          by_cases hmlt : m < 37
          · have i3 : (m : Int) < 37 := by omega
            have C1 := step_slx (H.out.1.below hD'.low) (H.out.2.1.below hD'.low H.out.2.1.lt) hv' m hmlt
            have HC1 := Lib.hid C1
            have HK := Lib.hid (And.intro hr (And.intro he (And.intro hs' (And.intro hl' (And.intro ho' (And.intro hD' (And.intro hc' hv')))))))
            clear C1 hr he hs' hl' ho' hD' hc' hv' hρ
            go_wp2_with fail
            refine HC1.out.mono ?_
            rintro e w3 ⟨v', rfl, hsl, hb3⟩
            have hD3 := HK.out.2.2.2.2.2.1.below hb3
            have hsl' : SlX w3 (Xi w.heap.size vN vT w1.heap.size) (nxt se s x m) v' := hsl.move (Nat.le_refl _) (fun b hb hl => ⟨⟨⟨by have := HK.out.2.2.2.2.2.1.sz; omega, fun e => by have := (HK.out.2.2.2.2.2.1.rn.lt _ e).2; omega, fun e => by have := (own_block_lt HK.out.2.2.2.2.2.1.rt _ e).2; omega⟩, by have := HK.out.2.2.2.2.2.2.1.lt; omega⟩, rfl⟩)
            obtain ⟨f', hmf', hfs'⟩ := hD3.wt
            have hS' : S'.length ≤ 5000 := by have := HK.out.2.2.2.1; have := HH.out.2.2.1; omega
            have C2 := state_any (w.heap.size + 1 + 1 + 1 + 1) (w.heap.size + 1 + 1) (w.heap.size + 1 + 1 + 1) S' f' (nxt se s x m) v' _ w3 hD3.b hD3.nm hS' (fun y hy p hp => by obtain ⟨i, hi⟩ := List.getElem?_of_mem hy; exact (HK.out.2.2.1.nn hi p hp).1) hmf' hsl' nxt_nn (nxt_len _ _ _ _) ((H.out.2.2.1.below hD3.low H.out.2.2.1.lt)) (by omega) (by omega)
            have HC2 := Lib.hid C2
            have HF := Lib.hid (And.intro hb3 (And.intro hsl' (And.intro hmf' hfs')))
            clear C2 hD3 hsl hb3 hsl' hmf' hfs'
            go_wp2_with fail
            refine HC2.out.mono ?_
            intro e w4 hst
            have hrm := HK.out.1
            subst hrm
            obtain ⟨j, rfl, ⟨old, hold⟩, hfz, hin⟩ := in_step (i0 := k) hmlt HK.out.2.1 HK.out.2.2.1 HK.out.2.2.2.1 HK.out.2.2.2.2.1 HM.out.2.2.1 HK.out.2.2.2.2.2.1 HK.out.2.2.2.2.2.2.1 HK.out.2.2.2.2.2.2.2 HI.out.2 HF.out.1 HF.out.2.1 HF.out.2.2.2 hst
            have HIN := Lib.hid hin
            clear hin hst
            go_wp2_with fail
            go_roundw
            case rel => exact ⟨r.length + 1, by go_num, by omega, HIN.out⟩
            case measure => simp [RowKit.intOf]; omega
          · have i3 : ¬ (m : Int) < 37 := by omega
            have hr37 : r.length = 37 := by omega
            have hDo := hD'.congr (X' := Xo w.heap.size vN vT) (fun b hb _ => hb.1)
            have hvo := hv'.move (X' := Xo w.heap.size vN vT) (Nat.le_refl _) (fun b hb _ => ⟨hb.1, rfl⟩)
            have hu := row_slx hr37 hc' (fun y hy => row_i64 ho' (by have := HH.out.2.2.1; omega) y hy) HI.out.2
            obtain ⟨gs, hown, hgs⟩ := hDo.rn
            have hgl : gs.length = R.length := by have := hown.1; simpa using this
            have y0 : wr.cell? ⟨w.heap.size + 1, 0, none⟩ = some vN := hDo.d.cell 0
            have hb8 := below_new wr (.cells #[.slice (some ⟨w1.heap.size, 0, none⟩) 37 37] 23)
            have hD8 := hDo.below hb8
            have o8 := hown.alloc (.cells #[.slice (some ⟨w1.heap.size, 0, none⟩) 37 37] 23)
            have u8' := hu.move hb8.size (fun b hb hl => ⟨hb, hb8.block b hl⟩)
            have g8 : ∀ (i : Nat) r, R[i]? = some r → ∃ u, gs[i]? = some u ∧ SlX (wr.alloc (.cells #[.slice (some ⟨w1.heap.size, 0, none⟩) 37 37] 23)) (Xo w.heap.size vN vT) r u := fun i r hr => by
              obtain ⟨u, h3, h4⟩ := hgs i r hr
              exact ⟨u, h3, h4.move hb8.size (fun b hb hl => ⟨hb, hb8.block b hl⟩)⟩
            have v8 := hvo.move hb8.size (fun b hb hl => ⟨hb, hb8.block b hl⟩)
            have c8 : (wr.alloc (.cells #[.slice (some ⟨w1.heap.size, 0, none⟩) 37 37] 23)).cell? ⟨wr.heap.size, 0, none⟩ = some (.slice (some ⟨w1.heap.size, 0, none⟩) 37 37) := by rw [World.cell?_alloc_new]; rfl
            have z8 := hDo.sz
            have bR : R.length ≤ 1000 := by have := HH.out.1; omega
            have HQ := Lib.hid (And.intro he (And.intro hs' (And.intro hl' (And.intro ho' (And.intro hr37 (And.intro z8 bR))))))
            have H8 := Lib.hid (And.intro hD8 (And.intro o8 (And.intro u8' (And.intro g8 (And.intro v8 (And.intro c8 hgl))))))
            clear hb8 hD8 o8 u8' g8 v8 c8 z8 bR he hs' hl' ho' hr37 hr hD' hc' hv' hDo hvo hu hown hgs hgl hρ
            go_wp2_with (first
              | (at_builtin
                 refine wpList_append_one rfl (.tmp 49) (.tmp 51) 51 rfl (w.heap.size + 5) 23 ia (.slice none 0 0) 24 Tryd.underlying51 J.out.1.1 J.out.1.2.1 J.out.1.2.2.1 J.out.1.2.2.2 (by decide) rfl _ R.length gs rfl H8.out.2.1 ⟨wr.heap.size, 0, none⟩ (.slice (some ⟨w1.heap.size, 0, none⟩) 37 37) rfl H8.out.2.2.2.2.2.1 rfl (by have := HQ.out.2.2.2.2.2.2; omega) (by have := HQ.out.2.2.2.2.2.1; simp; omega) _ rfl ?_)
              | fail)
            intro g cp w10 ho10 hg10 hat10 hl10
            have hg10' : (wr.alloc (.cells #[.slice (some ⟨w1.heap.size, 0, none⟩) 37 37] 23)).grownBy w10 vN.ownBlock := hg10
            have d10 : Cells w10 (w.heap.size + 1) 54 #[vN, vT] := (hg10'.block _ H8.out.1.d.lt (fun e => by have := (H8.out.1.rn.lt _ e.symm).1; omega)).trans H8.out.1.d
            have hat10' : vN.ownBlock = some g ∨ g = (wr.alloc (.cells #[.slice (some ⟨w1.heap.size, 0, none⟩) 37 37] 23)).heap.size := by simpa using hat10
            have D10 := H8.out.1.row (fun b hb => hb) H8.out.2.2.1 ho10 H8.out.2.2.2.1 H8.out.2.2.2.2.2.2 hg10' hat10'
            have V10 := H8.out.2.2.2.2.1.move (w' := w10.setCell ⟨w.heap.size + 1, 0, none⟩ (.slice (some ⟨g, 0, none⟩) (R.length + 1) cp)) (X' := fun _ => True) (by have := hg10'.size; simp at this ⊢; omega) (fun b hb hl => ⟨trivial, by
              rw [Below.heap_setCell _ _ _ _ (by have := hb.1; simp; omega)]
              exact hg10'.block b hl (fun e => hb.2.1 e.symm)⟩)
            have c10 := d10.cell 0
            have f10 := d10.froz 0
            simp at c10
            obtain ⟨w11, hw11⟩ : ∃ W, w10.setCell ⟨w.heap.size + 1, 0, none⟩ (.slice (some ⟨g, 0, none⟩) (R.length + 1) cp) = W := ⟨_, rfl⟩
            rw [hw11] at D10 V10
            have HW := Lib.hid hw11
            have H11 := Lib.hid (And.intro D10 V10)
            clear hw11 D10 V10 hat10 hat10' hg10 hg10' ho10 d10
            go_wp2_with fail
            rw [HW.out]
            have bd := (Below.refl w11.heap.size w11).drew
            obtain ⟨wd, hwd⟩ : ∃ W, w11.drew = W := ⟨_, rfl⟩
            rw [hwd] at bd
            have Dd := H11.out.1.below bd
            have Vd := H11.out.2.move bd.size (fun b hb hl => ⟨hb, bd.block b hl⟩)
            have C := tells_slx (H.out.1.below Dd.low) Vd
            have HC := Lib.hid C
            have nb := below_new wd (.cells #[.int .u64 (tellsU s x : Nat)] 37)
            have De := Dd.below nb
            have HL := Lib.hid (And.intro (show wd.cell? ⟨w.heap.size + 1, 1, none⟩ = some vT from Dd.d.cell 1) (show (wd.alloc (.cells #[.int .u64 (tellsU s x : Nat)] 37)).cell? ⟨w.heap.size + 1, 1, none⟩ = some vT from De.d.cell 1))
            have HE := Lib.hid (And.intro De (And.intro (World.news_of_block (heap_alloc_new wd (.cells #[.int .u64 (tellsU s x : Nat)] 37))) (show T.length ≤ 100000 from by have := HH.out.2.1.tl; have := HH.out.1; omega)))
            have HWD := Lib.hid hwd
            clear bd hwd Dd Vd C nb De
            refine wp_region_noPanic ?_
            refine wp_region_held_drew (S := fun _ => True) (by kernel_rfl) trivial (fun hH => ?_)
            rw [HWD.out]
            refine wpAnyH_take (i := 0) (oi := { dst := some 54, op := Op.fieldAddr 54 (Operand.tmp 4) 1, type := 0, pos := "build.go:32", after := #[], guard := none }) (v := ?_) rfl (by kernel_rfl) (by kernel_rfl) (by kernel_rfl) (fun _ _ _ h => h) (Or.inl ⟨by rfl, ?_⟩) (by exact hH) ?_
            rotate_left
            · intro W hSw
              go_simp
              try with_reducible rfl
            try simp only [Act.put, List.setIfInBounds_toArray, List.set_cons_zero, List.set_cons_succ]
            refine wpAnyH_take (i := 2) (oi := { dst := some 56, op := Op.move (Operand.tmp 0), type := 26, pos := "build.go:32", after := #[], guard := none }) (v := ?_) rfl (by kernel_rfl) (by kernel_rfl) (by kernel_rfl) (fun _ _ _ h => h) (Or.inl ⟨by rfl, ?_⟩) (by exact hH) ?_
            rotate_left
            · intro W hSw
              go_simp
              try with_reducible rfl
            try simp only [Act.put, List.setIfInBounds_toArray, List.set_cons_zero, List.set_cons_succ]
            refine wpAnyH_take (i := 3) (oi := { dst := some 57, op := Op.move (Operand.tmp 7), type := 23, pos := "build.go:32", after := #[], guard := none }) (v := ?_) rfl (by kernel_rfl) (by kernel_rfl) (by kernel_rfl) (fun _ _ _ h => h) (Or.inl ⟨by rfl, ?_⟩) (by exact hH) ?_
            rotate_left
            · intro W hSw
              go_simp
              try with_reducible rfl
            try simp only [Act.put, List.setIfInBounds_toArray, List.set_cons_zero, List.set_cons_succ]
            refine wpAnyH_ready (rs := [1, 4]) (by kernel_rfl) (by simp) ?_
            refine (AllReadyH.cons (o := { dst := some 55, op := Op.load 52 (Operand.tmp 54), type := 52, pos := "build.go:32", after := #[{ on := 0, ground := Ground.data }], guard := none }) rfl (fun K hK => ?_) (AllReadyH.cons (o := { dst := some 58, op := Op.call { callee := Callee.value (Operand.func 19), args := #[Operand.tmp 56, Operand.tmp 57], argTypes := #[26, 23] }, type := 37, pos := "build.go:32", after := #[{ on := 2, ground := Ground.data }, { on := 3, ground := Ground.data }], guard := none }) rfl (fun K hK => ?_) AllReadyH.nil))
            · have pl : wd.cell? ⟨w.heap.size + 1, 1, none⟩ = some vT := HL.out.1
              go_simp
              refine hK.out _ _ trivial (fun hH => ?_)
              clear hK K pl
              try simp only [Act.put, List.setIfInBounds_toArray, List.set_cons_zero, List.set_cons_succ]
              refine wpAnyH_ready (rs := [4]) (by kernel_rfl) (by simp) ?_
              refine (AllReadyH.cons (o := { dst := some 58, op := Op.call { callee := Callee.value (Operand.func 19), args := #[Operand.tmp 56, Operand.tmp 57], argTypes := #[26, 23] }, type := 37, pos := "build.go:32", after := #[{ on := 2, ground := Ground.data }, { on := 3, ground := Ground.data }], guard := none }) rfl (fun K hK => ?_) AllReadyH.nil)
              go_simp
              go_at_call 19
              refine HC.out.mono ?_
              rintro e w' ⟨rfl, he⟩
              obtain rfl := he.symm
              try go_wp2_with fail
              refine hK.out _ _ trivial (fun hH => ?_)
              clear hK K he
              try simp only [Act.put, List.setIfInBounds_toArray, List.set_cons_zero, List.set_cons_succ]
              refine wpAnyH_ready (rs := [5]) (by kernel_rfl) (by simp) ?_
              refine (AllReadyH.cons (o := { dst := some 59, op := Op.buildSlice 52 1 #[(0, Operand.tmp 58)], type := 52, pos := "build.go:32", after := #[{ on := 4, ground := Ground.data }], guard := none }) rfl (fun K hK => ?_) AllReadyH.nil)
              go_simp
              refine hK.out _ _ trivial (fun hH => ?_)
              clear hK K
              try simp only [Act.put, List.setIfInBounds_toArray, List.set_cons_zero, List.set_cons_succ]
              refine wpAnyH_ready (rs := [6]) (by kernel_rfl) (by simp) ?_
              refine (AllReadyH.cons (o := { dst := some 60, op := Op.call { callee := Callee.builtin Builtin.append, args := #[Operand.tmp 55, Operand.tmp 59], argTypes := #[52, 52] }, type := 52, pos := "build.go:32", after := #[{ on := 1, ground := Ground.data }, { on := 5, ground := Ground.data }, { on := 4, ground := Ground.chain }], guard := none }) rfl (fun K hK => ?_) AllReadyH.nil)
              refine step_append_lies _ rfl (.tmp 55) (.tmp 59) 52 rfl (w.heap.size + 5) 37 ib _ 1 8 Tryd.underlying52 J.out.2.1 J.out.2.2.1 J.out.2.2.2.1 J.out.2.2.2.2 rfl (by omega) vT T.length (u64C T) rfl HE.out.1.rt ⟨wd.heap.size, 0, none⟩ 1 1 [.int .u64 (tellsU s x : Nat)] rfl rfl HE.out.2.1 (by simp [Value.oneCell']) (by omega) (by have := HE.out.2.2; unfold maxLen; omega) (by have := HE.out.2.2; omega) (by have := HE.out.1.sz; exact Nat.le_of_lt_succ (by omega)) (wd.alloc (.cells #[.int .u64 (tellsU s x : Nat)] 37)).heap.size rfl ?_
              intro g2 cp2 w12 ho12 hg12 hat12 hl12
              have hend : OutRel w se s (k + 1) (w12.setCell ⟨w.heap.size + 1, 1, none⟩ (.slice (some ⟨g2, 0, none⟩) (T.length + 1) cp2)) := out_step (by omega) HH.out.1 HH.out.2.1 HM.out.2.2.1 HQ.out.1 HQ.out.2.1 (by have := HQ.out.2.2.1; have := HH.out.2.2.1; omega) HQ.out.2.2.2.1 HQ.out.2.2.2.2.1 HE.out.1 ho12 hg12 hat12
              have d12 : Cells w12 (w.heap.size + 1) 54 #[(.slice (some ⟨g, 0, none⟩) (R.length + 1) cp), vT] := (hg12.block _ HE.out.1.d.lt (fun e => by have := (own_block_lt HE.out.1.rt _ e.symm).1; omega)).trans HE.out.1.d
              have c12 := d12.cell 1
              have f12 := d12.froz 1
              simp at c12
              have HEND := Lib.hid hend
              clear hend ho12 hg12 hat12 hl12 d12
              refine hK.out _ _ trivial (fun hH => ?_)
              clear hK K
              try simp only [Act.put, List.setIfInBounds_toArray, List.set_cons_zero, List.set_cons_succ]
              refine wpAnyH_take (i := 7) (oi := { dst := some 61, op := Op.fieldAddr 54 (Operand.tmp 4) 1, type := 0, pos := "build.go:32", after := #[{ on := 0, ground := Ground.phase }, { on := 1, ground := Ground.phase }, { on := 2, ground := Ground.phase }, { on := 3, ground := Ground.phase }, { on := 4, ground := Ground.phase }, { on := 5, ground := Ground.phase }, { on := 6, ground := Ground.phase }], guard := none }) (v := ?_) rfl (by kernel_rfl) (by kernel_rfl) (by kernel_rfl) (fun _ _ _ h => h) (Or.inl ⟨by rfl, ?_⟩) (by exact hH) ?_
              rotate_left
              · intro W hSw
                go_simp
                try with_reducible rfl
              try simp only [Act.put, List.setIfInBounds_toArray, List.set_cons_zero, List.set_cons_succ]
              refine wpAnyH_ready (rs := [8]) (by kernel_rfl) (by simp) ?_
              refine (AllReadyH.cons (o := { dst := none, op := Op.store 52 (Operand.tmp 61) (Operand.tmp 60), type := 0, pos := "build.go:32", after := #[{ on := 7, ground := Ground.data }, { on := 6, ground := Ground.data }, { on := 6, ground := Ground.chain }, { on := 0, ground := Ground.phase }, { on := 1, ground := Ground.phase }, { on := 2, ground := Ground.phase }, { on := 3, ground := Ground.phase }, { on := 4, ground := Ground.phase }, { on := 5, ground := Ground.phase }, { on := 6, ground := Ground.phase }], guard := none }) rfl (fun K hK => ?_) AllReadyH.nil)
              go_simp
              refine hK.out _ _ trivial (fun hH => ?_)
              clear hK K
              try simp only [Act.put, List.setIfInBounds_toArray, List.set_cons_zero, List.set_cons_succ]
              refine wpAnyH_done (by kernel_rfl) ?_ _
              refine NoPanic.normal ?_
              go_wp2_with fail
              go_roundw
              case rel => exact ⟨k + 1, by go_num, HEND.out⟩
              case measure => simp [RowKit.intOf]; omega
            · go_simp
              go_at_call 19
              refine HC.out.mono ?_
              rintro e w' ⟨rfl, he⟩
              obtain rfl := he.symm
              try go_wp2_with fail
              refine hK.out _ _ trivial (fun hH => ?_)
              clear hK K he
              try simp only [Act.put, List.setIfInBounds_toArray, List.set_cons_zero, List.set_cons_succ]
              refine wpAnyH_ready (rs := [1, 5]) (by kernel_rfl) (by simp) ?_
              refine (AllReadyH.cons (o := { dst := some 55, op := Op.load 52 (Operand.tmp 54), type := 52, pos := "build.go:32", after := #[{ on := 0, ground := Ground.data }], guard := none }) rfl (fun K hK => ?_) (AllReadyH.cons (o := { dst := some 59, op := Op.buildSlice 52 1 #[(0, Operand.tmp 58)], type := 52, pos := "build.go:32", after := #[{ on := 4, ground := Ground.data }], guard := none }) rfl (fun K hK => ?_) AllReadyH.nil))
              · have pl : wd.cell? ⟨w.heap.size + 1, 1, none⟩ = some vT := HL.out.1
                go_simp
                refine hK.out _ _ trivial (fun hH => ?_)
                clear hK K pl
                try simp only [Act.put, List.setIfInBounds_toArray, List.set_cons_zero, List.set_cons_succ]
                refine wpAnyH_ready (rs := [5]) (by kernel_rfl) (by simp) ?_
                refine (AllReadyH.cons (o := { dst := some 59, op := Op.buildSlice 52 1 #[(0, Operand.tmp 58)], type := 52, pos := "build.go:32", after := #[{ on := 4, ground := Ground.data }], guard := none }) rfl (fun K hK => ?_) AllReadyH.nil)
                go_simp
                refine hK.out _ _ trivial (fun hH => ?_)
                clear hK K
                try simp only [Act.put, List.setIfInBounds_toArray, List.set_cons_zero, List.set_cons_succ]
                refine wpAnyH_ready (rs := [6]) (by kernel_rfl) (by simp) ?_
                refine (AllReadyH.cons (o := { dst := some 60, op := Op.call { callee := Callee.builtin Builtin.append, args := #[Operand.tmp 55, Operand.tmp 59], argTypes := #[52, 52] }, type := 52, pos := "build.go:32", after := #[{ on := 1, ground := Ground.data }, { on := 5, ground := Ground.data }, { on := 4, ground := Ground.chain }], guard := none }) rfl (fun K hK => ?_) AllReadyH.nil)
                refine step_append_lies _ rfl (.tmp 55) (.tmp 59) 52 rfl (w.heap.size + 5) 37 ib _ 1 8 Tryd.underlying52 J.out.2.1 J.out.2.2.1 J.out.2.2.2.1 J.out.2.2.2.2 rfl (by omega) vT T.length (u64C T) rfl HE.out.1.rt ⟨wd.heap.size, 0, none⟩ 1 1 [.int .u64 (tellsU s x : Nat)] rfl rfl HE.out.2.1 (by simp [Value.oneCell']) (by omega) (by have := HE.out.2.2; unfold maxLen; omega) (by have := HE.out.2.2; omega) (by have := HE.out.1.sz; exact Nat.le_of_lt_succ (by omega)) (wd.alloc (.cells #[.int .u64 (tellsU s x : Nat)] 37)).heap.size rfl ?_
                intro g2 cp2 w12 ho12 hg12 hat12 hl12
                have hend : OutRel w se s (k + 1) (w12.setCell ⟨w.heap.size + 1, 1, none⟩ (.slice (some ⟨g2, 0, none⟩) (T.length + 1) cp2)) := out_step (by omega) HH.out.1 HH.out.2.1 HM.out.2.2.1 HQ.out.1 HQ.out.2.1 (by have := HQ.out.2.2.1; have := HH.out.2.2.1; omega) HQ.out.2.2.2.1 HQ.out.2.2.2.2.1 HE.out.1 ho12 hg12 hat12
                have d12 : Cells w12 (w.heap.size + 1) 54 #[(.slice (some ⟨g, 0, none⟩) (R.length + 1) cp), vT] := (hg12.block _ HE.out.1.d.lt (fun e => by have := (own_block_lt HE.out.1.rt _ e.symm).1; omega)).trans HE.out.1.d
                have c12 := d12.cell 1
                have f12 := d12.froz 1
                simp at c12
                have HEND := Lib.hid hend
                clear hend ho12 hg12 hat12 hl12 d12
                refine hK.out _ _ trivial (fun hH => ?_)
                clear hK K
                try simp only [Act.put, List.setIfInBounds_toArray, List.set_cons_zero, List.set_cons_succ]
                refine wpAnyH_take (i := 7) (oi := { dst := some 61, op := Op.fieldAddr 54 (Operand.tmp 4) 1, type := 0, pos := "build.go:32", after := #[{ on := 0, ground := Ground.phase }, { on := 1, ground := Ground.phase }, { on := 2, ground := Ground.phase }, { on := 3, ground := Ground.phase }, { on := 4, ground := Ground.phase }, { on := 5, ground := Ground.phase }, { on := 6, ground := Ground.phase }], guard := none }) (v := ?_) rfl (by kernel_rfl) (by kernel_rfl) (by kernel_rfl) (fun _ _ _ h => h) (Or.inl ⟨by rfl, ?_⟩) (by exact hH) ?_
                rotate_left
                · intro W hSw
                  go_simp
                  try with_reducible rfl
                try simp only [Act.put, List.setIfInBounds_toArray, List.set_cons_zero, List.set_cons_succ]
                refine wpAnyH_ready (rs := [8]) (by kernel_rfl) (by simp) ?_
                refine (AllReadyH.cons (o := { dst := none, op := Op.store 52 (Operand.tmp 61) (Operand.tmp 60), type := 0, pos := "build.go:32", after := #[{ on := 7, ground := Ground.data }, { on := 6, ground := Ground.data }, { on := 6, ground := Ground.chain }, { on := 0, ground := Ground.phase }, { on := 1, ground := Ground.phase }, { on := 2, ground := Ground.phase }, { on := 3, ground := Ground.phase }, { on := 4, ground := Ground.phase }, { on := 5, ground := Ground.phase }, { on := 6, ground := Ground.phase }], guard := none }) rfl (fun K hK => ?_) AllReadyH.nil)
                go_simp
                refine hK.out _ _ trivial (fun hH => ?_)
                clear hK K
                try simp only [Act.put, List.setIfInBounds_toArray, List.set_cons_zero, List.set_cons_succ]
                refine wpAnyH_done (by kernel_rfl) ?_ _
                refine NoPanic.normal ?_
                go_wp2_with fail
                go_roundw
                case rel => exact ⟨k + 1, by go_num, HEND.out⟩
                case measure => simp [RowKit.intOf]; omega
              · go_simp
                refine hK.out _ _ trivial (fun hH => ?_)
                clear hK K
                try simp only [Act.put, List.setIfInBounds_toArray, List.set_cons_zero, List.set_cons_succ]
                refine wpAnyH_ready (rs := [1]) (by kernel_rfl) (by simp) ?_
                refine (AllReadyH.cons (o := { dst := some 55, op := Op.load 52 (Operand.tmp 54), type := 52, pos := "build.go:32", after := #[{ on := 0, ground := Ground.data }], guard := none }) rfl (fun K hK => ?_) AllReadyH.nil)
                have pl : (wd.alloc (.cells #[.int .u64 (tellsU s x : Nat)] 37)).cell? ⟨w.heap.size + 1, 1, none⟩ = some vT := HL.out.2
                go_simp
                refine hK.out _ _ trivial (fun hH => ?_)
                clear hK K pl
                try simp only [Act.put, List.setIfInBounds_toArray, List.set_cons_zero, List.set_cons_succ]
                refine wpAnyH_ready (rs := [6]) (by kernel_rfl) (by simp) ?_
                refine (AllReadyH.cons (o := { dst := some 60, op := Op.call { callee := Callee.builtin Builtin.append, args := #[Operand.tmp 55, Operand.tmp 59], argTypes := #[52, 52] }, type := 52, pos := "build.go:32", after := #[{ on := 1, ground := Ground.data }, { on := 5, ground := Ground.data }, { on := 4, ground := Ground.chain }], guard := none }) rfl (fun K hK => ?_) AllReadyH.nil)
                refine step_append_lies _ rfl (.tmp 55) (.tmp 59) 52 rfl (w.heap.size + 5) 37 ib _ 1 8 Tryd.underlying52 J.out.2.1 J.out.2.2.1 J.out.2.2.2.1 J.out.2.2.2.2 rfl (by omega) vT T.length (u64C T) rfl HE.out.1.rt ⟨wd.heap.size, 0, none⟩ 1 1 [.int .u64 (tellsU s x : Nat)] rfl rfl HE.out.2.1 (by simp [Value.oneCell']) (by omega) (by have := HE.out.2.2; unfold maxLen; omega) (by have := HE.out.2.2; omega) (by have := HE.out.1.sz; exact Nat.le_of_lt_succ (by omega)) (wd.alloc (.cells #[.int .u64 (tellsU s x : Nat)] 37)).heap.size rfl ?_
                intro g2 cp2 w12 ho12 hg12 hat12 hl12
                have hend : OutRel w se s (k + 1) (w12.setCell ⟨w.heap.size + 1, 1, none⟩ (.slice (some ⟨g2, 0, none⟩) (T.length + 1) cp2)) := out_step (by omega) HH.out.1 HH.out.2.1 HM.out.2.2.1 HQ.out.1 HQ.out.2.1 (by have := HQ.out.2.2.1; have := HH.out.2.2.1; omega) HQ.out.2.2.2.1 HQ.out.2.2.2.2.1 HE.out.1 ho12 hg12 hat12
                have d12 : Cells w12 (w.heap.size + 1) 54 #[(.slice (some ⟨g, 0, none⟩) (R.length + 1) cp), vT] := (hg12.block _ HE.out.1.d.lt (fun e => by have := (own_block_lt HE.out.1.rt _ e.symm).1; omega)).trans HE.out.1.d
                have c12 := d12.cell 1
                have f12 := d12.froz 1
                simp at c12
                have HEND := Lib.hid hend
                clear hend ho12 hg12 hat12 hl12 d12
                refine hK.out _ _ trivial (fun hH => ?_)
                clear hK K
                try simp only [Act.put, List.setIfInBounds_toArray, List.set_cons_zero, List.set_cons_succ]
                refine wpAnyH_take (i := 7) (oi := { dst := some 61, op := Op.fieldAddr 54 (Operand.tmp 4) 1, type := 0, pos := "build.go:32", after := #[{ on := 0, ground := Ground.phase }, { on := 1, ground := Ground.phase }, { on := 2, ground := Ground.phase }, { on := 3, ground := Ground.phase }, { on := 4, ground := Ground.phase }, { on := 5, ground := Ground.phase }, { on := 6, ground := Ground.phase }], guard := none }) (v := ?_) rfl (by kernel_rfl) (by kernel_rfl) (by kernel_rfl) (fun _ _ _ h => h) (Or.inl ⟨by rfl, ?_⟩) (by exact hH) ?_
                rotate_left
                · intro W hSw
                  go_simp
                  try with_reducible rfl
                try simp only [Act.put, List.setIfInBounds_toArray, List.set_cons_zero, List.set_cons_succ]
                refine wpAnyH_ready (rs := [8]) (by kernel_rfl) (by simp) ?_
                refine (AllReadyH.cons (o := { dst := none, op := Op.store 52 (Operand.tmp 61) (Operand.tmp 60), type := 0, pos := "build.go:32", after := #[{ on := 7, ground := Ground.data }, { on := 6, ground := Ground.data }, { on := 6, ground := Ground.chain }, { on := 0, ground := Ground.phase }, { on := 1, ground := Ground.phase }, { on := 2, ground := Ground.phase }, { on := 3, ground := Ground.phase }, { on := 4, ground := Ground.phase }, { on := 5, ground := Ground.phase }, { on := 6, ground := Ground.phase }], guard := none }) rfl (fun K hK => ?_) AllReadyH.nil)
                go_simp
                refine hK.out _ _ trivial (fun hH => ?_)
                clear hK K
                try simp only [Act.put, List.setIfInBounds_toArray, List.set_cons_zero, List.set_cons_succ]
                refine wpAnyH_done (by kernel_rfl) ?_ _
                refine NoPanic.normal ?_
                go_wp2_with fail
                go_roundw
                case rel => exact ⟨k + 1, by go_num, HEND.out⟩
                case measure => simp [RowKit.intOf]; omega
    · obtain rfl : k = N := by omega
      have i1 : ¬ (k : Int) < (k : Int) := by omega
      obtain ⟨gs, hown, _⟩ := HH.out.2.2.2.rn
      obtain ⟨A1, c1, e1⟩ := owns_form1 hown
      obtain ⟨A2, c2, e2⟩ := owns_form1 HH.out.2.2.2.rt
      subst e1 e2
      clear hown
      obtain ⟨nR, hnR⟩ : ∃ n, R.length = n := ⟨_, rfl⟩
      obtain ⟨nT, hnT⟩ : ∃ n, T.length = n := ⟨_, rfl⟩
      have HN := Lib.hid (And.intro hnR hnT)
      have d0 : wr.cell? ⟨w.heap.size + 1, 0, none⟩ = some (.slice A1 nR c1) := by rw [← hnR]; exact HH.out.2.2.2.d.cell 0
      have d1 : wr.cell? ⟨w.heap.size + 1, 1, none⟩ = some (.slice A2 nT c2) := by rw [← hnT]; exact HH.out.2.2.2.d.cell 1
      have r0 : wr.cell? ⟨w.heap.size, 0, none⟩ = some (.slice none 0 0) := HH.out.2.2.2.res.cell 0
      have r1 : wr.cell? ⟨w.heap.size, 1, none⟩ = some (.slice none 0 0) := HH.out.2.2.2.res.cell 1
      have f0 := HH.out.2.2.2.res.froz 0
      have f1 := HH.out.2.2.2.res.froz 1
      clear hnR hnT
      go_wp2_with (first
        | (refine wpList_lenNm rfl (.tmp 18) rfl (w.heap.size + 1 + 1) S HH.out.2.2.2.nm rfl ?_; rw [HH.out.2.2.1])
        | fail)
      have xx := (HH.out.2.2.2.res.set 0 (.slice A1 nR c1)).set 1 (.slice A2 nT c2)
      have e0 := xx.cell 0
      have e1 := xx.cell 1
      simp at e0 e1
      refine bodyPost_ret (v := .tuple #[.agg #[.slice A1 nR c1, .slice A2 nT c2], .int .i64 0]) (by simp [results, Tryd.results54, go_sem, e0, e1]) rfl ?_
      rw [← HN.out.1, ← HN.out.2]
      exact .inr ⟨S, R, T, _, _, HH.out.2.1, by rw [HH.out.1, HH.out.2.2.1], by rw [HH.out.2.2.1]; exact hk1000, rfl, done_bd HH.out.2.2.2⟩
end Go.Proofs.YteamonmneoakpaaDoor

namespace Go.Proofs.YteamonmneoakpaaDoor
open Go.RowKit Go.Shelf Go.Lib Go.Great Go.Maps

/-- A slice of rows. -/
structure RsAt (w : World) (B : Nat) (R : List (List Int)) (A : Option Addr) (cap : Nat) : Prop where
  l : R.length ≤ cap
  m : cap ≤ maxLen
  z : A = none → cap = 0
  r : R ≠ [] → ∃ b o, A = some ⟨b, o, none⟩ ∧ b < B ∧ ∀ (i : Nat) (r : List Int), R[i]? = some r → ∃ A' c', w.cell? ⟨b, o + i, none⟩ = some (.slice A' r.length c') ∧ IS w B r A' c' ∧ (A' = none → c' = 0)
theorem RsAt.below {w w' : World} {B : Nat} {R : List (List Int)} {A : Option Addr} {cap : Nat} (h : RsAt w B R A cap) (hb : Below B w w') : RsAt w' B R A cap :=
  ⟨h.l, h.m, h.z, fun hne => by
    obtain ⟨b, o, rfl, hl, hr⟩ := h.r hne
    exact ⟨b, o, rfl, hl, fun i r hx => by
      obtain ⟨A', c', h1, h2, h3⟩ := hr i r hx
      exact ⟨A', c', (hb.cell (p := ⟨b, _, none⟩) hl).trans h1, h2.below hb, h3⟩⟩⟩
theorem RsAt.mono {w : World} {B B' : Nat} {R : List (List Int)} {A : Option Addr} {cap : Nat} (h : RsAt w B R A cap) (hB : B ≤ B') : RsAt w B' R A cap :=
  ⟨h.l, h.m, h.z, fun hne => by
    obtain ⟨b, o, rfl, hl, hr⟩ := h.r hne
    exact ⟨b, o, rfl, by omega, fun i r hx => by
      obtain ⟨A', c', h1, h2, h3⟩ := hr i r hx
      exact ⟨A', c', h1, h2.mono hB, h3⟩⟩⟩
theorem RsAt.on {w w' : World} {R : List (List Int)} {A : Option Addr} {cap : Nat} (h : RsAt w w.heap.size R A cap) (hb : Below w.heap.size w w') : RsAt w' w'.heap.size R A cap := (h.below hb).mono hb.size
/-- A slice of what states tell. -/
structure UsAt (w : World) (B : Nat) (T : List Nat) (A : Option Addr) (cap : Nat) : Prop where
  l : T.length ≤ cap
  m : cap ≤ maxLen
  z : A = none → cap = 0
  i : ∀ x ∈ T, x < 18446744073709551616
  r : T ≠ [] → ∃ b o, A = some ⟨b, o, none⟩ ∧ b < B ∧ ∀ (i : Nat) (x : Nat), T[i]? = some x → w.cell? ⟨b, o + i, none⟩ = some (.int .u64 (x : Int))
theorem UsAt.below {w w' : World} {B : Nat} {T : List Nat} {A : Option Addr} {cap : Nat} (h : UsAt w B T A cap) (hb : Below B w w') : UsAt w' B T A cap :=
  ⟨h.l, h.m, h.z, h.i, fun hne => by
    obtain ⟨b, o, rfl, hl, hr⟩ := h.r hne
    exact ⟨b, o, rfl, hl, fun i x hx => (hb.cell (p := ⟨b, _, none⟩) hl).trans (hr i x hx)⟩⟩
theorem UsAt.mono {w : World} {B B' : Nat} {T : List Nat} {A : Option Addr} {cap : Nat} (h : UsAt w B T A cap) (hB : B ≤ B') : UsAt w B' T A cap :=
  ⟨h.l, h.m, h.z, h.i, fun hne => by
    obtain ⟨b, o, rfl, hl, hr⟩ := h.r hne
    exact ⟨b, o, rfl, by omega, hr⟩⟩
theorem UsAt.on {w w' : World} {T : List Nat} {A : Option Addr} {cap : Nat} (h : UsAt w w.heap.size T A cap) (hb : Below w.heap.size w w') : UsAt w' w'.heap.size T A cap := (h.below hb).mono hb.size
/-- A table as a value. -/
def TbV (w : World) (R : List (List Int)) (T : List Nat) (v : Value) : Prop := ∃ A c A2 c2, v = .agg #[.slice A R.length c, .slice A2 T.length c2] ∧ RsAt w w.heap.size R A c ∧ UsAt w w.heap.size T A2 c2
theorem TbV.on {w w' : World} {R : List (List Int)} {T : List Nat} {v : Value} (h : TbV w R T v) (hb : Below w.heap.size w w') : TbV w' R T v := by
  obtain ⟨A, c, A2, c2, e, h1, h2⟩ := h
  exact ⟨A, c, A2, c2, e, h1.on hb, h2.on hb⟩
theorem tbv_of {w : World} {base : Nat} {X : Nat → Prop} {R : List (List Int)} {T : List Nat} {vN vT : Value} (hrn : Rn w base X R vN) (hrt : w.ownsRow base 37 1 vT T.length (u64C T)) (ht : ∀ x ∈ T, x < 18446744073709551616) : TbV w R T (.agg #[vN, vT]) := by
  obtain ⟨gs, hn, hgs⟩ := hrn
  have h1 : ∃ A c, vN = .slice A R.length c ∧ RsAt w w.heap.size R A c := by
    rcases hn.2 with ⟨h1, h2⟩ | ⟨g, cap, cur, h1, h2, h3, h4, h5, h6, h7⟩
    · have hn : R = [] := List.eq_nil_of_length_eq_zero h2
      subst hn
      exact ⟨none, 0, by rw [h1]; rfl, Nat.le_refl _, by unfold maxLen; omega, fun _ => rfl, fun hn => absurd rfl hn⟩
    · refine ⟨_, cap, h1, h4, h5, fun e => (by cases e), fun _ => ⟨g, 0, rfl, (Array.getElem?_eq_some_iff.1 h3).1, fun i r hr => ?_⟩⟩
      obtain ⟨u, hu, hsl⟩ := hgs i r hr
      obtain ⟨A', c', rfl, hi, hz⟩ := hsl.is
      have hc := World.ownsRow.cells hn (g := g) (by rw [h1]; rfl) i _ hu
      rw [add0] at hc
      rw [Nat.zero_add]
      exact ⟨A', c', hc, hi, hz⟩
  have h2 : ∃ A c, vT = .slice A T.length c ∧ UsAt w w.heap.size T A c := by
    rcases hrt.2 with ⟨h1, h2⟩ | ⟨g, cap, cur, h1, h2, h3, h4, h5, h6, h7⟩
    · have hn : T = [] := List.eq_nil_of_length_eq_zero h2
      subst hn
      exact ⟨none, 0, by rw [h1]; rfl, Nat.le_refl _, by unfold maxLen; omega, fun _ => rfl, ht, fun hn => absurd rfl hn⟩
    · refine ⟨_, cap, h1, h4, h5, fun e => (by cases e), ht, fun _ => ⟨g, 0, rfl, (Array.getElem?_eq_some_iff.1 h3).1, fun i x hx => ?_⟩⟩
      have hc := World.ownsRow.cells hrt (g := g) (by rw [h1]; rfl) i (.int .u64 (x : Int)) (by simp [u64C, hx])
      rw [add0] at hc
      rw [Nat.zero_add]
      exact hc
  obtain ⟨A, c, e1, r1⟩ := h1
  obtain ⟨A2, c2, e2, r2⟩ := h2
  exact ⟨A, c, A2, c2, by rw [e1, e2], r1, r2⟩

def okIx (n : Nat) (x : Int) : Bool := decide (0 ≤ x) && decide (x < (n : Int))
def rowOk (n : Nat) (r : List Int) : Bool := decide (r.length = 37) && r.all (okIx n)
def rightT (R : List (List Int)) (T : List Nat) : Bool := decide (1 ≤ R.length) && decide (R.length ≤ 1000) && decide (T.length = R.length) && R.all (rowOk R.length)
set_option maxHeartbeats 4000000 in
set_option maxRecDepth 100000 in
theorem has_any (A A2 : Option Addr) (n c n2 c2 : Nat) (x : Int) (_hx : i64 x) (_hn : n ≤ 9223372036854775807) (w : World) :
    Calls Tryd.prog 56 #[.agg #[.slice A n c, .slice A2 n2 c2], .int .i64 x] w fun r w' => r = .returned (.bool (okIx n x)) ∧ Below w.heap.size w w' := by
  have bb := Lib.hid (below_new w (.cells #[.slice A n c, .slice A2 n2 c2] 54))
  by_cases h0 : 0 ≤ x
  · have d0 : decide (0 ≤ x) = true := by simpa using h0
    obtain ⟨R, hR⟩ : ∃ R, okIx n x = R := ⟨_, rfl⟩
    have HR := Lib.hid (show decide (x < (n : Int)) = R by rw [← hR]; unfold okIx; rw [d0]; simp)
    rw [hR]
    clear hR
    go_enter Tryd.func56, Tryd.ntmps56
    go_wp2_with fail
    go_ret
    exact ⟨ret_bool HR.out, bb.out⟩
  · have d0 : decide (0 ≤ x) = false := by simpa using h0
    have hR : okIx n x = false := by unfold okIx; rw [d0]; simp
    rw [hR]
    clear hR
    go_enter Tryd.func56, Tryd.ntmps56
    go_wp2_with fail
    go_ret
    exact ⟨rfl, bb.out⟩
set_option maxHeartbeats 4000000 in
set_option maxRecDepth 100000 in
theorem none_any (A A2 : Option Addr) (n c n2 c2 g : Nat) (x : Int) (hx : i64 x) (hn : n ≤ 9223372036854775807) (w : World) (hg : Cells w g 54 #[.slice A n c, .slice A2 n2 c2]) :
    Calls Tryd.prog 57 #[.int .i64 x, .pointer (some ⟨g, 0, none⟩)] w fun r w' => r = .returned (.bool (!okIx n x)) ∧ Below w.heap.size w w' := by
  have C := Lib.hid (has_any A A2 n c n2 c2 x hx hn w)
  have c0 := hg.cell 0
  have c1 := hg.cell 1
  simp at c0 c1
  clear hg hx hn
  generalize okIx n x = b at *
  go_enter Tryd.func57, Tryd.ntmps57
  go_wp2_with fail
  refine C.out.mono ?_
  rintro r w2 ⟨rfl, hb⟩
  have HB := Lib.hid hb
  clear hb
  go_wp2_with fail
  go_ret
  exact ⟨rfl, HB.out⟩
theorem any_take {xs : List Int} {k : Nat} {x : Int} (p : Int → Bool) (h : xs[k]? = some x) : (xs.take (k + 1)).any p = ((xs.take k).any p || p x) := by
  rw [List.take_add_one, h, Option.toList_some, List.any_append]
  simp
theorem any_hit {xs : List Int} {k : Nat} {x : Int} {p : Int → Bool} (h : xs[k]? = some x) (hp : p x = true) : xs.any p = true := List.any_eq_true.2 ⟨x, List.mem_of_getElem? h, hp⟩
def IdxOk (w : World) (b : Bool) (r : Ending) (w' : World) : Prop := ∃ i : Int, r = .returned (.int .i64 i) ∧ i64 i ∧ (decide (0 ≤ i) = b) ∧ Below w.heap.size w w'
set_option maxHeartbeats 4000000 in
set_option maxRecDepth 100000 in
theorem index_any (A A2 : Option Addr) (n c n2 c2 g : Nat) (hn : n ≤ 9223372036854775807) (xs : List Int) (A' : Option Addr) (c' : Nat) (w : World) (hg : Cells w g 54 #[.slice A n c, .slice A2 n2 c2]) (hx : IS w w.heap.size xs A' c') :
    Calls Tryd.prog 71 #[.slice A' xs.length c', .func (.func 57) #[] #[.pointer (some ⟨g, 0, none⟩)]] w (IdxOk w (xs.any fun x => !okIx n x)) := by
  have hln : xs.length ≤ 9223372036854775807 := by have := hx.l; have := hx.m; unfold maxLen at this; omega
  obtain ⟨N, hN⟩ : ∃ N, xs.length = N := ⟨_, rfl⟩
  obtain ⟨R, hR⟩ : ∃ R, (xs.any fun x => !okIx n x) = R := ⟨_, rfl⟩
  have H := Lib.hid (And.intro hN (And.intro hR (And.intro hg hx)))
  rw [hN] at hln ⊢
  rw [hR]
  clear hN hR hg hx
  go_enter Tryd.func71, Tryd.ntmps71
  go_wp2_with fail
  go_loopw [8] (fun i wr => ∃ k : Nat, i = .int .i64 (k : Int) ∧ k ≤ N ∧ ((xs.take k).any fun x => !okIx n x) = false ∧ Below w.heap.size w wr) (fun i _ => N - (RowKit.intOf i).toNat)
  case atStart => exact ⟨0, rfl, by omega, rfl, Below.refl _ _⟩
  case round =>
    obtain ⟨k, rfl, hk, hno, hb⟩ := hrel
    by_cases hlt : k < N
    · have i1 : (k : Int) < (N : Int) := by omega
      obtain ⟨x, hx⟩ : ∃ x, xs[k]? = some x := ⟨xs[k]'(by rw [H.out.1]; exact hlt), List.getElem?_eq_getElem _⟩
      obtain ⟨b, o, rfl, hbl, hc⟩ := H.out.2.2.2.r (by rintro rfl; simp at hx)
      have d0 := (hb.cell (p := ⟨b, o + k, none⟩) hbl).trans (hc k x hx)
      have C := none_any A A2 n c n2 c2 g x (H.out.2.2.2.i x (List.mem_of_getElem? hx)) hn wr ((hb.block _ H.out.2.2.1.lt).trans H.out.2.2.1)
      have ht := any_take (fun x => !okIx n x) hx
      have hh := fun hp => any_hit (p := fun x => !okIx n x) hx hp
      rw [hno] at ht
      generalize (!okIx n x) = p at *
      have HC := Lib.hid C
      have HK := Lib.hid (And.intro ht (And.intro hh hb))
      clear C ht hh hb hno hx hc
      cases p
      · go_wp2_with fail
        refine HC.out.mono ?_
        rintro r w2 ⟨rfl, hb2⟩
        have HB2 := Lib.hid (HK.out.2.2.trans (hb2.mono HK.out.2.2.size))
        clear hb2
        go_wp2_with fail
        go_roundw
        case rel => exact ⟨k + 1, by go_num, by omega, by rw [HK.out.1]; rfl, HB2.out⟩
        case measure => simp [RowKit.intOf]; omega
      · go_wp2_with fail
        refine HC.out.mono ?_
        rintro r w2 ⟨rfl, hb2⟩
        have HB2 := Lib.hid (HK.out.2.2.trans (hb2.mono HK.out.2.2.size))
        clear hb2
        go_wp2_with fail
        go_ret
        have hRt : R = true := by rw [← H.out.2.1]; exact HK.out.2.1 (by simp)
        exact ⟨_, rfl, nat64 (by omega), by rw [hRt]; simp, HB2.out⟩
    · obtain rfl : k = N := by omega
      have i1 : ¬ (k : Int) < (k : Int) := by omega
      have e1 : xs.take k = xs := by rw [← H.out.1, List.take_length]
      rw [e1] at hno
      have hRf : R = false := by rw [← H.out.2.1]; exact hno
      have HB := Lib.hid (And.intro hRf hb)
      clear e1 hno hRf hb
      go_wp2_with fail
      go_ret
      exact ⟨_, rfl, by unfold i64; omega, by rw [HB.out.1]; rfl, HB.out.2⟩
set_option maxHeartbeats 4000000 in
set_option maxRecDepth 100000 in
theorem contains_any (A A2 : Option Addr) (n c n2 c2 g : Nat) (hn : n ≤ 9223372036854775807) (xs : List Int) (A' : Option Addr) (c' : Nat) (w : World) (hg : Cells w g 54 #[.slice A n c, .slice A2 n2 c2]) (hx : IS w w.heap.size xs A' c') :
    Calls Tryd.prog 58 #[.slice A' xs.length c', .func (.func 57) #[] #[.pointer (some ⟨g, 0, none⟩)]] w fun r w' => r = .returned (.bool (xs.any fun x => !okIx n x)) ∧ Below w.heap.size w w' := by
  have C := Lib.hid (index_any A A2 n c n2 c2 g hn xs A' c' w hg hx)
  clear hg hx
  generalize (xs.any fun x => !okIx n x) = R at *
  obtain ⟨N, hN⟩ : ∃ N, xs.length = N := ⟨_, rfl⟩
  rw [hN] at C ⊢
  clear hN
  go_enter Tryd.func58, Tryd.ntmps58
  go_wp2_with fail
  refine C.out.mono ?_
  rintro r w2 ⟨i, rfl, hi, hd, hb⟩
  have H := Lib.hid (And.intro hd hb)
  unfold i64 at hi
  clear hd hb
  go_wp2_with fail
  go_ret
  exact ⟨ret_bool H.out.1, H.out.2⟩
end Go.Proofs.YteamonmneoakpaaDoor

