/-
  Contract: pack.Rows.
-/
import Derived.Test.YtadipgkgllcicaaRws
namespace Go.Proofs.Ytadipgkgllcicaa
open Go.RowKit Go.Shelf Go.Lib Go.Maps

def RowsOk (p : Pk) (w : World) (e : Ending) (w' : World) : Prop :=
  Below w.heap.size w w' ∧ ((okPk p = true ∧ ∃ A cap, e = .returned (.tuple #[.slice A (rowsR p).length cap, .bool true]) ∧ RsAt w' w'.heap.size (rowsR p) A cap) ∨ (okPk p = false ∧ e = .returned (.tuple #[.slice none 0 0, .bool false])))
theorem arr_is {w : World} {h n : Nat} {xs : List Int} (hc : Cells w h 3 (arr n fun c => .int .i64 (xs.getD c 0))) (hl : xs.length = n) (hn : n ≤ 1000) (hi : ∀ x ∈ xs, i64 x) : IS w w.heap.size xs (some ⟨h, 0, none⟩) n :=
  ⟨by omega, by unfold maxLen; omega, hi, fun _ => ⟨h, 0, rfl, hc.lt, fun i x hx => by
    have hlt : i < n := by have := (List.getElem?_eq_some_iff.1 hx).1; omega
    rw [Nat.zero_add, hc.cell i, arr_get _ hlt]
    simp [List.getD_eq_getElem?_getD, hx]⟩⟩
theorem ro_rows {w wr : World} {p : Pk} {bx : Array Value} {B g0 n W : Nat} {fo : Nat → Value} (h : Ro w wr p bx B g0 n W n fo) (ok : OkP p) (hn : p.us.length = n) (hW : p.w = (W : Int)) : RsAt wr wr.heap.size (rowsR p) (some ⟨g0, 0, none⟩) n := by
  have hl : (rowsR p).length = n := by simp [rowsR, hn]
  have h1 := ok.l
  have h2 := ok.w2
  refine ⟨by omega, by unfold maxLen; omega, fun e => (by cases e), fun _ => ⟨g0, 0, rfl, h.o.lt, fun i r hr => ?_⟩⟩
  have hi : i < n := by have := (List.getElem?_eq_some_iff.1 hr).1; omega
  obtain ⟨q, e1, e2, e3⟩ := h.r i hi
  unfold rowsR at hr
  rw [List.getElem?_map, List.getElem?_range (by omega)] at hr
  simp only [Option.map_some, Option.some.injEq] at hr
  have hrl : r.length = W := by rw [← hr]; simp; omega
  refine ⟨some ⟨q, 0, none⟩, W, ?_, ?_, fun e => (by cases e)⟩
  · rw [Nat.zero_add, h.o.cell i, arr_get _ hi, e1, hrl]
  · refine arr_is ?_ hrl (by omega) (fun x hx => ?_)
    · have e4 : (arr W (rowF p i)) = arr W fun c => .int .i64 (r.getD c 0) := arr_congr fun c hc => by
        unfold rowF
        have : r[c]? = some (getR p i c) := by rw [← hr, List.getElem?_map, List.getElem?_range (by omega)]; rfl
        simp [List.getD_eq_getElem?_getD, this]
      rw [← e4]; exact e3
    · rw [← hr] at hx
      obtain ⟨c, _, rfl⟩ := List.mem_map.1 hx
      have := getR_bd ok i c
      unfold i64; omega
/-- A row that is being filled. -/
structure Ri (w wr : World) (p : Pk) (bx : Array Value) (B g0 n W i j h : Nat) (fo : Nat → Value) : Prop where
  o : Ro w wr p bx B g0 n W i fo
  e : fo i = .slice (some ⟨h, 0, none⟩) W W
  g : g0 < h
  c : Cells wr h 3 (arr W (partF p i j))
  l : ∀ k, k < i → ∀ q, fo k = .slice (some ⟨q, 0, none⟩) W W → q < h
theorem Ri.on {w wr w' : World} {p : Pk} {bx : Array Value} {B g0 n W i j h : Nat} {fo : Nat → Value} (r : Ri w wr p bx B g0 n W i j h fo) (hb : Below wr.heap.size wr w') : Ri w w' p bx B g0 n W i j h fo :=
  ⟨r.o.on hb, r.e, r.g, r.c.on hb, r.l⟩
theorem Ro.start {w wo : World} {p : Pk} {bx : Array Value} {B g0 n W i : Nat} {fo : Nat → Value} (h : Ro w wo p bx B g0 n W i fo) (_hB : w.heap.size ≤ B) :
    Ri w ((wo.setCell ⟨g0, i, none⟩ (.slice (some ⟨wo.heap.size, 0, none⟩) W W)).alloc (.cells (arr W fun _ => .int .i64 0) 3)) p bx B g0 n W i 0 wo.heap.size (fun j => if j = i then .slice (some ⟨wo.heap.size, 0, none⟩) W W else fo j) := by
  have z := h.o.lt
  have zx := h.x.lt
  have zg := h.g
  obtain ⟨w2, hw2⟩ : ∃ w2, wo.setCell ⟨g0, i, none⟩ (.slice (some ⟨wo.heap.size, 0, none⟩) W W) = w2 := ⟨_, rfl⟩
  have s2 : w2.heap.size = wo.heap.size := by rw [← hw2]; simp
  have gr : wo.grownBy w2 (some g0) := by rw [← hw2]; exact grown_setc _ _ _ _
  have blk : ∀ k, k < wo.heap.size → k ≠ g0 → w2.heap[k]? = wo.heap[k]? := fun k hk hn => gr.block k hk (by simp; omega)
  rw [hw2]
  have ba := below_new w2 (.cells (arr W fun _ => .int .i64 0) 3)
  have bB : Below B w w2 := ⟨gr.os.trans h.b.os, gr.tape.trans h.b.tape, gr.output.trans h.b.output, Nat.le_trans h.b.size gr.size, fun k hk => (blk k (by omega) (by omega)).trans (h.b.block k hk)⟩
  refine ⟨⟨bB.alloc (by omega) _, ?_, h.g, ?_, fun k hk => ?_⟩, by simp, z, ?_, fun k hk q hq => ?_⟩
  · exact Cells.on (show Cells w2 B 27 bx from (blk B (by omega) (by omega)).trans h.x) ba
  · refine Cells.on (show Cells w2 g0 25 _ from ?_) ba
    rw [← arr_set, ← hw2]
    exact h.o.set i _
  · obtain ⟨q, e1, e2, e3⟩ := h.r k hk
    refine ⟨q, by rw [if_neg (by omega)]; exact e1, e2, Cells.on (show Cells w2 q 3 _ from (blk q e3.lt (by omega)).trans e3) ba⟩
  · have := cells_new w2 (arr W fun _ => .int .i64 0) 3
    rw [s2] at this
    have e : (arr W (partF p i 0)) = arr W fun _ => .int .i64 0 := arr_congr fun c _ => by unfold partF; simp
    rw [e]; exact this
  · rw [if_neg (by omega)] at hq
    obtain ⟨q', e1, e2, e3⟩ := h.r k hk
    rw [e1] at hq
    injection hq with hq
    injection hq with hq
    injection hq with hq
    have := e3.lt
    omega
theorem Ri.put {w wr : World} {p : Pk} {bx : Array Value} {B g0 n W i j h : Nat} {fo : Nat → Value} (r : Ri w wr p bx B g0 n W i j h fo) (_hB : w.heap.size ≤ B) :
    Ri w (wr.setCell ⟨h, j, none⟩ (.int .i64 (getR p i j))) p bx B g0 n W i (j + 1) h fo := by
  have gr := grown_setc wr h j (.int .i64 (getR p i j))
  have blk : ∀ k, k < wr.heap.size → k ≠ h → (wr.setCell ⟨h, j, none⟩ (.int .i64 (getR p i j))).heap[k]? = wr.heap[k]? := fun k hk hn => gr.block k hk (by simp; omega)
  have z := r.o.o.lt
  have zx := r.o.x.lt
  have zg := r.o.g
  have zh := r.g
  refine ⟨⟨⟨gr.os.trans r.o.b.os, gr.tape.trans r.o.b.tape, gr.output.trans r.o.b.output, Nat.le_trans r.o.b.size gr.size, fun k hk => (blk k (by omega) (by omega)).trans (r.o.b.block k hk)⟩, (blk B zx (by omega)).trans r.o.x, zg, (blk g0 z (by omega)).trans r.o.o, fun k hk => ?_⟩, r.e, zh, ?_, r.l⟩
  · obtain ⟨q, e1, e2, e3⟩ := r.o.r k hk
    have := r.l k hk q e1
    exact ⟨q, e1, e2, (blk q e3.lt (by omega)).trans e3⟩
  · have := r.c.set j (.int .i64 (getR p i j))
    rw [arr_set] at this
    have e : arr W (partF p i (j + 1)) = arr W (fun c => if c = j then .int .i64 (getR p i j) else partF p i j c) := arr_congr fun c _ => by
      unfold partF
      by_cases e1 : c = j
      · subst e1; simp
      · rw [if_neg e1]
        by_cases e2 : c < j
        · rw [if_pos e2, if_pos (by omega)]
        · rw [if_neg e2, if_neg (by omega)]
    rw [e]; exact this
theorem Ri.done {w wr : World} {p : Pk} {bx : Array Value} {B g0 n W i h : Nat} {fo : Nat → Value} (r : Ri w wr p bx B g0 n W i W h fo) : Ro w wr p bx B g0 n W (i + 1) fo :=
  ⟨r.o.b, r.o.x, r.o.g, r.o.o, fun k hk => by
    by_cases e : k = i
    · subst e
      have : (arr W (rowF p k)) = arr W (partF p k W) := arr_congr fun c hc => by unfold rowF partF; rw [if_pos hc]
      exact ⟨h, r.e, r.g, by rw [this]; exact r.c⟩
    · exact r.o.r k (by omega)⟩
set_option maxHeartbeats 4000000 in
set_option maxRecDepth 100000 in
theorem rows_any {p : Pk} {v : Value} {w : World} (h : PkV w p v) : Calls Try.prog 15 #[v] w (RowsOk p w) := by
  have HV := Lib.hid h
  obtain ⟨hp, A1, c1, A2, c2, A3, c3, A4, c4, rfl, i1, i2, i3, i4⟩ := h
  obtain ⟨bx, hbx⟩ : ∃ bx, #[Value.int .i64 p.w, .slice A1 p.us.length c1, .slice A2 p.bs.length c2, .slice A3 p.cs.length c3, .slice A4 p.ns.length c4] = bx := ⟨_, rfl⟩
  have b0 : Below w.heap.size w (w.alloc (.cells bx 27)) := below_new w _
  have x0 : Cells (w.alloc (.cells bx 27)) w.heap.size 27 bx := cells_new _ _ _
  have CR := right_any (HV.out.on b0)
  obtain ⟨ok, hok⟩ : ∃ b, okPk p = b := ⟨_, rfl⟩
  rw [hok] at CR
  have CG : ok = true → ∀ (a b : Nat), a < p.us.length → b < 64 → ∀ w', Below w.heap.size w w' → _ := fun e a b h1 h2 w' hb => get28_any (HV.out.on hb) (okPk_iff.1 (hok.trans e)) a b h1 h2
  have hOk : ok = true → OkP p := fun e => okPk_iff.1 (hok.trans e)
  obtain ⟨n1, hn1⟩ : ∃ n, p.us.length = n := ⟨_, rfl⟩
  obtain ⟨n2, hn2⟩ : ∃ n, p.bs.length = n := ⟨_, rfl⟩
  obtain ⟨n3, hn3⟩ : ∃ n, p.cs.length = n := ⟨_, rfl⟩
  obtain ⟨n4, hn4⟩ : ∃ n, p.ns.length = n := ⟨_, rfl⟩
  obtain ⟨px, hpx⟩ : ∃ x, p.w = x := ⟨_, rfl⟩
  rw [hpx, hn1, hn2, hn3, hn4] at hbx CR CG
  rw [hpx] at hp
  rw [hpx, hn1, hn2, hn3, hn4]
  have H := Lib.hid (And.intro b0 (And.intro x0 (And.intro hOk (And.intro hn1 (And.intro hpx (And.intro hok hbx))))))
  have HR := Lib.hid CR
  have HG := Lib.hid CG
  clear b0 x0 CR CG hOk hn1 hn2 hn3 hn4 hpx HV i1 i2 i3 i4 hok
  unfold i64 at hp
  subst hbx
  go_enter Try.func15, Try.ntmps15
  go_wp2_with fail
  refine HR.out.mono ?_
  rintro e w1 ⟨rfl, hb1⟩
  have HB1 := Lib.hid hb1
  clear hb1
  cases ok
  case false =>
    go_wp2_with fail
    go_ret2
    exact ⟨H.out.1.trans (HB1.out.mono H.out.1.size), .inr ⟨H.out.2.2.2.2.2.1, rfl⟩⟩
  have hok := H.out.2.2.1 rfl
  have k1 := hok.w1
  have k2 := hok.w2
  have k3 := hok.l
  rw [H.out.2.2.2.2.1] at k1 k2
  rw [H.out.2.2.2.1] at k3
  obtain ⟨W, rfl⟩ := Int.eq_ofNat_of_zero_le (show 0 ≤ px by omega)
  have hW : W ≤ 64 := by omega
  have x1 := H.out.2.1.on HB1.out
  have y0 := x1.cell 0
  have y1 := x1.cell 1
  simp at y0 y1
  have mk1 := make_rows n1 (by omega)
  have mk2 := make_ints W (by omega)
  obtain ⟨w2, hw2⟩ : ∃ w2, w1.alloc (.cells (arr n1 fun _ => .slice none 0 0) 25) = w2 := ⟨_, rfl⟩
  have z1 : w.heap.size < w1.heap.size := by have := HB1.out.size; simp at this; omega
  have R0 : Ro w w2 p _ w.heap.size w1.heap.size n1 W 0 (fun _ => .slice none 0 0) :=
    ⟨by rw [← hw2]; exact (H.out.1.trans (HB1.out.mono H.out.1.size)).alloc (by omega) _, by rw [← hw2]; exact x1.on (below_new _ _), z1, by rw [← hw2]; exact cells_new _ _ _, fun i hi => by omega⟩
  have H2 := Lib.hid (And.intro hok R0)
  have HW := Lib.hid hw2
  clear hok R0 hw2 x1 k1 k2
  go_wp2_with fail
  rw [HW.out]
  go_loopw [16] (fun i wr => ∃ k : Nat, i = .int .i64 (k : Int) ∧ k ≤ n1 ∧ ∃ fo, Ro w wr p _ w.heap.size w1.heap.size n1 W k fo) (fun i _ => n1 - (RowKit.intOf i).toNat)
  case atStart => exact ⟨0, rfl, by omega, _, H2.out.2⟩
  case round =>
    obtain ⟨wo, rfl⟩ : ∃ wo : World, wo = wr := ⟨_, rfl⟩
    obtain ⟨i, rfl, hi, fo, hRo⟩ := hrel
    by_cases hlt : i < n1
    · have j1 : (i : Int) < (n1 : Int) := by omega
      have o1 := hRo.o.cell i
      have f1 := hRo.o.froz i
      have o0 := hRo.x.cell 0
      rw [arr_get _ hlt] at o1
      simp at o0
      have zl := hRo.x.lt
      have zg := hRo.o.lt
      go_wp2_with fail
      have RI := Lib.hid (hRo.start (Nat.le_refl _))
      clear hRo o1 f1 o0 zl zg
      go_loopw [30] (fun t wi => ∃ j : Nat, t = .int .i64 (j : Int) ∧ j ≤ W ∧ Ri w wi p _ w.heap.size w1.heap.size n1 W i j wo.heap.size _) (fun t _ => W - (RowKit.intOf t).toNat)
      case atStart => exact ⟨0, rfl, by omega, RI.out⟩
      case round =>
        obtain ⟨j, rfl, hj, hRi⟩ := hrel
        by_cases hlt2 : j < W
        · have j2 : (j : Int) < (W : Int) := by omega
          have o1 := hRi.o.o.cell i
          rw [arr_get _ hlt] at o1
          simp only [if_true] at o1
          have f1 := hRi.c.froz j
          have g1 := hRi.c.cell j
          rw [arr_get _ hlt2] at g1
          have l0 := hRi.o.x.cell 0
          have l1 := hRi.o.x.cell 1
          have l2 := hRi.o.x.cell 2
          have l3 := hRi.o.x.cell 3
          have l4 := hRi.o.x.cell 4
          simp at l0 l1 l2 l3 l4
          have hRd := Lib.hid hRi
          have CG := fun w' (hb : Below wr.heap.size wr w') => HG.out trivial i j hlt (by omega) w' (hRd.out.o.b.trans (hb.mono (by have := hRd.out.o.x.lt; omega)))
          have HCG := Lib.hid CG
          clear CG hRi
          go_wp2_with fail
          go_region_with (go_at_call 28
                          refine (HCG.out _ (by exact (Below.refl _ _).drew)).mono ?_
                          rintro r w3 ⟨rfl, hb3⟩
                          have r3 := hRd.out.on ((Below.refl _ _).drew.trans hb3)
                          have o3 := r3.o.o.cell i
                          rw [arr_get _ hlt] at o3
                          simp only [if_true] at o3
                          have f3 := r3.c.froz j
                          have g3 := r3.c.cell j
                          rw [arr_get _ hlt2] at g3
                          have z3 := r3.o.o.lt
                          have z4 := r3.c.lt
                          have HR3 := Lib.hid r3
                          clear hb3 r3)
          all_goals
            go_wp2_with fail
            go_roundw
            case rel => exact ⟨j + 1, by go_num, by omega, HR3.out.put (Nat.le_refl _)⟩
            case measure => simp [RowKit.intOf]; omega
        · obtain rfl : j = W := by omega
          have j2 : ¬ (j : Int) < (j : Int) := by omega
          have HD := Lib.hid hRi.done
          clear hRi
          go_wp2_with fail
          go_roundw
          case rel => exact ⟨i + 1, by go_num, by omega, _, HD.out⟩
          case measure => simp [RowKit.intOf]; omega
    · obtain rfl : i = n1 := by omega
      have j1 : ¬ (i : Int) < (i : Int) := by omega
      have hend : RowsOk p w (.returned (.tuple #[.slice (some ⟨w1.heap.size, 0, none⟩) i i, .bool true])) wo :=
        ⟨hRo.b, .inl ⟨H.out.2.2.2.2.2.1, some ⟨w1.heap.size, 0, none⟩, i, by rw [show (rowsR p).length = i by simp [rowsR, H.out.2.2.2.1]], ro_rows hRo H2.out.1 H.out.2.2.2.1 H.out.2.2.2.2.1⟩⟩
      have HE := Lib.hid hend
      clear hRo hend
      go_wp2_with fail
      go_ret2
      exact HE.out
end Go.Proofs.Ytadipgkgllcicaa
