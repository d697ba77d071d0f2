/-
  Contract: the reference's Hidden.
-/
import Derived.BigQuiet
import Derived.Test.YtegkogadceodlaaRdd
import Derived.Test.YtegkogadceodlaaBis
namespace Go.Proofs.Ytegkogadceodlaa
open Go.RowKit Go.Shelf Go.Lib Go.Sort

/-- The program's list of what is hidden is the document's, place by place. -/
theorem rdF_one (ig kp : List Int) (id : Int) : (rdF ig kp [id]).1 = [false] := by
  simp [rdF, rdS]
/-- What the next number does, by the one ahead of it alone. -/
theorem rdF_prev (ig kp xs : List Int) (x : Int) : ∃ h, (rdF ig kp (xs ++ [x])).1[xs.length]? = some h ∧ (!kp.contains ((rdF ig kp (xs ++ [x])).2.1.getLast?.getD 0)) = (h || !kp.contains (clsI x)) := by
  have e : rdF ig kp (xs ++ [x]) = rdS ig kp (rdF ig kp xs) x := by unfold rdF; rw [List.foldl_append]; rfl
  have hl := (rdF_len ig kp xs).1
  rw [e]
  generalize rdF ig kp xs = S at *
  obtain ⟨hs, ms, ps⟩ := S
  dsimp only at hl
  unfold rdS
  dsimp only
  obtain ⟨H, hH⟩ : ∃ H, (ig.contains (clsI x) && (decide (0 < hs.length) && !kp.contains (ms.getLast?.getD 0))) = H := ⟨_, rfl⟩
  rw [hH]
  refine ⟨H, by rw [← hl]; simp, ?_⟩
  cases H with
  | false => simp
  | true =>
    simp only [Bool.and_eq_true] at hH
    simp only [if_true, Bool.true_or]
    exact hH.2.2
theorem rdF_next (ig kp xs : List Int) (x y : Int) : ∃ h, (rdF ig kp (xs ++ [x])).1[xs.length]? = some h ∧ (rdF ig kp (xs ++ [x] ++ [y])).1 = (rdF ig kp (xs ++ [x])).1 ++ [ig.contains (clsI y) && (h || !kp.contains (clsI x))] := by
  obtain ⟨h, h1, h2⟩ := rdF_prev ig kp xs x
  have e : rdF ig kp (xs ++ [x] ++ [y]) = rdS ig kp (rdF ig kp (xs ++ [x])) y := by unfold rdF; rw [List.foldl_append]; rfl
  have hl := (rdF_len ig kp (xs ++ [x])).1
  refine ⟨h, h1, ?_⟩
  rw [e]
  unfold rdS
  dsimp only
  rw [h2, hl]
  simp
/-- A row of bools of which the first are set. -/
def bc (L : List Bool) (n : Nat) : Array Value := (bL L ++ List.replicate (n - L.length) (Value.bool false)).toArray
theorem bc_get (L : List Bool) (n i : Nat) : (bc L n)[i]? = if i < L.length then (L[i]?).map Value.bool else if i < L.length + (n - L.length) then some (Value.bool false) else none := by
  unfold bc bL
  rw [List.getElem?_toArray]
  split
  · rw [List.getElem?_append_left (by simpa using ‹_›), List.getElem?_map]
  · rw [List.getElem?_append_right (by simp; omega)]
    split
    · rw [List.getElem?_replicate_of_lt (by simp; omega)]
    · rw [List.getElem?_eq_none_iff]; simp; omega
theorem bc_set (L : List Bool) (n : Nat) (b : Bool) (h : L.length < n) : (bc L n).setIfInBounds L.length (Value.bool b) = bc (L ++ [b]) n := by
  apply Array.ext_getElem?
  intro i
  rw [Array.getElem?_setIfInBounds, bc_get, bc_get]
  have hsz : (bc L n).size = n := by unfold bc bL; simp; omega
  rw [hsz]
  simp only [List.length_append, List.length_singleton]
  by_cases e : L.length = i
  · subst e
    rw [if_pos rfl, if_pos h, if_pos (by omega)]
    simp
  · rw [if_neg e]
    by_cases h1 : i < L.length
    · rw [if_pos h1, if_pos (by omega), List.getElem?_append_left h1]
    · rw [if_neg h1, if_neg (show ¬ i < L.length + 1 by omega)]
      by_cases h2 : i < n
      · rw [if_pos (show i < L.length + (n - L.length) by omega), if_pos (show i < L.length + 1 + (n - (L.length + 1)) by omega)]
      · rw [if_neg (show ¬ i < L.length + (n - L.length) by omega), if_neg (show ¬ i < L.length + 1 + (n - (L.length + 1)) by omega)]
theorem bc_one (n : Nat) (h : 0 < n) : bc [] n = bc [false] n := by
  apply Array.ext_getElem?
  intro i
  rw [bc_get, bc_get]
  by_cases h1 : i < 1
  · have : i = 0 := by omega
    subst this
    simp [h]
  · simp only [List.length_nil, List.length_singleton, if_neg h1, if_neg (Nat.not_lt_zero i)]
    by_cases h2 : i < n
    · rw [if_pos (by omega), if_pos (by omega)]
    · rw [if_neg (by omega), if_neg (by omega)]
set_option maxRecDepth 100000 in
theorem make_bools (n : Nat) (hn : n ≤ 1000) (w : World) : (Instr.makeSlice 52 (.int .i64 (n : Int)) (.int .i64 (n : Int))).run Try.prog w = .ok (.slice (some ⟨w.heap.size, 0, none⟩) n n) (w.alloc (.cells (bc [] n) 4)) := by
  obtain ⟨i, hi, hz, hsize, hby⟩ : ∃ i, Try.prog.info? 4 = some i ∧ i.zero = some (.bool false) ∧ i.size = 1 ∧ i.bytes = 1 := ⟨_, rfl, rfl, rfl, rfl⟩
  have := run_make (P := Try.prog) w 52 4 i _ Try.underlying52 hi hz .i64 .i64 (n : Int) (n : Int) (by omega) (by omega) (by rw [hby]; omega) (by omega)
  rw [hsize] at this
  have e : madeCells (Value.bool false).cells ((n : Int).toNat * 1) = bc [] n := by
    apply Array.ext_getElem?
    intro j
    unfold madeCells
    rw [Array.getElem?_map, Array.getElem?_range, bc_get]
    by_cases hj : j < n
    · rw [if_pos (by simp; omega)]
      simp [Value.cells, Nat.mod_one, hj]
    · rw [if_neg (by simp; omega)]
      simp [hj]
  rw [e] at this
  simpa using this
set_option maxRecDepth 100000 in
set_option maxHeartbeats 8000000 in
theorem refHidden_any (t : Tx) (v : Value) (ids : List Int) (A : Option Addr) (cap : Nat) (w : World) (h : TxV w w.heap.size t v) (hi : IS w w.heap.size ids A cap) (hn : ids.length ≤ 900) :
    Calls Try.prog 34 #[v, .slice A ids.length cap] w fun e w' => ∃ A' c', e = .returned (.slice A' ids.length c') ∧ BS w' w'.heap.size (rdF t.ig t.kp ids).1 A' c' ∧ Below w.heap.size w w' := by
  obtain ⟨A1, c1, A2, c2, A3, c3, rfl, h1, h2, _⟩ := h
  obtain ⟨n, hN⟩ : ∃ n, ids.length = n := ⟨_, rfl⟩
  rw [hN] at hn ⊢
  obtain ⟨W0, hW0⟩ : ∃ W0, w.alloc (.cells #[.slice A1 t.ig.length c1, .slice A2 t.kp.length c2, .slice A3 t.rs.length c3] 50) = W0 := ⟨_, rfl⟩
  have hb0 : Below w.heap.size w W0 := by rw [← hW0]; exact below_new _ _
  have hs0 : W0.heap.size = w.heap.size + 1 := by rw [← hW0]; simp
  have x0 : Cells W0 w.heap.size 50 #[.slice A1 t.ig.length c1, .slice A2 t.kp.length c2, .slice A3 t.rs.length c3] := by rw [← hW0]; exact cells_new _ _ _
  obtain ⟨W1, hW1⟩ : ∃ W1, W0.alloc (.cells (bc [] n) 4) = W1 := ⟨_, rfl⟩
  have hb1 : Below W0.heap.size W0 W1 := by rw [← hW1]; exact below_new _ _
  have x1 : Cells W1 (w.heap.size + 1) 4 (bc [] n) := by rw [← hs0, ← hW1]; exact cells_new _ _ _
  have hmk := make_bools n (by omega) W0
  rw [hs0, hW1] at hmk
  rw [← hW0] at hmk
  have HW := Lib.hid hW0
  have HH := Lib.hid (And.intro (And.intro h1 h2) (And.intro hi (And.intro hN (And.intro (x0.on hb1) (And.intro x1 (hb0.trans (hb1.mono hb0.size)))))))
  clear h1 h2 hi hN x0 x1 hb0 hb1 hW0 hW1 hs0
  go_enter Try.func34, Try.ntmps34
  go_wp2_with fail
  go_loopw [6] (fun i wr => ∃ j : Nat, i = .int .i64 ((j + 1 : Nat) : Int) ∧ (j + 1 ≤ n ∨ j = 0) ∧ Cells wr w.heap.size 50 #[.slice A1 t.ig.length c1, .slice A2 t.kp.length c2, .slice A3 t.rs.length c3] ∧ Cells wr (w.heap.size + 1) 4 (bc (rdF t.ig t.kp (ids.take (j + 1))).1 n) ∧ Below w.heap.size w wr) (fun i _ => n - (RowKit.intOf i).toNat)
  case atStart =>
    refine ⟨0, rfl, .inr rfl, HH.out.2.2.2.1, ?_, HH.out.2.2.2.2.2⟩
    have hx := HH.out.2.2.2.2.1
    cases e : ids with
    | nil => simpa [rdF] using hx
    | cons y ys =>
      rw [show (y :: ys).take (0 + 1) = [y] from rfl, rdF_one, ← bc_one n (by rw [← HH.out.2.2.1, e]; simp)]
      exact hx
  case round =>
    obtain ⟨j, rfl, hj, x0, x1, hb⟩ := hrel
    by_cases hlt : j + 1 < n
    · obtain ⟨x, hx⟩ : ∃ x, ids[j]? = some x := ⟨ids[j]'(by rw [HH.out.2.2.1]; omega), List.getElem?_eq_getElem _⟩
      obtain ⟨y, hy⟩ : ∃ y, ids[j + 1]? = some y := ⟨ids[j + 1]'(by rw [HH.out.2.2.1]; exact hlt), List.getElem?_eq_getElem _⟩
      obtain ⟨bq, oq, rfl, hbq, hr⟩ := (HH.out.2.1.below hb).r (by rintro e; rw [e] at hx; simp at hx)
      have cx := hr j x hx
      have cy := hr (j + 1) y hy
      have e1 : ids.take (j + 1) = ids.take j ++ [x] := by rw [List.take_add_one, hx]; rfl
      have e2 : ids.take (j + 1 + 1) = ids.take j ++ [x] ++ [y] := by rw [List.take_add_one, hy, e1]; rfl
      obtain ⟨hv, g1, g2⟩ := rdF_next t.ig t.kp (ids.take j) x y
      rw [← e2, ← e1] at g2
      rw [← e1] at g1
      have hlj : (ids.take j).length = j := by rw [List.length_take, HH.out.2.2.1]; omega
      rw [hlj] at g1
      have hL := (rdF_len t.ig t.kp (ids.take (j + 1))).1
      rw [show (ids.take (j + 1)).length = j + 1 by rw [List.length_take, HH.out.2.2.1]; omega] at hL
      obtain ⟨K, hK⟩ : ∃ K, j + 1 = K := ⟨_, rfl⟩
      rw [hK] at x1 cy g2 g1 hL hlt ⊢
      have hK1 : (K : Int) - 1 = (j : Int) := by omega
      have iK : (K : Int) < (n : Int) := by omega
      have ij : (j : Int) < (n : Int) := by omega
      obtain ⟨a, ha⟩ : ∃ a, t.ig.contains (clsI y) = a := ⟨_, rfl⟩
      obtain ⟨d, hd⟩ : ∃ a, t.kp.contains (clsI x) = a := ⟨_, rfl⟩
      obtain ⟨yc, hyc⟩ : ∃ a, clsI y = a := ⟨_, rfl⟩
      obtain ⟨xc, hxc⟩ : ∃ a, clsI x = a := ⟨_, rfl⟩
      have hs := hb.size
      have CA : ∀ p : Later (fun _ => False) wr, Calls Try.prog 52 #[.int .i64 y] p.W fun r w' => r = .returned (.int .i64 yc) ∧ ∃ q : Later (fun _ => False) wr, w' = q.W := fun p => (refClass_any y p.W).mono (by rintro r w' ⟨rfl, rfl⟩; exact ⟨by rw [hyc], p, rfl⟩)
      have CD : ∀ p : Later (fun _ => False) wr, Calls Try.prog 52 #[.int .i64 x] p.W fun r w' => r = .returned (.int .i64 xc) ∧ ∃ q : Later (fun _ => False) wr, w' = q.W := fun p => (refClass_any x p.W).mono (by rintro r w' ⟨rfl, rfl⟩; exact ⟨by rw [hxc], p, rfl⟩)
      have bp : ∀ p : Later (fun _ => False) wr, Below w.heap.size w p.W := fun p => hb.trans ((p.h.below (Nat.le_refl _) (fun _ _ hf => hf)).mono hs)
      have CB : ∀ p : Later (fun _ => False) wr, Calls Try.prog 53 #[.slice A1 t.ig.length c1, .int .i64 yc] p.W fun r w' => r = .returned (.bool a) ∧ ∃ q : Later (fun _ => False) wr, w' = q.W := fun p => (in_any t.ig yc A1 c1 p.W ((HH.out.1.1.below (bp p)).mono (bp p).size)).mono (by rintro r w' ⟨rfl, rfl⟩; exact ⟨by rw [← hyc, ha], p, rfl⟩)
      have CE : ∀ p : Later (fun _ => False) wr, Calls Try.prog 53 #[.slice A2 t.kp.length c2, .int .i64 xc] p.W fun r w' => r = .returned (.bool d) ∧ ∃ q : Later (fun _ => False) wr, w' = q.W := fun p => (in_any t.kp xc A2 c2 p.W ((HH.out.1.2.below (bp p)).mono (bp p).size)).mono (by rintro r w' ⟨rfl, rfl⟩; exact ⟨by rw [← hxc, hd], p, rfl⟩)
      rw [ha, hd] at g2
      have q0 : ∀ p : Later (fun _ => False) wr, p.W.cell? ⟨w.heap.size, 0, none⟩ = some (.slice A1 t.ig.length c1) := fun p => cell_later (x0.cell 0) (fun hf => hf) p
      have q1 : ∀ p : Later (fun _ => False) wr, p.W.cell? ⟨w.heap.size, 1, none⟩ = some (.slice A2 t.kp.length c2) := fun p => cell_later (x0.cell 1) (fun hf => hf) p
      have q2 : ∀ p : Later (fun _ => False) wr, p.W.cell? ⟨w.heap.size + 1, j, none⟩ = some (.bool hv) := fun p => cell_later ((x1.cell j).trans (by rw [bc_get, hL, if_pos (by omega), g1]; rfl)) (fun hf => hf) p
      have qx : ∀ p : Later (fun _ => False) wr, p.W.cell? ⟨bq, oq + j, none⟩ = some (.int .i64 x) := fun p => cell_later cx (fun hf => hf) p
      have qy : ∀ p : Later (fun _ => False) wr, p.W.cell? ⟨bq, oq + K, none⟩ = some (.int .i64 y) := fun p => cell_later cy (fun hf => hf) p
      have hbK : (bc (rdF t.ig t.kp (ids.take K)).1 n)[K]? = some (.bool false) := by rw [bc_get, hL, if_neg (by omega), if_pos (by omega)]
      have HZ := Lib.hid (And.intro x0 (And.intro x1 (And.intro hb (And.intro hL (And.intro (rfl : K = K) hbK)))))
      have HG := Lib.hid g2
      clear hx hy hr cx cy e1 e2 g1 g2 hlj hL x0 x1 hb bp ha hd hyc hxc hbK
      cases a with
      | false =>
          go_wp2_with fail
          refine wp_region_mix (fun i => if i = 8 then 1 else if i = 9 then 1 else if i = 24 then 1 else if i = 25 then 1 else if 29 ≤ i then 3 else 0) [0, 1, 2, 3, 4, 5, 6, 7, 8, 9, 10, 11, 12, 13, 14, 15, 16, 17, 18, 19, 20, 21, 22, 23, 24, 25, 26, 27, 28] [29, 30] (fun w' => ∃ p : Later (fun _ => False) wr, w' = p.W) (by kernel_rfl) (by kernel_rfl) ⟨⟨_, Fz.drew wr⟩, rfl⟩ ?_
          simp only [opsAt, List.filterMap_cons, List.filterMap_nil, List.getElem?_toArray, List.getElem?_cons_zero, List.getElem?_cons_succ]
          change wpQuiet _ _ _ _ [_, _, _, _, _, _, _, _, _, _, _, _, _, _, _, _, _, _, _, _, _, _, _, _, _, _, _, _, _] _
          iterate 9 (go_big_quiet_step (exact CA _))
          clear CA
          go_big_quiet_step (exact CB _)
          clear CB
          iterate 14 (go_big_quiet_step (fail))
          go_big_quiet_step (exact CD _)
          clear CD
          go_big_quiet_step (exact CE _)
          clear CE
          repeat (go_big_quiet_step (fail))
          refine wpQuiet_nil ?_
          intro _ hw'
          obtain ⟨p, hw''⟩ := hw'
          subst hw''
          have hz5 := p.h
          clear q0 q1 q2 qx qy
          obtain ⟨W5, hW5⟩ : ∃ V, p.W = V := ⟨_, rfl⟩
          rw [hW5] at hz5 ⊢
          clear hW5
          clear p
          have bt := hz5.below (Nat.le_refl wr.heap.size) (fun _ _ hf => hf)
          have x0 := HZ.out.1.on bt
          have x1 := HZ.out.2.1.on bt
          have hb5 := HZ.out.2.2.1.trans (bt.mono HZ.out.2.2.1.size)
          have dK : W5.cell? ⟨w.heap.size + 1, K, none⟩ = some (.bool false) := (x1.cell K).trans HZ.out.2.2.2.2.2
          have fK := x1.froz K
          have hend : Cells (W5.setCell ⟨w.heap.size + 1, K, none⟩ (.bool false)) w.heap.size 50 #[.slice A1 t.ig.length c1, .slice A2 t.kp.length c2, .slice A3 t.rs.length c3] ∧ Cells (W5.setCell ⟨w.heap.size + 1, K, none⟩ (.bool false)) (w.heap.size + 1) 4 (bc (rdF t.ig t.kp (ids.take (K + 1))).1 n) ∧ Below w.heap.size w (W5.setCell ⟨w.heap.size + 1, K, none⟩ (.bool false)) := by
            refine ⟨(Fz.set (X := fun k => k = w.heap.size + 1) W5 (w.heap.size + 1) K (.bool false) rfl).cells (by omega) x0, ?_, hb5.setc (Nat.le_succ _) K (.bool false)⟩
            have := x1.set K (.bool false)
            rw [show (bc (rdF t.ig t.kp (ids.take K)).1 n).setIfInBounds K (.bool false) = bc ((rdF t.ig t.kp (ids.take K)).1 ++ [false]) n from by have := bc_set (rdF t.ig t.kp (ids.take K)).1 n false (by rw [HZ.out.2.2.2.1]; exact hlt); rw [HZ.out.2.2.2.1] at this; exact this] at this
            rw [HG.out]
            simpa using this
          have HEND := Lib.hid hend
          clear hend x0 x1 bt hb5 hz5
          refine wpSeqM_step rfl ?_
          go_wp2_with fail
          refine wpSeqM_step rfl ?_
          go_wp2_with fail
          unfold wpSeqM
          go_wp2_with fail
          go_roundw
          case rel => exact ⟨K, by go_num, .inl (by omega), HEND.out⟩
          case measure => simp [RowKit.intOf]; omega
      | true =>
        cases hv with
        | true =>
          go_wp2_with fail
          refine wp_region_mix (fun i => if i = 8 then 1 else if i = 9 then 1 else if i = 24 then 1 else if i = 25 then 1 else if 29 ≤ i then 3 else 0) [0, 1, 2, 3, 4, 5, 6, 7, 8, 9, 10, 11, 12, 13, 14, 15, 16, 17, 18, 19, 20, 21, 22, 23, 24, 25, 26, 27, 28] [29, 30] (fun w' => ∃ p : Later (fun _ => False) wr, w' = p.W) (by kernel_rfl) (by kernel_rfl) ⟨⟨_, Fz.drew wr⟩, rfl⟩ ?_
          simp only [opsAt, List.filterMap_cons, List.filterMap_nil, List.getElem?_toArray, List.getElem?_cons_zero, List.getElem?_cons_succ]
          change wpQuiet _ _ _ _ [_, _, _, _, _, _, _, _, _, _, _, _, _, _, _, _, _, _, _, _, _, _, _, _, _, _, _, _, _] _
          iterate 9 (go_big_quiet_step (exact CA _))
          clear CA
          go_big_quiet_step (exact CB _)
          clear CB
          iterate 14 (go_big_quiet_step (fail))
          go_big_quiet_step (exact CD _)
          clear CD
          go_big_quiet_step (exact CE _)
          clear CE
          repeat (go_big_quiet_step (fail))
          refine wpQuiet_nil ?_
          intro _ hw'
          obtain ⟨p, hw''⟩ := hw'
          subst hw''
          have hz5 := p.h
          clear q0 q1 q2 qx qy
          obtain ⟨W5, hW5⟩ : ∃ V, p.W = V := ⟨_, rfl⟩
          rw [hW5] at hz5 ⊢
          clear hW5
          clear p
          have bt := hz5.below (Nat.le_refl wr.heap.size) (fun _ _ hf => hf)
          have x0 := HZ.out.1.on bt
          have x1 := HZ.out.2.1.on bt
          have hb5 := HZ.out.2.2.1.trans (bt.mono HZ.out.2.2.1.size)
          have dK : W5.cell? ⟨w.heap.size + 1, K, none⟩ = some (.bool false) := (x1.cell K).trans HZ.out.2.2.2.2.2
          have fK := x1.froz K
          have hend : Cells (W5.setCell ⟨w.heap.size + 1, K, none⟩ (.bool true)) w.heap.size 50 #[.slice A1 t.ig.length c1, .slice A2 t.kp.length c2, .slice A3 t.rs.length c3] ∧ Cells (W5.setCell ⟨w.heap.size + 1, K, none⟩ (.bool true)) (w.heap.size + 1) 4 (bc (rdF t.ig t.kp (ids.take (K + 1))).1 n) ∧ Below w.heap.size w (W5.setCell ⟨w.heap.size + 1, K, none⟩ (.bool true)) := by
            refine ⟨(Fz.set (X := fun k => k = w.heap.size + 1) W5 (w.heap.size + 1) K (.bool true) rfl).cells (by omega) x0, ?_, hb5.setc (Nat.le_succ _) K (.bool true)⟩
            have := x1.set K (.bool true)
            rw [show (bc (rdF t.ig t.kp (ids.take K)).1 n).setIfInBounds K (.bool true) = bc ((rdF t.ig t.kp (ids.take K)).1 ++ [true]) n from by have := bc_set (rdF t.ig t.kp (ids.take K)).1 n true (by rw [HZ.out.2.2.2.1]; exact hlt); rw [HZ.out.2.2.2.1] at this; exact this] at this
            rw [HG.out]
            simpa using this
          have HEND := Lib.hid hend
          clear hend x0 x1 bt hb5 hz5
          refine wpSeqM_step rfl ?_
          go_wp2_with fail
          refine wpSeqM_step rfl ?_
          go_wp2_with fail
          unfold wpSeqM
          go_wp2_with fail
          go_roundw
          case rel => exact ⟨K, by go_num, .inl (by omega), HEND.out⟩
          case measure => simp [RowKit.intOf]; omega
        | false =>
          go_wp2_with fail
          refine wp_region_mix (fun i => if i = 8 then 1 else if i = 9 then 1 else if i = 24 then 1 else if i = 25 then 1 else if 29 ≤ i then 3 else 0) [0, 1, 2, 3, 4, 5, 6, 7, 8, 9, 10, 11, 12, 13, 14, 15, 16, 17, 18, 19, 20, 21, 22, 23, 24, 25, 26, 27, 28] [29, 30] (fun w' => ∃ p : Later (fun _ => False) wr, w' = p.W) (by kernel_rfl) (by kernel_rfl) ⟨⟨_, Fz.drew wr⟩, rfl⟩ ?_
          simp only [opsAt, List.filterMap_cons, List.filterMap_nil, List.getElem?_toArray, List.getElem?_cons_zero, List.getElem?_cons_succ]
          change wpQuiet _ _ _ _ [_, _, _, _, _, _, _, _, _, _, _, _, _, _, _, _, _, _, _, _, _, _, _, _, _, _, _, _, _] _
          iterate 9 (go_big_quiet_step (exact CA _))
          clear CA
          go_big_quiet_step (exact CB _)
          clear CB
          iterate 14 (go_big_quiet_step (fail))
          go_big_quiet_step (exact CD _)
          clear CD
          go_big_quiet_step (exact CE _)
          clear CE
          repeat (go_big_quiet_step (fail))
          refine wpQuiet_nil ?_
          intro _ hw'
          obtain ⟨p, hw''⟩ := hw'
          subst hw''
          have hz5 := p.h
          clear q0 q1 q2 qx qy
          obtain ⟨W5, hW5⟩ : ∃ V, p.W = V := ⟨_, rfl⟩
          rw [hW5] at hz5 ⊢
          clear hW5
          clear p
          have bt := hz5.below (Nat.le_refl wr.heap.size) (fun _ _ hf => hf)
          have x0 := HZ.out.1.on bt
          have x1 := HZ.out.2.1.on bt
          have hb5 := HZ.out.2.2.1.trans (bt.mono HZ.out.2.2.1.size)
          have dK : W5.cell? ⟨w.heap.size + 1, K, none⟩ = some (.bool false) := (x1.cell K).trans HZ.out.2.2.2.2.2
          have fK := x1.froz K
          have hend : Cells (W5.setCell ⟨w.heap.size + 1, K, none⟩ (.bool (!d))) w.heap.size 50 #[.slice A1 t.ig.length c1, .slice A2 t.kp.length c2, .slice A3 t.rs.length c3] ∧ Cells (W5.setCell ⟨w.heap.size + 1, K, none⟩ (.bool (!d))) (w.heap.size + 1) 4 (bc (rdF t.ig t.kp (ids.take (K + 1))).1 n) ∧ Below w.heap.size w (W5.setCell ⟨w.heap.size + 1, K, none⟩ (.bool (!d))) := by
            refine ⟨(Fz.set (X := fun k => k = w.heap.size + 1) W5 (w.heap.size + 1) K (.bool (!d)) rfl).cells (by omega) x0, ?_, hb5.setc (Nat.le_succ _) K (.bool (!d))⟩
            have := x1.set K (.bool (!d))
            rw [show (bc (rdF t.ig t.kp (ids.take K)).1 n).setIfInBounds K (.bool (!d)) = bc ((rdF t.ig t.kp (ids.take K)).1 ++ [(!d)]) n from by have := bc_set (rdF t.ig t.kp (ids.take K)).1 n (!d) (by rw [HZ.out.2.2.2.1]; exact hlt); rw [HZ.out.2.2.2.1] at this; exact this] at this
            rw [HG.out]
            simpa using this
          have HEND := Lib.hid hend
          clear hend x0 x1 bt hb5 hz5
          refine wpSeqM_step rfl ?_
          go_wp2_with fail
          refine wpSeqM_step rfl ?_
          go_wp2_with fail
          unfold wpSeqM
          go_wp2_with fail
          go_roundw
          case rel => exact ⟨K, by go_num, .inl (by omega), HEND.out⟩
          case measure => simp [RowKit.intOf]; omega
    · have i1 : ¬ ((j + 1 : Nat) : Int) < (n : Int) := by omega
      have ht : ids.take (j + 1) = ids := List.take_of_length_le (by rw [HH.out.2.2.1]; omega)
      rw [ht] at x1
      have hL := (rdF_len t.ig t.kp ids).1
      rw [HH.out.2.2.1] at hL
      have hbs : BS wr wr.heap.size (rdF t.ig t.kp ids).1 (some ⟨w.heap.size + 1, 0, none⟩) n := by
        refine ⟨by omega, by unfold maxLen; omega, fun _ => ⟨w.heap.size + 1, 0, rfl, x1.lt, fun i x hx => ?_⟩⟩
        have hil : i < n := by rw [← hL]; exact (List.getElem?_eq_some_iff.1 hx).1
        rw [Nat.zero_add]
        refine (x1.cell i).trans ?_
        rw [bc_get, hL, if_pos hil, hx]
        rfl
      have HB := Lib.hid (And.intro hbs hb)
      clear x0 x1 hb ht hL hbs hj
      obtain ⟨K, hK⟩ : ∃ K, j + 1 = K := ⟨_, rfl⟩
      rw [hK] at i1 ⊢
      clear hK
      go_wp2
      go_ret
      exact ⟨_, _, rfl, HB.out.1, HB.out.2⟩
end Go.Proofs.Ytegkogadceodlaa
