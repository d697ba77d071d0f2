/-
  Contract: decide.read.
  Contracts: a side that is one leaf: begins, closes and what they call.
  Contracts: which's function and slices.IndexFunc, where there is one pattern, of leaves.
  Contract: slices.IndexFunc, where there is one pattern, of leaves.
  Contract: reading.which, where there is one pattern, of leaves.
  Contract: reading.breaks, where there is one pattern, of leaves.
  Contract: decide.Breaks at awake's rule and list.
-/
import Derived.Lib.QuietBelow
import Derived.Test.YtegkogadceodlaaXsc
import Derived.Test.YtegkogadceodlaaXse
import Derived.Test.YtegkogadceodlaaXsb
import Derived.BigQuiet
namespace Go.Proofs.Ytegkogadceodlaa
open Go.RowKit Go.Shelf Go.Lib Go.Sort

theorem info_n {t b sz : Nat} (h : (Try.prog.info? t).map (fun i => (i.zero.map (fun z => z.cells.size), i.size, i.bytes)) = some (some sz, sz, b)) : ∃ i z, Try.prog.info? t = some i ∧ i.zero = some z ∧ i.size = sz ∧ i.bytes = b ∧ z.cells.size = sz := by
  cases e : Try.prog.info? t with
  | none => rw [e] at h; simp at h
  | some i =>
    rw [e] at h
    cases e2 : i.zero with
    | none => simp [e2] at h
    | some z =>
      simp [e2] at h
      exact ⟨i, z, rfl, e2, h.2.1, h.2.2, h.1⟩
theorem info134 : (Try.prog.info? 134).map (fun i => (i.zero.map (fun z => z.cells.size), i.size, i.bytes)) = some (some 13, 13, 136) := by kernel_rfl
/-- One element more, of some cells. -/
theorem wpList_appN {ops : Array Oper} {rest : List Oper} {o : Oper} {a : Act} {w : World} {Q : Exit → Act → World → Prop} {e sl b sz : Nat} (hsl : Try.prog.underlying sl = some (.slice e))
    (hin : (Try.prog.info? e).map (fun i => (i.zero.map (fun z => z.cells.size), i.size, i.bytes)) = some (some sz, sz, b)) (hsz : 0 < sz) (hb16 : b ≤ 200) (hgd : o.guard = none) (s x : Operand)
    (ho : o.op = .call { callee := .builtin .append, args := #[s, x], argTypes := #[sl, sl] }) (base : Nat) (v : Value) (n : Nat) (l : List Value) (cs : Array Value) (hcs : cs.size = sz) (hu : ∀ u ∈ cs.toList, u.oneCell' = true) (hs : a.eval s = v) (w0 : World) (h0 : w0.ownsRow base e sz v n l) (hw0 : w0.alloc (.cells cs e) = w)
    (hx : a.eval x = .slice (some ⟨w0.heap.size, 0, none⟩) 1 1) (h63 : n ≤ 1000) (hbase : base ≤ w0.heap.size)
    (h : ∀ g cap w', w'.ownsRow base e sz (.slice (some ⟨g, 0, none⟩) (n + 1) cap) (n + 1) (l ++ cs.toList) → w0.grownBy w' v.ownBlock → (v.ownBlock = some g ∨ w0.heap.size ≤ g) → g < w'.heap.size → wpList Try.prog ops Q rest (a.put o.dst (.slice (some ⟨g, 0, none⟩) (n + 1) cap)) w') : wpList Try.prog ops Q (o :: rest) a w := by
  obtain ⟨i, z, hi, hz, hs1, hb1, hz1⟩ := info_n hin
  subst hw0
  have al := below_new w0 (.cells cs e)
  have hown := ownsRow_below h0 al
  have hsb : base ≤ (w0.alloc (.cells cs e)).heap.size := by rw [World.size_alloc]; omega
  have hbb : (n + 1) * b ≤ 140737488355328 := Nat.le_trans (Nat.mul_le_mul (Nat.le_refl _) hb16) (by omega)
  refine wpList_append_lies _ hgd s x sl ho base e i _ sz b hsl hi hz hs1 hb1 hz1 hsz v n l hs hown ⟨w0.heap.size, 0, none⟩ 1 1 cs.toList hx (by simp [hcs]) (fun j y hj => ?_) hu (by decide) (by unfold maxLen; omega) hbb hsb _ rfl ?_
  · rw [add0]
    have := (cells_new w0 cs e).cell j
    rw [this, ← hj]
    simp
  · intro g cap w' h1 h2 h3 h4
    refine h g cap w' h1 ⟨h2.os, h2.tape, h2.output, by have := h2.size; rw [World.size_alloc] at this; omega, fun k hk hn => (h2.block k (by rw [World.size_alloc]; omega) hn).trans (al.block k hk)⟩ ?_ h4
    rcases h3 with h3 | h3
    · exact .inl h3
    · exact .inr (by rw [h3, World.size_alloc]; omega)
/-- A pattern's cells. -/
def PtV (w : World) (B : Nat) (x : Ru) (cs : List Value) : Prop := ∃ A1 c1 A2 c2, cs = sdC x.l A1 c1 ++ sdC x.r A2 c2 ++ [.bool x.b] ∧
  Nd w B x.l (.agg #[.int .i64 x.l.k, .int .i64 x.l.c, .slice A1 x.l.ks.length c1]) ∧ Nd w B x.r (.agg #[.int .i64 x.r.k, .int .i64 x.r.c, .slice A2 x.r.ks.length c2])
theorem PtV.below {w w' : World} {B : Nat} {x : Ru} {cs : List Value} (h : PtV w B x cs) (hb : Below B w w') : PtV w' B x cs := by
  obtain ⟨A1, c1, A2, c2, rfl, h1, h2⟩ := h
  exact ⟨A1, c1, A2, c2, rfl, h1.below hb, h2.below hb⟩
/-- The patterns of some rules. -/
structure PtsV (w : World) (B : Nat) (rs : List Ru) (L : List (List Value)) : Prop where
  l : L.length = rs.length
  p : ∀ (i : Nat) (x : Ru) (cs : List Value), rs[i]? = some x → L[i]? = some cs → PtV w B x cs
theorem PtsV.snoc {w : World} {B : Nat} {rs : List Ru} {L : List (List Value)} {x : Ru} {cs : List Value} (h : PtsV w B rs L) (hx : PtV w B x cs) : PtsV w B (rs ++ [x]) (L ++ [cs]) := by
  refine ⟨by simp [h.l], fun i y ds h1 h2 => ?_⟩
  by_cases hi : i < rs.length
  · rw [List.getElem?_append_left hi] at h1
    rw [List.getElem?_append_left (by rw [h.l]; exact hi)] at h2
    exact h.p i y ds h1 h2
  · rw [List.getElem?_append_right (by omega)] at h1
    rw [List.getElem?_append_right (by rw [h.l]; omega), h.l] at h2
    cases e : i - rs.length with
    | zero =>
      rw [e] at h1 h2
      simp at h1 h2
      rw [← h1, ← h2]; exact hx
    | succ k => rw [e] at h1; simp at h1
theorem own_fz {X : Nat → Prop} {w w' : World} {base e size n : Nat} {v : Value} {xs : List Value} (h : w.ownsRow base e size v n xs) (hf : Fz X w w') (hx : ∀ k, v.ownBlock = some k → ¬ X k) : w'.ownsRow base e size v n xs := by
  refine ⟨h.1, ?_⟩
  rcases h.2 with h0 | ⟨g, cap, cur, h1, h2, h3, rest⟩
  · exact .inl h0
  · exact .inr ⟨g, cap, cur, h1, h2, (hf.block g (Array.getElem?_eq_some_iff.1 h3).1 (hx g (by rw [h1]; rfl))).trans h3, rest⟩
theorem PtsV.below {w w' : World} {B : Nat} {rs : List Ru} {L : List (List Value)} (h : PtsV w B rs L) (hb : Below B w w') : PtsV w' B rs L := ⟨h.l, fun i x cs h1 h2 => (h.p i x cs h1 h2).below hb⟩
/-- Between two rules. -/
def LpR (w : World) (s1 : Nat) (cs0 : Array Value) (rs : List Ru) (k : Nat) (wr : World) : Prop :=
  ∃ vr L, Cells wr w.heap.size 57 cs0 ∧ Cells wr (w.heap.size + 1) 109 #[.slice none 0 0, .slice none 0 0, .slice none 0 0, .slice none 0 0] ∧ Cells wr (s1 + 1) 109 #[vr, .slice none 0 0, .slice (some ⟨s1, 0, none⟩) 1 1, .slice none 0 0] ∧ Cells wr s1 3 #[.int .i64 36] ∧
    wr.ownsRow (s1 + 2) 134 13 vr k L.flatten ∧ PtsV wr w.heap.size (rs.take k) L ∧ Below w.heap.size w wr ∧ s1 + 2 ≤ wr.heap.size ∧ w.heap.size + 2 ≤ s1
/-- What one number of a list does. -/
def rdS (ig kp : List Int) (s : List Bool × List Int × List Int) (id : Int) : List Bool × List Int × List Int :=
  let H := ig.contains (clsI id) && (decide (0 < s.1.length) && !kp.contains (s.2.1.getLast?.getD 0))
  (s.1 ++ [H], if H then s.2.1 else s.2.1 ++ [clsI id], s.2.2 ++ [(s.2.1.length : Int)])
def rdF (ig kp ids : List Int) : List Bool × List Int × List Int := ids.foldl (rdS ig kp) ([], [36], [])
theorem rdF_take (ig kp ids : List Int) (j : Nat) (id : Int) (h : ids[j]? = some id) : rdF ig kp (ids.take (j + 1)) = rdS ig kp (rdF ig kp (ids.take j)) id := by
  unfold rdF
  rw [List.take_add_one, h, List.foldl_append]
  rfl
theorem rdF_len (ig kp ids : List Int) : (rdF ig kp ids).1.length = ids.length ∧ (rdF ig kp ids).2.2.length = ids.length ∧ (rdF ig kp ids).2.1.length ≤ ids.length + 1 ∧ (rdF ig kp ids).2.1 ≠ [] := by
  have key : ∀ (xs : List Int) (s : List Bool × List Int × List Int), s.2.1 ≠ [] → (xs.foldl (rdS ig kp) s).1.length = s.1.length + xs.length ∧ (xs.foldl (rdS ig kp) s).2.2.length = s.2.2.length + xs.length ∧ (xs.foldl (rdS ig kp) s).2.1.length ≤ s.2.1.length + xs.length ∧ (xs.foldl (rdS ig kp) s).2.1 ≠ [] := by
    intro xs
    induction xs with
    | nil => intro s h; exact ⟨rfl, rfl, Nat.le_refl _, h⟩
    | cons x xs ih =>
      intro s h
      have := ih (rdS ig kp s x) (by unfold rdS; dsimp only; split <;> simp [h])
      rw [List.foldl_cons]
      have e1 : (rdS ig kp s x).1.length = s.1.length + 1 := by simp [rdS]
      have e2 : (rdS ig kp s x).2.2.length = s.2.2.length + 1 := by simp [rdS]
      have e3 : (rdS ig kp s x).2.1.length ≤ s.2.1.length + 1 := by unfold rdS; dsimp only; split <;> simp
      rw [e1, e2] at this
      simp only [List.length_cons]
      exact ⟨by omega, by omega, by omega, this.2.2.2⟩
  have := key ids ([], [36], []) (by simp)
  unfold rdF
  simp at this ⊢
  exact ⟨this.1, this.2.1, by omega, this.2.2.2⟩
theorem clsI_64 (n : Int) : i64 (clsI n) := by unfold clsI i64; split <;> omega
/-- Between two numbers of the list. -/
def LpI (w : World) (x : Nat) (cs0 : Array Value) (rs : List Ru) (vr : Value) (L : List (List Value)) (ig kp ids : List Int) (j : Nat) (wr : World) : Prop :=
  ∃ vh vm vp, Cells wr w.heap.size 57 cs0 ∧ Cells wr (w.heap.size + 1) 109 #[.slice none 0 0, .slice none 0 0, .slice none 0 0, .slice none 0 0] ∧ wr.ownsRow (w.heap.size + 2) 134 13 vr rs.length L.flatten ∧ PtsV wr w.heap.size rs L ∧
    RdA wr (w.heap.size + 2) x (fun k => vr.ownBlock = some k) vr (rdF ig kp (ids.take j)).1 (rdF ig kp (ids.take j)).2.1 (rdF ig kp (ids.take j)).2.2 vh vm vp ∧ Below w.heap.size w wr
theorem own_base {w : World} {base base' e size n : Nat} {v : Value} {xs : List Value} (h : w.ownsRow base e size v n xs) (hb : base' ≤ base) : w.ownsRow base' e size v n xs := by
  refine ⟨h.1, ?_⟩
  rcases h.2 with h0 | ⟨g, cap, cur, h1, h2, rest⟩
  · exact .inl h0
  · exact .inr ⟨g, cap, cur, h1, by omega, rest⟩
/-- Behind the rules. -/
theorem LpR.ids {w wr : World} {s1 : Nat} {cs0 : Array Value} {rs : List Ru} (ig kp ids : List Int) {k : Nat} (h : LpR w s1 cs0 rs k wr) (hk : k = rs.length) : ∃ vr L, LpI w (s1 + 1) cs0 rs vr L ig kp ids 0 wr := by
  subst hk
  obtain ⟨vr, L, y1, y2, y3, y4, ho, hp, hb, hs, hg⟩ := h
  rw [List.take_length] at hp
  have nb : ∀ j, vr.ownBlock = some j → s1 + 2 ≤ j ∧ j < wr.heap.size := own_block_lt ho
  refine ⟨vr, L, .slice none 0 0, .slice (some ⟨s1, 0, none⟩) 1 1, .slice none 0 0, y1, y2, own_base ho (by omega), hp, ⟨y3, by omega, ?_, ?_, ?_, by simp [Value.ownBlock], by simp [Value.ownBlock], by simp [Value.ownBlock], by simp [Value.ownBlock], by simp [Value.ownBlock], by simp [Value.ownBlock], ?_, ?_⟩, hb⟩
  · exact World.ownsRow_nil _ _ _ _
  · exact ⟨rfl, .inr ⟨s1, 1, #[.int .i64 36], rfl, by omega, y4, Nat.le_refl _, by unfold maxLen; omega, rfl, rfl⟩⟩
  · exact World.ownsRow_nil _ _ _ _
  · intro k hk
    have := nb k hk
    refine ⟨by omega, by simp [Value.ownBlock], ?_, by simp [Value.ownBlock], this.2⟩
    simp [Value.ownBlock]
    omega
  · intro z hz
    simp [rdF] at hz
    subst hz
    unfold i64
    omega
theorem own_formN {w : World} {base e z n : Nat} {v : Value} {xs : List Value} (h : w.ownsRow base e z v n xs) : ∃ A c, v = .slice A n c := by
  rcases h.2 with ⟨h1, h2⟩ | ⟨g, cap, cur, h1, _⟩
  · exact ⟨none, 0, by rw [h1, h2]⟩
  · exact ⟨_, _, h1⟩
/-- A reading, as it is handed over. -/
structure RdO (w : World) (B : Nat) (t : Tx) (ids : List Int) (L : List (List Value)) (vr vh vm vp : Value) : Prop where
  r : w.ownsRow B 134 13 vr t.rs.length L.flatten
  p : PtsV w B t.rs L
  h : w.ownsRow B 4 1 vh (rdF t.ig t.kp ids).1.length (bL (rdF t.ig t.kp ids).1)
  m : w.ownsRow B 3 1 vm (rdF t.ig t.kp ids).2.1.length (iL (rdF t.ig t.kp ids).2.1)
  s : w.ownsRow B 3 1 vp (rdF t.ig t.kp ids).2.2.length (iL (rdF t.ig t.kp ids).2.2)
  i : ∀ z ∈ (rdF t.ig t.kp ids).2.1, i64 z
theorem RdO.of {w wr : World} {x : Nat} {t : Tx} {ids : List Int} {vr : Value} {L : List (List Value)} {vh vm vp : Value} {O : Nat → Prop} (zo : wr.ownsRow (w.heap.size + 2) 134 13 vr t.rs.length L.flatten) (zp : PtsV wr w.heap.size t.rs L)
    (zr : RdA wr (w.heap.size + 2) x O vr (rdF t.ig t.kp ids).1 (rdF t.ig t.kp ids).2.1 (rdF t.ig t.kp ids).2.2 vh vm vp) {w' : World} (hf : Fz (fun k => k = w.heap.size + 1) wr w') (hb : Below w.heap.size wr w') : RdO w' w.heap.size t ids L vr vh vm vp := by
  have key : ∀ {e size n : Nat} {v : Value} {xs : List Value}, wr.ownsRow (w.heap.size + 2) e size v n xs → w'.ownsRow w.heap.size e size v n xs := fun h => own_base (own_fz h hf (fun k e he => by have := (own_block_lt h k e).1; omega)) (by omega)
  exact ⟨key zo, zp.below hb, key zr.oh, key zr.om, key zr.op, zr.i⟩
set_option maxRecDepth 100000 in
set_option maxHeartbeats 8000000 in
theorem read_any (t : Tx) (v : Value) (ids : List Int) (A : Option Addr) (cap : Nat) (w : World) (h : TxV w w.heap.size t v) (hi : IS w w.heap.size ids A cap) (hn : ids.length ≤ 900) :
    Calls Try.prog 48 #[v, .slice A ids.length cap] w fun e w' => ∃ L vr vh vm vp, e = .returned (.agg #[vr, vh, vm, vp]) ∧ RdO w' w.heap.size (knownT t) ids L vr vh vm vp ∧ Below w.heap.size w w' := by
  obtain ⟨A1, c1, A2, c2, A3, c3, rfl, h1, h2, h3⟩ := h
  obtain ⟨W0, hW0⟩ : ∃ W0, (w.alloc (.cells #[.slice A1 t.ig.length c1, .slice A2 t.kp.length c2, .slice A3 t.rs.length c3] 57)).alloc (.cells #[.slice none 0 0, .slice none 0 0, .slice none 0 0, .slice none 0 0] 109) = W0 := ⟨_, rfl⟩
  have hb0 : Below w.heap.size w W0 := by rw [← hW0]; exact ((Below.refl _ w).alloc (Nat.le_refl _) _).alloc (by simp) _
  have hs0 : W0.heap.size = w.heap.size + 2 := by rw [← hW0]; simp
  have x1 : Cells W0 w.heap.size 57 #[.slice A1 t.ig.length c1, .slice A2 t.kp.length c2, .slice A3 t.rs.length c3] := by
    rw [← hW0]; exact (Below.heap_alloc _ _ _ (by simp)).trans (World.alloc_heap_new _ _)
  have x2 : Cells W0 (w.heap.size + 1) 109 #[.slice none 0 0, .slice none 0 0, .slice none 0 0, .slice none 0 0] := by
    rw [← hW0]
    have := World.alloc_heap_new (w.alloc (.cells #[.slice A1 t.ig.length c1, .slice A2 t.kp.length c2, .slice A3 t.rs.length c3] 57)) (.cells #[.slice none 0 0, .slice none 0 0, .slice none 0 0, .slice none 0 0] 109)
    rw [World.size_alloc] at this
    exact this
  have CR := Lib.hid (rightT_any t _ W0 ((show TxV w w.heap.size t _ from ⟨A1, c1, A2, c2, A3, c3, rfl, h1, h2, h3⟩).on hb0))
  have HW := Lib.hid hW0
  obtain ⟨b, hb⟩ : ∃ b, rightT t = b := ⟨_, rfl⟩
  rw [hb] at CR
  have HR := Lib.hid hb
  have l3 := h3.len
  have HH := Lib.hid (And.intro (And.intro h1 (And.intro h2 h3)) (And.intro hb0 (And.intro hs0 (And.intro x1 x2))))
  obtain ⟨n, hN⟩ : ∃ n, ids.length = n := ⟨_, rfl⟩
  have HI := Lib.hid (And.intro hi hN)
  rw [hN] at hn ⊢
  clear hi hN hW0 hb h1 h2 h3 hb0 hs0 x1 x2
  cases b with
  | true =>
    go_enter Try.func48, Try.ntmps48
    go_wp2_with fail
    rw [HW.out]
    refine CR.out.mono ?_
    rintro r w1 ⟨rfl, hb1⟩
    have hs := HH.out.2.2.1
    have hs1 := hb1.size
    have x1 := HH.out.2.2.2.1.on hb1
    have x2 := HH.out.2.2.2.2.on hb1
    obtain ⟨W3, hW3⟩ : ∃ W3, (w1.alloc (.cells #[.int .i64 36] 3)).alloc (.cells #[.slice none 0 0, .slice none 0 0, .slice (some ⟨w1.heap.size, 0, none⟩) 1 1, .slice none 0 0] 109) = W3 := ⟨_, rfl⟩
    have bA : Below w1.heap.size w1 W3 := by rw [← hW3]; exact ((Below.refl _ w1).alloc (Nat.le_refl _) _).alloc (by simp) _
    have hs3 : W3.heap.size = w1.heap.size + 2 := by rw [← hW3]; simp
    have x3 : Cells W3 (w1.heap.size + 1) 109 #[.slice none 0 0, .slice none 0 0, .slice (some ⟨w1.heap.size, 0, none⟩) 1 1, .slice none 0 0] := by
      rw [← hW3]
      have := World.alloc_heap_new (w1.alloc (.cells #[.int .i64 36] 3)) (.cells #[.slice none 0 0, .slice none 0 0, .slice (some ⟨w1.heap.size, 0, none⟩) 1 1, .slice none 0 0] 109)
      rw [World.size_alloc] at this
      exact this
    have x4 : Cells W3 w1.heap.size 3 #[.int .i64 36] := by rw [← hW3]; exact (Below.heap_alloc _ _ _ (by simp)).trans (World.alloc_heap_new _ _)
    have p0 : W3.cell? ⟨w.heap.size, 2, none⟩ = some (.slice A3 t.rs.length c3) := (x1.on bA).cell 2
    have HX := Lib.hid (And.intro (x1.on bA) (And.intro (x2.on bA) (And.intro x3 (And.intro x4 (And.intro ((HH.out.2.1.trans (hb1.mono HH.out.2.1.size)).trans (bA.mono (by omega))) hs3)))))
    clear x1 x2 x3 x4 hb1 bA
    rw [← hW3] at p0
    have HW3 := Lib.hid hW3
    clear hW3
    go_wp2_with fail
    rw [HW3.out]
    obtain ⟨m, hm⟩ : ∃ m, t.rs.length = m := ⟨_, rfl⟩
    have l40 : m ≤ 40 := by
      have := HR.out
      unfold rightT at this
      simp only [Bool.and_eq_true, decide_eq_true_eq] at this
      omega
    rw [hm] at l3 ⊢
    have HM := Lib.hid hm
    clear hm p0
    have hs' : w1.heap.size ≤ W3.heap.size := by have := HX.out.2.2.2.2.2; omega
    have hbig : w.heap.size + 2 ≤ w1.heap.size := by omega
    go_loopw [7, 19] (fun _ i wr => ∃ k : Nat, i = .int .i64 k ∧ k ≤ m ∧ LpR w w1.heap.size #[.slice A1 t.ig.length c1, .slice A2 t.kp.length c2, .slice A3 t.rs.length c3] t.rs k wr) (fun _ i _ => m - (RowKit.intOf i).toNat)
    case atStart =>
      exact ⟨0, rfl, Nat.zero_le _, .slice none 0 0, [], HX.out.1, HX.out.2.1, HX.out.2.2.1, HX.out.2.2.2.1, World.ownsRow_nil _ _ _ _, ⟨by simp, fun i x cs h1 _ => by simp at h1⟩, HX.out.2.2.2.2.1, by have := HX.out.2.2.2.2.2; omega, hbig⟩
    case round =>
      obtain ⟨k, rfl, hkm, vr, L, y1, y2, y3, y4, ho, hp, hbr, hsr, _⟩ := hrel
      by_cases hlt : k < m
      · obtain ⟨x, hx⟩ : ∃ x, t.rs[k]? = some x := ⟨t.rs[k]'(by rw [HM.out]; exact hlt), List.getElem?_eq_getElem _⟩
        have i1 : (k : Int) < (m : Int) := by omega
        obtain ⟨bq, oq, rfl, hbl, hr⟩ := (HH.out.1.2.2.below hbr).r (by rintro e; rw [e] at hx; simp at hx)
        obtain ⟨D1, d1, D2, d2, ⟨k0, k1, k2, k3, k4, k5, k6⟩, hv⟩ := hr k x hx
        obtain ⟨_, _, _, _, he, hv1, hv2⟩ := hv
        injection he with he
        have he' := congrArg Array.toList he
        simp at he'
        obtain ⟨⟨rfl, rfl⟩, rfl, rfl⟩ := he'
        clear he
        have HP := Lib.hid (And.intro y1 (And.intro y2 (And.intro y3 (And.intro y4 (And.intro ho (And.intro hp (And.intro hbr hx)))))))
        have HV := Lib.hid (And.intro hv1 hv2)
        clear y1 y2 y3 y4 ho hp hbr hx hr hv1 hv2
        go_wp2_with fail
        have HQ := Lib.hid (And.intro HV.out.1 HV.out.2)
        obtain ⟨W4, hW4⟩ : ∃ W4, wr.alloc (.cells #[.int .i64 x.l.k, .int .i64 x.l.c, .slice D1 x.l.ks.length d1, .int .i64 x.r.k, .int .i64 x.r.c, .slice D2 x.r.ks.length d2, .bool x.b] 68) = W4 := ⟨_, rfl⟩
        have bW : Below wr.heap.size wr W4 := by rw [← hW4]; exact below_new _ _
        have xb : Cells W4 wr.heap.size 68 #[.int .i64 x.l.k, .int .i64 x.l.c, .slice D1 x.l.ks.length d1, .int .i64 x.r.k, .int .i64 x.r.c, .slice D2 x.r.ks.length d2, .bool x.b] := by rw [← hW4]; exact cells_new _ _ _
        have s4 := bW.size
        rw [hW4]
        have HB4 := Lib.hid bW
        have hbr := HP.out.2.2.2.2.2.2.1
        have hbz := hbr.size
        have v1 := HV.out.1.below (bW.mono hbz)
        have v2 := HV.out.2.below (bW.mono hbz)
        have CC : ∀ (e : E) (D : Option Addr) (d : Nat), Nd W4 w.heap.size e (.agg #[.int .i64 e.k, .int .i64 e.c, .slice D e.ks.length d]) → ∀ p : Later (fun _ => False) W4, Calls Try.prog 76 #[.agg #[.int .i64 e.k, .int .i64 e.c, .slice D e.ks.length d]] p.W fun r w' => r = .returned (.agg #[.int .i64 e.k, .int .i64 e.c, .slice D e.ks.length d, .int .i64 ((shortR e : Nat) : Int), .int .i64 ((longR e).2 : Nat), .bool (longR e).1]) ∧ ∃ q : Later (fun _ => False) W4, w' = q.W := by
          intro e D d hnd p
          have hpb := p.h.below (B := w.heap.size) (by omega) (fun _ _ hf => hf)
          refine (newSide_any e D d p.W ((hnd.below hpb).mono (by have := p.h.size; omega))).mono ?_
          rintro r w' ⟨rfl, hbw⟩
          exact ⟨rfl, ⟨w', p.h.trans (Fz.of_below hbw)⟩, rfl⟩
        have C1 := CC x.l D1 d1 v1
        have C2 := CC x.r D2 d2 v2
        have y3 := HP.out.2.2.1.on bW
        have q0 : ∀ p : Later (fun _ => False) W4, p.W.cell? ⟨w1.heap.size + 1, 0, none⟩ = some vr := fun p => cell_later (y3.cell 0) (fun hf => hf) p
        have g0 : ∀ p : Later (fun _ => False) W4, p.W.cell? ⟨wr.heap.size, 0, none⟩ = some (.int .i64 x.l.k) := fun p => cell_later (xb.cell 0) (fun hf => hf) p
        have g1 : ∀ p : Later (fun _ => False) W4, p.W.cell? ⟨wr.heap.size, 1, none⟩ = some (.int .i64 x.l.c) := fun p => cell_later (xb.cell 1) (fun hf => hf) p
        have g2 : ∀ p : Later (fun _ => False) W4, p.W.cell? ⟨wr.heap.size, 2, none⟩ = some (.slice D1 x.l.ks.length d1) := fun p => cell_later (xb.cell 2) (fun hf => hf) p
        have g3 : ∀ p : Later (fun _ => False) W4, p.W.cell? ⟨wr.heap.size, 3, none⟩ = some (.int .i64 x.r.k) := fun p => cell_later (xb.cell 3) (fun hf => hf) p
        have g4 : ∀ p : Later (fun _ => False) W4, p.W.cell? ⟨wr.heap.size, 4, none⟩ = some (.int .i64 x.r.c) := fun p => cell_later (xb.cell 4) (fun hf => hf) p
        have g5 : ∀ p : Later (fun _ => False) W4, p.W.cell? ⟨wr.heap.size, 5, none⟩ = some (.slice D2 x.r.ks.length d2) := fun p => cell_later (xb.cell 5) (fun hf => hf) p
        have g6 : ∀ p : Later (fun _ => False) W4, p.W.cell? ⟨wr.heap.size, 6, none⟩ = some (.bool x.b) := fun p => cell_later (xb.cell 6) (fun hf => hf) p
        clear k0 k1 k2 k3 k4 k5 k6 xb y3 v1 v2 CC bW hW4
        have HK := Lib.hid hbr
        clear hbr
        obtain ⟨lk, hlk⟩ : ∃ q, x.l.k = q := ⟨_, rfl⟩
        obtain ⟨lc, hlc⟩ : ∃ q, x.l.c = q := ⟨_, rfl⟩
        obtain ⟨ln, hln⟩ : ∃ q, x.l.ks.length = q := ⟨_, rfl⟩
        obtain ⟨rk, hrk⟩ : ∃ q, x.r.k = q := ⟨_, rfl⟩
        obtain ⟨rc, hrc⟩ : ∃ q, x.r.c = q := ⟨_, rfl⟩
        obtain ⟨rn, hrn⟩ : ∃ q, x.r.ks.length = q := ⟨_, rfl⟩
        obtain ⟨xb, hxb⟩ : ∃ q, x.b = q := ⟨_, rfl⟩
        obtain ⟨s1, hs1'⟩ : ∃ q, shortR x.l = q := ⟨_, rfl⟩
        obtain ⟨s2, hs2⟩ : ∃ q, shortR x.r = q := ⟨_, rfl⟩
        obtain ⟨o1, ho1⟩ : ∃ q, (longR x.l).2 = q := ⟨_, rfl⟩
        obtain ⟨o2, ho2⟩ : ∃ q, (longR x.r).2 = q := ⟨_, rfl⟩
        obtain ⟨t1, ht1⟩ : ∃ q, (longR x.l).1 = q := ⟨_, rfl⟩
        obtain ⟨t2, ht2⟩ : ∃ q, (longR x.r).1 = q := ⟨_, rfl⟩
        rw [hlk, hlc, hln, hrk, hrc, hrn, hxb]
        rw [hlk] at g0; rw [hlc] at g1; rw [hln] at g2; rw [hrk] at g3; rw [hrc] at g4; rw [hrn] at g5; rw [hxb] at g6
        simp only [hlk, hlc, hln, hs1', ho1, ht1] at C1
        simp only [hrk, hrc, hrn, hs2, ho2, ht2] at C2
        have hcs : sdC x.l D1 d1 ++ sdC x.r D2 d2 ++ [.bool x.b] = [.int .i64 lk, .int .i64 lc, .slice D1 ln d1, .int .i64 (s1 : Int), .int .i64 (o1 : Int), .bool t1, .int .i64 rk, .int .i64 rc, .slice D2 rn d2, .int .i64 (s2 : Int), .int .i64 (o2 : Int), .bool t2, .bool xb] := by
          unfold sdC
          rw [hlk, hlc, hln, hrk, hrc, hrn, hxb, hs1', ho1, ht1, hs2, ho2, ht2]
          rfl
        have HC := Lib.hid hcs
        clear hcs hlk hlc hln hrk hrc hrn hxb hs1' hs2 ho1 ho2 ht1 ht2
        refine wp_region_mix (fun i => if i = 4 then 1 else if i = 7 then 1 else if i = 11 then 2 else if 12 ≤ i then 3 else 0) [0, 1, 2, 3, 4, 5, 6, 7, 8, 9, 10] [11, 12, 13, 14] (fun w' => ∃ p : Later (fun _ => False) W4, w' = p.W) (by kernel_rfl) (by kernel_rfl) ⟨⟨_, Fz.drew W4⟩, rfl⟩ ?_
        simp only [opsAt, List.filterMap_cons, List.filterMap_nil, List.getElem?_toArray, List.getElem?_cons_zero, List.getElem?_cons_succ]
        change wpQuiet _ _ _ _ [_, _, _, _, _, _, _, _, _, _, _] _
        iterate 5 (go_big_quiet_step (exact C1 _))
        clear C1
        iterate 3 (go_big_quiet_step (exact C2 _))
        clear C2
        repeat (go_big_quiet_step (fail))
        refine wpQuiet_nil ?_
        intro _ hw'
        obtain ⟨p, hw''⟩ := hw'
        subst hw''
        have hz5 := p.h
        clear q0 g0 g1 g2 g3 g4 g5 g6
        obtain ⟨W5, hW5⟩ : ∃ V, p.W = V := ⟨_, rfl⟩
        rw [hW5] at hz5 ⊢
        clear hW5
        clear p
        have pb := hz5.below (Nat.le_refl W4.heap.size) (fun _ _ hf => hf)
        have bt := HB4.out.trans (pb.mono s4)
        have s5 := bt.size
        have o5 := ownsRow_below HP.out.2.2.2.2.1 bt
        have HF := Lib.hid (And.intro (HP.out.1.on bt) (And.intro (HP.out.2.1.on bt) (And.intro (HP.out.2.2.1.on bt) (And.intro (HP.out.2.2.2.1.on bt) (And.intro o5 (And.intro (HK.out.trans (bt.mono hbz)) hz5))))))
        clear pb bt o5
        refine wpSeqM_step rfl ?_
        go_wp2_with fail
        refine ⟨⟨⟨_, HF.out.2.2.2.2.2.2.trans (Fz.of_below (below_new W5 _))⟩, rfl⟩, ?_⟩
        refine wpSeqM_step rfl ?_
        refine wpList_appN Try.underlying107 info134 (by omega) (by omega) rfl (.tmp 24) (.tmp 34) rfl (w1.heap.size + 2) vr k L.flatten #[.int .i64 lk, .int .i64 lc, .slice D1 ln d1, .int .i64 (s1 : Int), .int .i64 (o1 : Int), .bool t1, .int .i64 rk, .int .i64 rc, .slice D2 rn d2, .int .i64 (s2 : Int), .int .i64 (o2 : Int), .bool t2, .bool xb] rfl (fun u hu => by simp at hu; rcases hu with rfl | rfl | rfl | rfl | rfl | rfl | rfl | rfl | rfl | rfl | rfl | rfl | rfl <;> rfl) rfl W5 HF.out.2.2.2.2.1 rfl rfl (by omega) (by omega) ?_
        intro g cp w6 ho6 hg6 hn6 hl6
        have nb : ∀ j, vr.ownBlock = some j → w1.heap.size + 2 ≤ j := fun j e => (own_block_lt HF.out.2.2.2.2.1 j e).1
        have hz6 : Fz (fun j => vr.ownBlock = some j) W5 w6 := Fz.of_grown hg6 (fun j e => e)
        have a1 := hz6.cells (fun e => by have := nb _ e; omega) HF.out.1
        have a2 := hz6.cells (fun e => by have := nb _ e; omega) HF.out.2.1
        have a3 := hz6.cells (fun e => by have := nb _ e; omega) HF.out.2.2.1
        have a4 := hz6.cells (fun e => by have := nb _ e; omega) HF.out.2.2.2.1
        have hgb : w1.heap.size + 2 ≤ g := by
          rcases hn6 with hn6 | hn6
          · exact nb g hn6
          · omega
        have s6 := hz6.size
        have b6 : Below w.heap.size W5 w6 := hz6.below (by omega) (fun j hj e => by have := nb j e; omega)
        have b6' : Below w.heap.size wr w6 := ((HB4.out.mono hbz).trans ((HF.out.2.2.2.2.2.2.below (B := w.heap.size) (by omega) (fun _ _ hf => hf)))).trans b6
        have d0 : w6.cell? ⟨w1.heap.size + 1, 0, none⟩ = some vr := a3.cell 0
        have e0 : w6.frozen? ⟨w1.heap.size + 1, 0, none⟩ = false := a3.froz 0
        have HG := Lib.hid (And.intro a1 (And.intro a2 (And.intro a3 (And.intro a4 (And.intro ho6 (And.intro (HF.out.2.2.2.2.2.1.trans b6) b6'))))))
        clear a1 a2 a3 a4 ho6 b6 b6' hz6 hg6 hn6 nb
        go_wp2_with fail
        refine wpSeqM_step rfl ?_
        go_wp2_with fail
        refine wpSeqM_step rfl ?_
        go_wp2_with fail
        unfold wpSeqM
        have hend : LpR w w1.heap.size #[.slice A1 t.ig.length c1, .slice A2 t.kp.length c2, .slice (some ⟨bq, oq, none⟩) t.rs.length c3] t.rs (k + 1) (w6.setCell ⟨w1.heap.size + 1, 0, none⟩ (.slice (some ⟨g, 0, none⟩) (k + 1) cp)) := by
          have fs := Fz.set (X := fun j => j = w1.heap.size + 1) w6 (w1.heap.size + 1) 0 (.slice (some ⟨g, 0, none⟩) (k + 1) cp) rfl
          have bs : Below w.heap.size w6 (w6.setCell ⟨w1.heap.size + 1, 0, none⟩ (.slice (some ⟨g, 0, none⟩) (k + 1) cp)) := fs.below (by omega) (fun j hj e => by omega)
          refine ⟨.slice (some ⟨g, 0, none⟩) (k + 1) cp, L ++ [sdC x.l D1 d1 ++ sdC x.r D2 d2 ++ [.bool x.b]], fs.cells (by omega) HG.out.1, fs.cells (by omega) HG.out.2.1, by simpa using HG.out.2.2.1.set 0 (.slice (some ⟨g, 0, none⟩) (k + 1) cp), fs.cells (by omega) HG.out.2.2.2.1, ?_, ?_, HG.out.2.2.2.2.2.1.trans bs, by simp; omega, hbig⟩
          · rw [List.flatten_append, HC.out]
            refine own_fz (by simpa using HG.out.2.2.2.2.1) fs (fun j e he => ?_)
            simp [Value.ownBlock] at e
            omega
          · have hp := HP.out.2.2.2.2.2.1.below (HG.out.2.2.2.2.2.2.trans bs)
            have hv := HV.out
            rw [List.take_add_one, HP.out.2.2.2.2.2.2.2]
            exact hp.snoc ⟨D1, d1, D2, d2, rfl, hv.1.below (HG.out.2.2.2.2.2.2.trans bs), hv.2.below (HG.out.2.2.2.2.2.2.trans bs)⟩
        have HEND := Lib.hid hend
        clear hend
        go_wp2_with fail
        go_roundw
        case rel => exact ⟨k + 1, by go_num, by omega, HEND.out⟩
        case measure => simp [RowKit.intOf]; omega
      · have hkm' : k = m := by omega
        subst hkm'
        have i1 : ¬ (k : Int) < (k : Int) := by omega
        have hl2 : LpR w w1.heap.size #[.slice A1 t.ig.length c1, .slice A2 t.kp.length c2, .slice A3 t.rs.length c3] t.rs k wr := ⟨vr, L, y1, y2, y3, y4, ho, hp, hbr, hsr, hbig⟩
        obtain ⟨vr2, L2, hlp⟩ := hl2.ids t.ig t.kp ids HM.out.symm
        have HT := Lib.hid (And.intro HH.out.1.1 HH.out.1.2.1)
        clear hl2 y1 y2 y3 y4 ho hp hbr
        have hli := hlp
        have HL := Lib.hid hlp
        clear hlp hli
        obtain ⟨wo, hwo⟩ : ∃ W : World, wr = W := ⟨_, rfl⟩
        rw [hwo] at HL ⊢
        clear hwo
        go_wp2_with fail
        go_loopw [9, 40] (fun _ i wq => ∃ j : Nat, i = .int .i64 j ∧ j ≤ n ∧ LpI w (w1.heap.size + 1) #[.slice A1 t.ig.length c1, .slice A2 t.kp.length c2, .slice A3 t.rs.length c3] t.rs vr2 L2 t.ig t.kp ids j wq) (fun _ i _ => n - (RowKit.intOf i).toNat)
        case atStart => exact ⟨0, rfl, Nat.zero_le _, HL.out⟩
        case round =>
          obtain ⟨j, rfl, hjn, vh, vm, vp, z1, z2, zo, zp, zr, zb⟩ := hrel
          by_cases hlt2 : j < n
          · obtain ⟨id, hid⟩ : ∃ id, ids[j]? = some id := ⟨ids[j]'(by rw [HI.out.2]; exact hlt2), List.getElem?_eq_getElem _⟩
            have i2 : (j : Int) < (n : Int) := by omega
            obtain ⟨bq2, oq2, rfl, hbl2, hr2⟩ := (HI.out.1.below zb).r (by rintro e; rw [e] at hid; simp at hid)
            have k0 := hr2 j id hid
            have lens := rdF_len t.ig t.kp (ids.take j)
            have e0 := rdF_take t.ig t.kp ids j id hid
            have hlj : (ids.take j).length = j := by rw [List.length_take, HI.out.2]; omega
            rw [hlj] at lens
            obtain ⟨⟨hs, ms, ps⟩, hS⟩ : ∃ S, rdF t.ig t.kp (ids.take j) = S := ⟨_, rfl⟩
            rw [hS] at zr e0 lens
            dsimp only at zr lens
            obtain ⟨l, hl⟩ : ∃ l, ms.getLast? = some l := by
              cases e : ms.getLast? with
              | none => rw [List.getLast?_eq_none_iff] at e; exact absurd e lens.2.2.2
              | some l => exact ⟨l, rfl⟩
            have HZ := Lib.hid (And.intro z1 (And.intro z2 (And.intro zo (And.intro zp (And.intro zr (And.intro zb (And.intro lens (And.intro e0 hl))))))))
            have q0 : ∀ p : Later (fun _ => False) wr, p.W.cell? ⟨w.heap.size, 0, none⟩ = some (.slice A1 t.ig.length c1) := fun p => cell_later (z1.cell 0) (fun hf => hf) p
            have q1 : ∀ p : Later (fun _ => False) wr, p.W.cell? ⟨w.heap.size, 1, none⟩ = some (.slice A2 t.kp.length c2) := fun p => cell_later (z1.cell 1) (fun hf => hf) p
            obtain ⟨c, hc⟩ : ∃ c, clsI id = c := ⟨_, rfl⟩
            have C1 : ∀ p : Later (fun _ => False) wr, Calls Try.prog 78 #[.int .i64 id] p.W fun r w' => r = .returned (.int .i64 c) ∧ ∃ q : Later (fun _ => False) wr, w' = q.W := by
              intro p
              refine (class_any id p.W).mono ?_
              rintro r w' ⟨rfl, rfl⟩
              exact ⟨by rw [hc], p, rfl⟩
            have HCC := Lib.hid hc
            clear z1 z2 zo zp zr zb lens e0 hl hS hr2 hid hlj hc
            go_wp2_with fail
            refine wp_region_mix (fun i => if i = 1 then 1 else if i = 6 then 3 else 0) [0, 1, 2, 3, 4, 5] [6] (fun w' => ∃ p : Later (fun _ => False) wr, w' = p.W) (by kernel_rfl) (by kernel_rfl) ⟨⟨_, Fz.drew wr⟩, rfl⟩ ?_
            simp only [opsAt, List.filterMap_cons, List.filterMap_nil, List.getElem?_toArray, List.getElem?_cons_zero, List.getElem?_cons_succ]
            change wpQuiet _ _ _ _ [_, _, _, _, _, _] _
            repeat (go_big_quiet_step (exact C1 _))
            refine wpQuiet_nil ?_
            intro _ hw'
            obtain ⟨p, hw''⟩ := hw'
            subst hw''
            have hz5 := p.h
            clear q0 q1 C1
            obtain ⟨W5, hW5⟩ : ∃ V, p.W = V := ⟨_, rfl⟩
            rw [hW5] at hz5 ⊢
            clear hW5
            clear p
            have bt := hz5.below (Nat.le_refl wr.heap.size) (fun _ _ hf => hf)
            have r5 := HZ.out.2.2.2.2.1.below bt
            have zb := HZ.out.2.2.2.2.2.1
            have zbs := zb.size
            have bt' := bt.mono zbs
            have zb5 := zb.trans bt'
            have AD := add_any (w.heap.size + 2) (w1.heap.size + 1) (fun k => vr2.ownBlock = some k) vr2 hs ms ps vh vm vp c t.ig A1 c1 t.kp A2 c2 l W5 r5 ((HT.out.1.below zb5).mono zb5.size) ((HT.out.2.below zb5).mono zb5.size) HZ.out.2.2.2.2.2.2.2.2 (by rw [← HCC.out]; exact clsI_64 _) (by have := HZ.out.2.2.2.2.2.2.1.1; omega) (by have := HZ.out.2.2.2.2.2.2.1.2.2.1; omega) (by have := HZ.out.2.2.2.2.2.2.1.2.1; omega)
            have HB := Lib.hid (And.intro bt (And.intro bt' zb5))
            clear r5 zb zbs bt bt' zb5
            refine wpSeqM_step rfl ?_
            go_wp2_with fail
            refine AD.mono ?_
            rintro r w7 ⟨rfl, H, vh', vm', vp', hH, r7, f7⟩
            clear AD
            have hend : LpI w (w1.heap.size + 1) #[.slice A1 t.ig.length c1, .slice A2 t.kp.length c2, .slice A3 t.rs.length c3] t.rs vr2 L2 t.ig t.kp ids (j + 1) w7 := by
              have b7 := f7.below (B := w.heap.size) (by have := HB.out.2.2.size; omega) (fun k hk e => by omega)
              refine ⟨vh', vm', vp', f7.cells (fun e => by omega) (HZ.out.1.on HB.out.1), f7.cells (fun e => by omega) (HZ.out.2.1.on HB.out.1), own_fz (ownsRow_below HZ.out.2.2.1 HB.out.1) f7 (fun k e he => he.2 e), HZ.out.2.2.2.1.below (HB.out.2.1.trans b7), ?_, HB.out.2.2.trans b7⟩
              rw [HZ.out.2.2.2.2.2.2.2.1]
              have hS : rdS t.ig t.kp (hs, ms, ps) id = (hs ++ [H], (if H then ms else ms ++ [c]), ps ++ [(ms.length : Int)]) := by
                unfold rdS
                dsimp only
                rw [HZ.out.2.2.2.2.2.2.2.2, HCC.out]
                dsimp only [Option.getD]
                subst hH
                rfl
              rw [hS]
              exact r7
            have HEND := Lib.hid hend
            clear hend r7 f7 hH
            go_wp2_with fail
            unfold wpSeqM
            go_wp2_with fail
            go_roundw
            case rel => exact ⟨j + 1, by go_num, by omega, HEND.out⟩
            case measure => simp [RowKit.intOf]; omega
          · have hjn' : j = n := by omega
            subst hjn'
            have i2 : ¬ (j : Int) < (j : Int) := by omega
            have ht2 : ids.take j = ids := by rw [← HI.out.2, List.take_length]
            rw [ht2] at zr
            obtain ⟨Ar, cr, rfl⟩ := own_formN zo
            obtain ⟨Ah, ch, rfl⟩ := own_formN zr.oh
            obtain ⟨Am, cm, rfl⟩ := own_formN zr.om
            obtain ⟨Ap, cp, rfl⟩ := own_formN zr.op
            have e0 := zr.c.cell 0
            have e1 := zr.c.cell 1
            have e2 := zr.c.cell 2
            have e3 := zr.c.cell 3
            simp at e0 e1 e2 e3
            have dd0 := z2.cell 0
            have dd1 := z2.cell 1
            have dd2 := z2.cell 2
            have dd3 := z2.cell 3
            simp at dd0 dd1 dd2 dd3
            have f0 := z2.froz 0
            have f1 := z2.froz 1
            have f2 := z2.froz 2
            have f3 := z2.froz 3
            have HZ := Lib.hid (And.intro z2 (And.intro zo (And.intro zp (And.intro zr zb))))
            clear z1 z2 zo zp zr zb ht2
            have y6 := (((HZ.out.1.set 0 (.slice Ar t.rs.length cr)).set 1 (.slice Ah (rdF t.ig t.kp ids).1.length ch)).set 2 (.slice Am (rdF t.ig t.kp ids).2.1.length cm)).set 3 (.slice Ap (rdF t.ig t.kp ids).2.2.length cp)
            have hf := (((Fz.set (X := fun k => k = w.heap.size + 1) wr (w.heap.size + 1) 0 (.slice Ar t.rs.length cr) rfl).trans (Fz.set _ (w.heap.size + 1) 1 (.slice Ah (rdF t.ig t.kp ids).1.length ch) rfl)).trans (Fz.set _ (w.heap.size + 1) 2 (.slice Am (rdF t.ig t.kp ids).2.1.length cm) rfl)).trans (Fz.set _ (w.heap.size + 1) 3 (.slice Ap (rdF t.ig t.kp ids).2.2.length cp) rfl)
            have hb6 := hf.below (B := w.heap.size) (by have := HZ.out.2.2.2.2.size; omega) (fun k hk e => by omega)
            have t0 := y6.cell 0
            have t1 := y6.cell 1
            have t2 := y6.cell 2
            have t3 := y6.cell 3
            simp at t0 t1 t2 t3
            have HY := Lib.hid (And.intro hf hb6)
            clear hf hb6 y6
            go_wp2_with fail
            have ro := RdO.of (t := t) HZ.out.2.1 HZ.out.2.2.1 HZ.out.2.2.2.1 HY.out.1 HY.out.2
            refine bodyPost_ret (v := .agg #[.slice Ar t.rs.length cr, .slice Ah (rdF t.ig t.kp ids).1.length ch, .slice Am (rdF t.ig t.kp ids).2.1.length cm, .slice Ap (rdF t.ig t.kp ids).2.2.length cp]) ?_ rfl ⟨L2, _, _, _, _, rfl, by rw [show knownT t = t from by unfold knownT; rw [HR.out]; rfl]; exact ro, HZ.out.2.2.2.2.trans HY.out.2⟩
            clear ro
            simp [results, Try.results48, go_sem, t0, t1, t2, t3]
  | false =>
    go_enter Try.func48, Try.ntmps48
    go_wp2_with fail
    rw [HW.out]
    refine CR.out.mono ?_
    rintro r w1 ⟨rfl, hb1⟩
    have hs := HH.out.2.2.1
    have hs1 := hb1.size
    have x1 := HH.out.2.2.2.1.on hb1
    have x2 := HH.out.2.2.2.2.on hb1
    have d0 := x1.cell 0
    have d1 := x1.cell 1
    have d2 := x1.cell 2
    simp at d0 d1 d2
    have f0 := x1.froz 0
    have f1 := x1.froz 1
    have f2 := x1.froz 2
    have hf := ((Fz.set (X := fun k => k = w.heap.size) w1 w.heap.size 0 (.slice none 0 0) rfl).trans (Fz.set _ w.heap.size 1 (.slice none 0 0) rfl)).trans (Fz.set _ w.heap.size 2 (.slice none 0 0) rfl)
    have x1' := ((x1.set 0 (.slice none 0 0)).set 1 (.slice none 0 0)).set 2 (.slice none 0 0)
    have x2' := hf.cells (by omega) x2
    have hbf := hf.below (B := w.heap.size) (by omega) (fun k hk e => by omega)
    have hsf := hf.size
    obtain ⟨w2, hw2⟩ : ∃ w2, ((w1.setCell ⟨w.heap.size, 0, none⟩ (.slice none 0 0)).setCell ⟨w.heap.size, 1, none⟩ (.slice none 0 0)).setCell ⟨w.heap.size, 2, none⟩ (.slice none 0 0) = w2 := ⟨_, rfl⟩
    have hsz : w2.heap.size = w1.heap.size := by rw [← hw2]; simp
    rw [hw2] at x1' x2' hbf
    obtain ⟨W3, hW3⟩ : ∃ W3, (w2.alloc (.cells #[.int .i64 36] 3)).alloc (.cells #[.slice none 0 0, .slice none 0 0, .slice (some ⟨w1.heap.size, 0, none⟩) 1 1, .slice none 0 0] 109) = W3 := ⟨_, rfl⟩
    have bA : Below w2.heap.size w2 W3 := by rw [← hW3]; exact ((Below.refl _ w2).alloc (Nat.le_refl _) _).alloc (by simp) _
    have hs3 : W3.heap.size = w1.heap.size + 2 := by rw [← hW3, ← hsz]; simp
    have x3 : Cells W3 (w1.heap.size + 1) 109 #[.slice none 0 0, .slice none 0 0, .slice (some ⟨w1.heap.size, 0, none⟩) 1 1, .slice none 0 0] := by
      rw [← hW3]
      have := World.alloc_heap_new (w2.alloc (.cells #[.int .i64 36] 3)) (.cells #[.slice none 0 0, .slice none 0 0, .slice (some ⟨w1.heap.size, 0, none⟩) 1 1, .slice none 0 0] 109)
      rw [World.size_alloc, hsz] at this
      exact this
    have x4 : Cells W3 w1.heap.size 3 #[.int .i64 36] := by rw [← hW3, ← hsz]; exact (Below.heap_alloc _ _ _ (by simp)).trans (World.alloc_heap_new _ _)
    have p0 : W3.cell? ⟨w.heap.size, 2, none⟩ = some (.slice none 0 0) := (x1'.on bA).cell 2
    have bZ : Below w.heap.size w W3 := ((HH.out.2.1.trans (hb1.mono HH.out.2.1.size)).trans hbf).trans (bA.mono (by omega))
    have hbig : w.heap.size + 2 ≤ w1.heap.size := by omega
    have hst : LpR w w1.heap.size #[.slice none 0 0, .slice none 0 0, .slice none 0 0] [] 0 W3 := ⟨.slice none 0 0, [], x1'.on bA, x2'.on bA, x3, x4, World.ownsRow_nil _ _ _ _, ⟨by simp, fun i x cs h1 _ => by simp at h1⟩, bZ, by omega, hbig⟩
    have HST := Lib.hid hst
    have HT := Lib.hid (And.intro (show IS w w.heap.size [] none 0 from ⟨Nat.le_refl _, by unfold maxLen; omega, fun x hx => by simp at hx, fun h => absurd rfl h⟩) (show IS w w.heap.size [] none 0 from ⟨Nat.le_refl _, by unfold maxLen; omega, fun x hx => by simp at hx, fun h => absurd rfl h⟩))
    clear x1 x2 x1' x2' x3 x4 hb1 bA hbf hf bZ hst
    rw [← hW3, ← hw2] at p0
    have HW3 := Lib.hid (hw2 ▸ hW3)
    clear hW3 hw2
    go_wp2_with fail
    rw [HW3.out]
    clear p0
    have hs' : w1.heap.size ≤ W3.heap.size := by omega
    go_loopw [7, 19] (fun _ i wr => i = .int .i64 0 ∧ LpR w w1.heap.size #[.slice none 0 0, .slice none 0 0, .slice none 0 0] [] 0 wr) (fun _ _ _ => 0)
    case atStart => exact ⟨rfl, HST.out⟩
    case round =>
      obtain ⟨rfl, hl2⟩ := hrel
      obtain ⟨vr2, L2, hlp⟩ := hl2.ids [] [] ids rfl
      clear hl2
      have hli := hlp
      have HL := Lib.hid hlp
      clear hlp hli
      obtain ⟨wo, hwo⟩ : ∃ W : World, wr = W := ⟨_, rfl⟩
      rw [hwo] at HL ⊢
      clear hwo
      go_wp2_with fail
      go_loopw [9, 40] (fun _ i wq => ∃ j : Nat, i = .int .i64 j ∧ j ≤ n ∧ LpI w (w1.heap.size + 1) #[.slice none 0 0, .slice none 0 0, .slice none 0 0] ([] : List Ru) vr2 L2 ([] : List Int) ([] : List Int) ids j wq) (fun _ i _ => n - (RowKit.intOf i).toNat)
      case atStart => exact ⟨0, rfl, Nat.zero_le _, HL.out⟩
      case round =>
        obtain ⟨j, rfl, hjn, vh, vm, vp, z1, z2, zo, zp, zr, zb⟩ := hrel
        by_cases hlt2 : j < n
        · obtain ⟨id, hid⟩ : ∃ id, ids[j]? = some id := ⟨ids[j]'(by rw [HI.out.2]; exact hlt2), List.getElem?_eq_getElem _⟩
          have i2 : (j : Int) < (n : Int) := by omega
          obtain ⟨bq2, oq2, rfl, hbl2, hr2⟩ := (HI.out.1.below zb).r (by rintro e; rw [e] at hid; simp at hid)
          have k0 := hr2 j id hid
          have lens := rdF_len ([] : List Int) ([] : List Int) (ids.take j)
          have e0 := rdF_take ([] : List Int) ([] : List Int) ids j id hid
          have hlj : (ids.take j).length = j := by rw [List.length_take, HI.out.2]; omega
          rw [hlj] at lens
          obtain ⟨⟨hs, ms, ps⟩, hS⟩ : ∃ S, rdF ([] : List Int) ([] : List Int) (ids.take j) = S := ⟨_, rfl⟩
          rw [hS] at zr e0 lens
          dsimp only at zr lens
          obtain ⟨l, hl⟩ : ∃ l, ms.getLast? = some l := by
            cases e : ms.getLast? with
            | none => rw [List.getLast?_eq_none_iff] at e; exact absurd e lens.2.2.2
            | some l => exact ⟨l, rfl⟩
          have HZ := Lib.hid (And.intro z1 (And.intro z2 (And.intro zo (And.intro zp (And.intro zr (And.intro zb (And.intro lens (And.intro e0 hl))))))))
          have q0 : ∀ p : Later (fun _ => False) wr, p.W.cell? ⟨w.heap.size, 0, none⟩ = some (.slice none ([] : List Int).length 0) := fun p => cell_later (z1.cell 0) (fun hf => hf) p
          have q1 : ∀ p : Later (fun _ => False) wr, p.W.cell? ⟨w.heap.size, 1, none⟩ = some (.slice none ([] : List Int).length 0) := fun p => cell_later (z1.cell 1) (fun hf => hf) p
          obtain ⟨c, hc⟩ : ∃ c, clsI id = c := ⟨_, rfl⟩
          have C1 : ∀ p : Later (fun _ => False) wr, Calls Try.prog 78 #[.int .i64 id] p.W fun r w' => r = .returned (.int .i64 c) ∧ ∃ q : Later (fun _ => False) wr, w' = q.W := by
            intro p
            refine (class_any id p.W).mono ?_
            rintro r w' ⟨rfl, rfl⟩
            exact ⟨by rw [hc], p, rfl⟩
          have HCC := Lib.hid hc
          clear z1 z2 zo zp zr zb lens e0 hl hS hr2 hid hlj hc
          go_wp2_with fail
          refine wp_region_mix (fun i => if i = 1 then 1 else if i = 6 then 3 else 0) [0, 1, 2, 3, 4, 5] [6] (fun w' => ∃ p : Later (fun _ => False) wr, w' = p.W) (by kernel_rfl) (by kernel_rfl) ⟨⟨_, Fz.drew wr⟩, rfl⟩ ?_
          simp only [opsAt, List.filterMap_cons, List.filterMap_nil, List.getElem?_toArray, List.getElem?_cons_zero, List.getElem?_cons_succ]
          change wpQuiet _ _ _ _ [_, _, _, _, _, _] _
          repeat (go_big_quiet_step (exact C1 _))
          refine wpQuiet_nil ?_
          intro _ hw'
          obtain ⟨p, hw''⟩ := hw'
          subst hw''
          have hz5 := p.h
          clear q0 q1 C1
          obtain ⟨W5, hW5⟩ : ∃ V, p.W = V := ⟨_, rfl⟩
          rw [hW5] at hz5 ⊢
          clear hW5
          clear p
          have bt := hz5.below (Nat.le_refl wr.heap.size) (fun _ _ hf => hf)
          have r5 := HZ.out.2.2.2.2.1.below bt
          have zb := HZ.out.2.2.2.2.2.1
          have zbs := zb.size
          have bt' := bt.mono zbs
          have zb5 := zb.trans bt'
          have AD := add_any (w.heap.size + 2) (w1.heap.size + 1) (fun k => vr2.ownBlock = some k) vr2 hs ms ps vh vm vp c ([] : List Int) none 0 ([] : List Int) none 0 l W5 r5 ((HT.out.1.below zb5).mono zb5.size) ((HT.out.2.below zb5).mono zb5.size) HZ.out.2.2.2.2.2.2.2.2 (by rw [← HCC.out]; exact clsI_64 _) (by have := HZ.out.2.2.2.2.2.2.1.1; omega) (by have := HZ.out.2.2.2.2.2.2.1.2.2.1; omega) (by have := HZ.out.2.2.2.2.2.2.1.2.1; omega)
          have HB := Lib.hid (And.intro bt (And.intro bt' zb5))
          clear r5 zb zbs bt bt' zb5
          refine wpSeqM_step rfl ?_
          go_wp2_with fail
          refine AD.mono ?_
          rintro r w7 ⟨rfl, H, vh', vm', vp', hH, r7, f7⟩
          clear AD
          have hend : LpI w (w1.heap.size + 1) #[.slice none 0 0, .slice none 0 0, .slice none 0 0] ([] : List Ru) vr2 L2 ([] : List Int) ([] : List Int) ids (j + 1) w7 := by
            have b7 := f7.below (B := w.heap.size) (by have := HB.out.2.2.size; omega) (fun k hk e => by omega)
            refine ⟨vh', vm', vp', f7.cells (fun e => by omega) (HZ.out.1.on HB.out.1), f7.cells (fun e => by omega) (HZ.out.2.1.on HB.out.1), own_fz (ownsRow_below HZ.out.2.2.1 HB.out.1) f7 (fun k e he => he.2 e), HZ.out.2.2.2.1.below (HB.out.2.1.trans b7), ?_, HB.out.2.2.trans b7⟩
            rw [HZ.out.2.2.2.2.2.2.2.1]
            have hS : rdS ([] : List Int) ([] : List Int) (hs, ms, ps) id = (hs ++ [H], (if H then ms else ms ++ [c]), ps ++ [(ms.length : Int)]) := by
              unfold rdS
              dsimp only
              rw [HZ.out.2.2.2.2.2.2.2.2, HCC.out]
              dsimp only [Option.getD]
              subst hH
              rfl
            rw [hS]
            exact r7
          have HEND := Lib.hid hend
          clear hend r7 f7 hH
          go_wp2_with fail
          unfold wpSeqM
          go_wp2_with fail
          go_roundw
          case rel => exact ⟨j + 1, by go_num, by omega, HEND.out⟩
          case measure => simp [RowKit.intOf]; omega
        · have hjn' : j = n := by omega
          subst hjn'
          have i2 : ¬ (j : Int) < (j : Int) := by omega
          have ht2 : ids.take j = ids := by rw [← HI.out.2, List.take_length]
          rw [ht2] at zr
          obtain ⟨Ar, cr, rfl⟩ := own_formN zo
          obtain ⟨Ah, ch, rfl⟩ := own_formN zr.oh
          obtain ⟨Am, cm, rfl⟩ := own_formN zr.om
          obtain ⟨Ap, cp, rfl⟩ := own_formN zr.op
          have e0 := zr.c.cell 0
          have e1 := zr.c.cell 1
          have e2 := zr.c.cell 2
          have e3 := zr.c.cell 3
          simp at e0 e1 e2 e3
          have dd0 := z2.cell 0
          have dd1 := z2.cell 1
          have dd2 := z2.cell 2
          have dd3 := z2.cell 3
          simp at dd0 dd1 dd2 dd3
          have f0 := z2.froz 0
          have f1 := z2.froz 1
          have f2 := z2.froz 2
          have f3 := z2.froz 3
          have HZ := Lib.hid (And.intro z2 (And.intro zo (And.intro zp (And.intro zr zb))))
          clear z1 z2 zo zp zr zb ht2
          have y6 := (((HZ.out.1.set 0 (.slice Ar ([] : List Ru).length cr)).set 1 (.slice Ah (rdF ([] : List Int) ([] : List Int) ids).1.length ch)).set 2 (.slice Am (rdF ([] : List Int) ([] : List Int) ids).2.1.length cm)).set 3 (.slice Ap (rdF ([] : List Int) ([] : List Int) ids).2.2.length cp)
          have hf := (((Fz.set (X := fun k => k = w.heap.size + 1) wr (w.heap.size + 1) 0 (.slice Ar ([] : List Ru).length cr) rfl).trans (Fz.set _ (w.heap.size + 1) 1 (.slice Ah (rdF ([] : List Int) ([] : List Int) ids).1.length ch) rfl)).trans (Fz.set _ (w.heap.size + 1) 2 (.slice Am (rdF ([] : List Int) ([] : List Int) ids).2.1.length cm) rfl)).trans (Fz.set _ (w.heap.size + 1) 3 (.slice Ap (rdF ([] : List Int) ([] : List Int) ids).2.2.length cp) rfl)
          have hb6 := hf.below (B := w.heap.size) (by have := HZ.out.2.2.2.2.size; omega) (fun k hk e => by omega)
          have t0 := y6.cell 0
          have t1 := y6.cell 1
          have t2 := y6.cell 2
          have t3 := y6.cell 3
          simp at t0 t1 t2 t3
          have HY := Lib.hid (And.intro hf hb6)
          clear hf hb6 y6
          go_wp2_with fail
          have ro := RdO.of (t := ⟨[], [], []⟩) HZ.out.2.1 HZ.out.2.2.1 HZ.out.2.2.2.1 HY.out.1 HY.out.2
          refine bodyPost_ret (v := .agg #[.slice Ar ([] : List Ru).length cr, .slice Ah (rdF ([] : List Int) ([] : List Int) ids).1.length ch, .slice Am (rdF ([] : List Int) ([] : List Int) ids).2.1.length cm, .slice Ap (rdF ([] : List Int) ([] : List Int) ids).2.2.length cp]) ?_ rfl ⟨L2, _, _, _, _, rfl, by rw [show knownT t = ⟨[], [], []⟩ from by unfold knownT; rw [HR.out]; rfl]; exact ro, HZ.out.2.2.2.2.trans HY.out.2⟩
          clear ro
          simp [results, Try.results48, go_sem, t0, t1, t2, t3]
end Go.Proofs.Ytegkogadceodlaa

namespace Go.Proofs.Ytegkogadceodlaa
open Go.RowKit Go.Shelf Go.Lib Go.Sort

/-- A side that is one leaf. -/
def sd1 (k c : Int) (A : Option Addr) (cap : Nat) : Array Value := #[.int .i64 k, .int .i64 c, .slice A 0 cap, .int .i64 1, .int .i64 1, .bool true]
structure LeafOk (w : World) (k c : Int) (A : Option Addr) (cap : Nat) : Prop where
  h0 : 0 ≤ k
  h3 : k ≤ 3
  n : Nd w w.heap.size (.mk k c []) (.agg #[.int .i64 k, .int .i64 c, .slice A 0 cap])
  r : rightE (.mk k c []) = true
theorem LeafOk.on {w w' : World} {k c : Int} {A : Option Addr} {cap : Nat} (h : LeafOk w k c A cap) (hb : Below w.heap.size w w') : LeafOk w' k c A cap := ⟨h.h0, h.h3, h.n.on hb, h.r⟩
set_option maxRecDepth 100000 in
set_option maxHeartbeats 8000000 in
theorem beg1_any (k c m : Int) (A : Option Addr) (cap s mb g o n cp : Nat) (w : World) (hl : LeafOk w k c A cap) (hs : Cells w s 131 (sd1 k c A cap)) (hmb : Cells w mb 25 #[.slice (some ⟨g, o, none⟩) n cp]) (hn : 1 ≤ n) (hc : n ≤ cp)
    (hm : w.cell? ⟨g, o, none⟩ = some (.int .i64 m)) :
    Calls Try.prog 101 #[.int .i64 1, .pointer (some ⟨s, 0, none⟩), .pointer (some ⟨mb, 0, none⟩)] w fun e w' => e = .returned (.bool (takesG k c m)) ∧ Below w.heap.size w w' := by
  have C1 : ∀ d os, Calls Try.prog 15 #[.agg #[.int .i64 k, .int .i64 c, .slice A 0 cap], .slice (some ⟨g, o, none⟩) 1 cp] (grow (redrawn w d) os) fun e w'' => e = .returned (.bool (takesG k c m)) ∧ ∃ p : Regrown, w'' = grow (redrawn w p.d) p.os :=
    fun d os => Calls.regrown_of (by
      have hl' := hl.on (below_regrown w d os)
      exact matchLeaf_any k c m A cap g o cp _ hl'.h0 hl'.h3 hl'.n hl'.r (cell_regrown hm d os))
  have s0 := cell_regrown (show w.cell? ⟨s, 0, none⟩ = some (.int .i64 k) from hs.cell 0)
  have s1 := cell_regrown (show w.cell? ⟨s, 1, none⟩ = some (.int .i64 c) from hs.cell 1)
  have s2 := cell_regrown (show w.cell? ⟨s, 2, none⟩ = some (.slice A 0 cap) from hs.cell 2)
  have q0 := cell_regrown (show w.cell? ⟨mb, 0, none⟩ = some (.slice (some ⟨g, o, none⟩) n cp) from hmb.cell 0)
  have i1 : (1 : Int) ≤ (cp : Int) := by omega
  obtain ⟨R, hR⟩ : ∃ R, takesG k c m = R := ⟨_, rfl⟩
  rw [hR] at C1 ⊢
  clear hs hmb hm hl hR
  go_enter Try.func101, Try.ntmps101
  go_wp2_with fail
  refine wp_region_quiet_below (by kernel_rfl) (by kernel_rfl) ?_
  repeat (go_big_quiet_step (exact C1 _ _))
  refine wpQuiet_nil ?_
  intro _ hw'
  obtain ⟨⟨dq, osq⟩, hw''⟩ := hw'
  subst hw''
  have HZ := Lib.hid (below_regrown w dq osq)
  clear s0 s1 s2 q0 C1
  go_wp2_with fail
  go_ret
  exact ⟨rfl, HZ.out⟩
set_option maxRecDepth 100000 in
set_option maxHeartbeats 8000000 in
theorem clo1_any (k c m : Int) (A : Option Addr) (cap s mb g o q cp : Nat) (w : World) (hl : LeafOk w k c A cap) (hs : Cells w s 131 (sd1 k c A cap)) (hmb : Cells w mb 25 #[.slice (some ⟨g, o, none⟩) (q + 1) cp]) (hc : q + 1 ≤ cp) (hq : q ≤ 1000000)
    (hm : w.cell? ⟨g, o + q, none⟩ = some (.int .i64 m)) :
    Calls Try.prog 102 #[.int .i64 1, .pointer (some ⟨s, 0, none⟩), .pointer (some ⟨mb, 0, none⟩)] w fun e w' => e = .returned (.bool (takesG k c m)) ∧ Below w.heap.size w w' := by
  have C1 : ∀ d os, Calls Try.prog 15 #[.agg #[.int .i64 k, .int .i64 c, .slice A 0 cap], .slice (some ⟨g, o + q, none⟩) 1 (cp - q)] (grow (redrawn w d) os) fun e w'' => e = .returned (.bool (takesG k c m)) ∧ ∃ p : Regrown, w'' = grow (redrawn w p.d) p.os :=
    fun d os => Calls.regrown_of (by
      have hl' := hl.on (below_regrown w d os)
      exact matchLeaf_any k c m A cap g (o + q) (cp - q) _ hl'.h0 hl'.h3 hl'.n hl'.r (cell_regrown hm d os))
  have s0 := cell_regrown (show w.cell? ⟨s, 0, none⟩ = some (.int .i64 k) from hs.cell 0)
  have s1 := cell_regrown (show w.cell? ⟨s, 1, none⟩ = some (.int .i64 c) from hs.cell 1)
  have s2 := cell_regrown (show w.cell? ⟨s, 2, none⟩ = some (.slice A 0 cap) from hs.cell 2)
  obtain ⟨n, hn⟩ : ∃ n, q + 1 = n := ⟨_, rfl⟩
  rw [hn] at hmb hc
  have q0 := cell_regrown (show w.cell? ⟨mb, 0, none⟩ = some (.slice (some ⟨g, o, none⟩) n cp) from hmb.cell 0)
  have i1 : (n : Int) - 1 = (q : Int) := by omega
  have i2 : (q : Int) ≤ (n : Int) := by omega
  have i3 : n - q = 1 := by omega
  have i4 : (n : Int) ≤ (cp : Int) := by omega
  obtain ⟨R, hR⟩ : ∃ R, takesG k c m = R := ⟨_, rfl⟩
  rw [hR] at C1 ⊢
  clear hs hmb hm hl hR
  go_enter Try.func102, Try.ntmps102
  go_wp2_with fail
  refine wp_region_quiet_below (by kernel_rfl) (by kernel_rfl) ?_
  repeat (go_big_quiet_step (first | exact C1 _ _ | (rw [i3]; exact C1 _ _)))
  refine wpQuiet_nil ?_
  intro _ hw'
  obtain ⟨⟨dq, osq⟩, hw''⟩ := hw'
  subst hw''
  have HZ := Lib.hid (below_regrown w dq osq)
  clear s0 s1 s2 q0 C1
  go_wp2_with fail
  go_ret
  exact ⟨rfl, HZ.out⟩
set_option maxRecDepth 100000 in
set_option maxHeartbeats 8000000 in
theorem search101_any (k c : Int) (A : Option Addr) (cap n : Nat) (p1 p2 : Addr) (R : Bool) (w : World) (hn : 1 ≤ n)
    (CF : ∀ W, Below w.heap.size w W → Calls Try.prog 101 #[.int .i64 1, .pointer (some p1), .pointer (some p2)] W fun e w' => e = .returned (.bool R) ∧ Below W.heap.size W w') :
    Calls Try.prog 100 #[.agg (sd1 k c A cap), .int .i64 (n : Int), .func (.func 101) #[] #[.pointer (some p1), .pointer (some p2)]] w fun e w' => e = .returned (.bool R) ∧ Below w.heap.size w w' := by
  unfold sd1
  obtain ⟨W1, hW1⟩ : ∃ V, w.alloc (.cells #[.int .i64 k, .int .i64 c, .slice A 0 cap, .int .i64 1, .int .i64 1, .bool true] 131) = V := ⟨_, rfl⟩
  have b1 : Below w.heap.size w W1 := by rw [← hW1]; exact below_new _ _
  have x1 : Cells W1 w.heap.size 131 #[.int .i64 k, .int .i64 c, .slice A 0 cap, .int .i64 1, .int .i64 1, .bool true] := by rw [← hW1]; exact cells_new _ _ _
  have hmin : min (n : Int) 1 = 1 := by omega
  have hmin2 : min n 1 = 1 := by omega
  have HW := Lib.hid (And.intro hW1 (And.intro b1 (And.intro x1 CF)))
  clear hW1 b1 x1 CF
  go_enter Try.func100, Try.ntmps100
  go_wp2_with fail
  rw [HW.out.1]
  go_loopw [7] (fun i wr => ((i = .int .i64 1) ∨ (i = .int .i64 2 ∧ R = false)) ∧ Below w.heap.size w wr) (fun i _ => 3 - (RowKit.intOf i).toNat)
  case atStart => exact ⟨.inl rfl, HW.out.2.1⟩
  case round =>
    obtain ⟨hi, hb⟩ := hrel
    rcases hi with rfl | ⟨rfl, rfl⟩
    · have C := HW.out.2.2.2 wr hb
      have HB := Lib.hid hb
      clear hb
      go_wp2_with fail
      refine C.mono ?_
      rintro r w2 ⟨rfl, hb2⟩
      have HB2 := Lib.hid (HB.out.trans (hb2.mono HB.out.size))
      clear C hb2
      cases R with
      | true =>
        go_wp2_with fail
        go_ret
        exact ⟨rfl, HB2.out⟩
      | false =>
        go_wp2_with fail
        go_roundw
        case rel => exact ⟨.inr ⟨by simp, by trivial⟩, HB2.out⟩
        case measure => simp [RowKit.intOf]
    · have HB := Lib.hid hb
      clear hb
      go_wp2_with fail
      go_ret
      exact ⟨rfl, HB.out⟩
set_option maxRecDepth 100000 in
set_option maxHeartbeats 8000000 in
theorem search102_any (k c : Int) (A : Option Addr) (cap n : Nat) (p1 p2 : Addr) (R : Bool) (w : World) (hn : 1 ≤ n)
    (CF : ∀ W, Below w.heap.size w W → Calls Try.prog 102 #[.int .i64 1, .pointer (some p1), .pointer (some p2)] W fun e w' => e = .returned (.bool R) ∧ Below W.heap.size W w') :
    Calls Try.prog 100 #[.agg (sd1 k c A cap), .int .i64 (n : Int), .func (.func 102) #[] #[.pointer (some p1), .pointer (some p2)]] w fun e w' => e = .returned (.bool R) ∧ Below w.heap.size w w' := by
  unfold sd1
  obtain ⟨W1, hW1⟩ : ∃ V, w.alloc (.cells #[.int .i64 k, .int .i64 c, .slice A 0 cap, .int .i64 1, .int .i64 1, .bool true] 131) = V := ⟨_, rfl⟩
  have b1 : Below w.heap.size w W1 := by rw [← hW1]; exact below_new _ _
  have x1 : Cells W1 w.heap.size 131 #[.int .i64 k, .int .i64 c, .slice A 0 cap, .int .i64 1, .int .i64 1, .bool true] := by rw [← hW1]; exact cells_new _ _ _
  have hmin : min (n : Int) 1 = 1 := by omega
  have hmin2 : min n 1 = 1 := by omega
  have HW := Lib.hid (And.intro hW1 (And.intro b1 (And.intro x1 CF)))
  clear hW1 b1 x1 CF
  go_enter Try.func100, Try.ntmps100
  go_wp2_with fail
  rw [HW.out.1]
  go_loopw [7] (fun i wr => ((i = .int .i64 1) ∨ (i = .int .i64 2 ∧ R = false)) ∧ Below w.heap.size w wr) (fun i _ => 3 - (RowKit.intOf i).toNat)
  case atStart => exact ⟨.inl rfl, HW.out.2.1⟩
  case round =>
    obtain ⟨hi, hb⟩ := hrel
    rcases hi with rfl | ⟨rfl, rfl⟩
    · have C := HW.out.2.2.2 wr hb
      have HB := Lib.hid hb
      clear hb
      go_wp2_with fail
      refine C.mono ?_
      rintro r w2 ⟨rfl, hb2⟩
      have HB2 := Lib.hid (HB.out.trans (hb2.mono HB.out.size))
      clear C hb2
      cases R with
      | true =>
        go_wp2_with fail
        go_ret
        exact ⟨rfl, HB2.out⟩
      | false =>
        go_wp2_with fail
        go_roundw
        case rel => exact ⟨.inr ⟨by simp, by trivial⟩, HB2.out⟩
        case measure => simp [RowKit.intOf]
    · have HB := Lib.hid hb
      clear hb
      go_wp2_with fail
      go_ret
      exact ⟨rfl, HB.out⟩
set_option maxRecDepth 100000 in
set_option maxHeartbeats 8000000 in
theorem begins_any (k c m : Int) (A : Option Addr) (cap g o q cp : Nat) (w : World) (hl : LeafOk w k c A cap) (hc : q + 1 ≤ cp) (hq : q ≤ 1000000) (hm : w.cell? ⟨g, o, none⟩ = some (.int .i64 m)) :
    Calls Try.prog 83 #[.agg (sd1 k c A cap), .slice (some ⟨g, o, none⟩) (q + 1) cp] w fun e w' => e = .returned (.bool (takesG k c m)) ∧ Below w.heap.size w w' := by
  obtain ⟨W1, hW1⟩ : ∃ V, (w.alloc (.cells (sd1 k c A cap) 131)).alloc (.cells #[.slice (some ⟨g, o, none⟩) (q + 1) cp] 25) = V := ⟨_, rfl⟩
  have b1 : Below w.heap.size w W1 := by rw [← hW1]; exact ((Below.refl _ w).alloc (Nat.le_refl _) _).alloc (by simp) _
  have x1 : Cells W1 w.heap.size 131 (sd1 k c A cap) := by rw [← hW1]; exact (Below.heap_alloc _ _ _ (by simp)).trans (World.alloc_heap_new _ _)
  have x2 : Cells W1 (w.heap.size + 1) 25 #[.slice (some ⟨g, o, none⟩) (q + 1) cp] := by
    rw [← hW1]
    have := World.alloc_heap_new (w.alloc (.cells (sd1 k c A cap) 131)) (.cells #[.slice (some ⟨g, o, none⟩) (q + 1) cp] 25)
    rw [World.size_alloc] at this
    exact this
  have CS := search101_any k c A cap (q + 1) ⟨w.heap.size, 0, none⟩ ⟨w.heap.size + 1, 0, none⟩ (takesG k c m) W1 (by omega) (fun W hW => beg1_any k c m A cap w.heap.size (w.heap.size + 1) g o (q + 1) cp W ((hl.on b1).on hW) (x1.on hW) (x2.on hW) (by omega) hc (((hW.cell (p := ⟨g, o, none⟩) (by have := cell_lt hm; have := b1.size; simp at *; omega)).trans ((b1.cell (p := ⟨g, o, none⟩) (cell_lt hm)).trans hm))))
  obtain ⟨R, hR⟩ : ∃ R, takesG k c m = R := ⟨_, rfl⟩
  rw [hR] at CS ⊢
  obtain ⟨n, hn⟩ : ∃ n, q + 1 = n := ⟨_, rfl⟩
  rw [hn] at CS hW1 ⊢
  unfold sd1 at CS hW1 ⊢
  have HB := Lib.hid (And.intro b1 hW1)
  clear x1 x2 b1 hl hm hR hW1
  go_enter Try.func83, Try.ntmps83
  go_wp2_with fail
  rw [HB.out.2]
  refine CS.mono ?_
  rintro r w2 ⟨rfl, hb2⟩
  have HB2 := Lib.hid (HB.out.1.trans (hb2.mono HB.out.1.size))
  clear CS hb2
  go_wp2_with fail
  go_ret
  exact ⟨rfl, HB2.out⟩
set_option maxRecDepth 100000 in
set_option maxHeartbeats 8000000 in
theorem closes_any (k c m : Int) (A : Option Addr) (cap g o q cp : Nat) (w : World) (hl : LeafOk w k c A cap) (hc : q + 1 ≤ cp) (hq : q ≤ 1000000) (hm : w.cell? ⟨g, o + q, none⟩ = some (.int .i64 m)) :
    Calls Try.prog 84 #[.agg (sd1 k c A cap), .slice (some ⟨g, o, none⟩) (q + 1) cp] w fun e w' => e = .returned (.bool (takesG k c m)) ∧ Below w.heap.size w w' := by
  obtain ⟨W1, hW1⟩ : ∃ V, (w.alloc (.cells (sd1 k c A cap) 131)).alloc (.cells #[.slice (some ⟨g, o, none⟩) (q + 1) cp] 25) = V := ⟨_, rfl⟩
  have b1 : Below w.heap.size w W1 := by rw [← hW1]; exact ((Below.refl _ w).alloc (Nat.le_refl _) _).alloc (by simp) _
  have x1 : Cells W1 w.heap.size 131 (sd1 k c A cap) := by rw [← hW1]; exact (Below.heap_alloc _ _ _ (by simp)).trans (World.alloc_heap_new _ _)
  have x2 : Cells W1 (w.heap.size + 1) 25 #[.slice (some ⟨g, o, none⟩) (q + 1) cp] := by
    rw [← hW1]
    have := World.alloc_heap_new (w.alloc (.cells (sd1 k c A cap) 131)) (.cells #[.slice (some ⟨g, o, none⟩) (q + 1) cp] 25)
    rw [World.size_alloc] at this
    exact this
  have CS := search102_any k c A cap (q + 1) ⟨w.heap.size, 0, none⟩ ⟨w.heap.size + 1, 0, none⟩ (takesG k c m) W1 (by omega) (fun W hW => clo1_any k c m A cap w.heap.size (w.heap.size + 1) g o q cp W ((hl.on b1).on hW) (x1.on hW) (x2.on hW) hc hq (((hW.cell (p := ⟨g, o + q, none⟩) (by have := cell_lt hm; have := b1.size; simp at *; omega)).trans ((b1.cell (p := ⟨g, o + q, none⟩) (cell_lt hm)).trans hm))))
  obtain ⟨R, hR⟩ : ∃ R, takesG k c m = R := ⟨_, rfl⟩
  rw [hR] at CS ⊢
  obtain ⟨n, hn⟩ : ∃ n, q + 1 = n := ⟨_, rfl⟩
  rw [hn] at CS hW1 ⊢
  unfold sd1 at CS hW1 ⊢
  have HB := Lib.hid (And.intro b1 hW1)
  clear x1 x2 b1 hl hm hR hW1
  go_enter Try.func84, Try.ntmps84
  go_wp2_with fail
  rw [HB.out.2]
  refine CS.mono ?_
  rintro r w2 ⟨rfl, hb2⟩
  have HB2 := Lib.hid (HB.out.1.trans (hb2.mono HB.out.1.size))
  clear CS hb2
  go_wp2_with fail
  go_ret
  exact ⟨rfl, HB2.out⟩
end Go.Proofs.Ytegkogadceodlaa

namespace Go.Proofs.Ytegkogadceodlaa
open Go.RowKit Go.Shelf Go.Lib Go.Sort

/-- A pattern of two leaves. -/
def pt1 (k1 c1 : Int) (A1 : Option Addr) (d1 : Nat) (k2 c2 : Int) (A2 : Option Addr) (d2 : Nat) (b : Bool) : Array Value :=
  #[.int .i64 k1, .int .i64 c1, .slice A1 0 d1, .int .i64 1, .int .i64 1, .bool true, .int .i64 k2, .int .i64 c2, .slice A2 0 d2, .int .i64 1, .int .i64 1, .bool true, .bool b]
set_option maxRecDepth 100000 in
set_option maxHeartbeats 8000000 in
theorem wh1_any (k1 c1 k2 c2 m1 m2 : Int) (A1 A2 : Option Addr) (d1 d2 : Nat) (b : Bool) (ma mb g oa qa pa ob qb pb : Nat) (w : World) (hl1 : LeafOk w k1 c1 A1 d1) (hl2 : LeafOk w k2 c2 A2 d2)
    (ha : Cells w ma 25 #[.slice (some ⟨g, oa, none⟩) (qa + 1) pa]) (hb : Cells w mb 25 #[.slice (some ⟨g, ob, none⟩) (qb + 1) pb]) (la : qa + 1 ≤ pa) (lb : qb + 1 ≤ pb) (za : qa ≤ 1000000) (zb : qb ≤ 1000000)
    (ea : w.cell? ⟨g, oa, none⟩ = some (.int .i64 m2)) (eb : w.cell? ⟨g, ob + qb, none⟩ = some (.int .i64 m1)) :
    Calls Try.prog 82 #[.agg (pt1 k1 c1 A1 d1 k2 c2 A2 d2 b), .pointer (some ⟨ma, 0, none⟩), .pointer (some ⟨mb, 0, none⟩)] w fun e w' => e = .returned (.bool (takesG k2 c2 m2 && takesG k1 c1 m1)) ∧ Below w.heap.size w w' := by
  obtain ⟨W1, hW1⟩ : ∃ V, w.alloc (.cells (pt1 k1 c1 A1 d1 k2 c2 A2 d2 b) 134) = V := ⟨_, rfl⟩
  have b1 : Below w.heap.size w W1 := by rw [← hW1]; exact below_new _ _
  have x1 : Cells W1 w.heap.size 134 (pt1 k1 c1 A1 d1 k2 c2 A2 d2 b) := by rw [← hW1]; exact cells_new _ _ _
  have CB := begins_any k2 c2 m2 A2 d2 g oa qa pa W1 (hl2.on b1) la za ((b1.cell (p := ⟨g, oa, none⟩) (cell_lt ea)).trans ea)
  have CC := fun W (hW : Below W1.heap.size W1 W) => closes_any k1 c1 m1 A1 d1 g ob qb pb W ((hl1.on b1).on hW) lb zb ((hW.cell (p := ⟨g, ob + qb, none⟩) (by have := cell_lt eb; have := b1.size; simp at *; omega)).trans ((b1.cell (p := ⟨g, ob + qb, none⟩) (cell_lt eb)).trans eb))
  obtain ⟨R2, hR2⟩ : ∃ R, takesG k2 c2 m2 = R := ⟨_, rfl⟩
  obtain ⟨R1, hR1⟩ : ∃ R, takesG k1 c1 m1 = R := ⟨_, rfl⟩
  rw [hR2] at CB ⊢
  simp only [hR1] at CC
  rw [hR1]
  have p0 : W1.cell? ⟨ma, 0, none⟩ = some (.slice (some ⟨g, oa, none⟩) (qa + 1) pa) := (ha.on b1).cell 0
  obtain ⟨na, hna⟩ : ∃ n, qa + 1 = n := ⟨_, rfl⟩
  obtain ⟨nb, hnb⟩ : ∃ n, qb + 1 = n := ⟨_, rfl⟩
  rw [hna] at p0 CB
  have HB := Lib.hid (And.intro b1 (And.intro x1 (hb.on b1)))
  have HC := Lib.hid CC
  rw [hnb] at HB HC
  unfold pt1 at hW1 HB ⊢
  unfold sd1 at CB HC
  have HW := Lib.hid hW1
  have t6 := x1.cell 6
  have t7 := x1.cell 7
  have t8 := x1.cell 8
  have t9 := x1.cell 9
  have t10 := x1.cell 10
  have t11 := x1.cell 11
  simp [pt1] at t6 t7 t8 t9 t10 t11
  rw [← hW1] at t6 t7 t8 t9 t10 t11 p0
  clear ha hb ea eb hl1 hl2 b1 x1 CC hR1 hR2 hW1 hna hnb
  go_enter Try.func82, Try.ntmps82
  go_wp2_with fail
  rw [HW.out]
  refine CB.mono ?_
  rintro r w2 ⟨rfl, hb2⟩
  clear CB t6 t7 t8 t9 t10 t11 p0
  cases R2 with
  | false =>
    have HZ := Lib.hid (HB.out.1.trans (hb2.mono HB.out.1.size))
    clear hb2
    go_wp2_with fail
    go_ret
    exact ⟨rfl, HZ.out⟩
  | true =>
    have x2 := HB.out.2.1.on hb2
    have t0 := x2.cell 0
    have t1 := x2.cell 1
    have t2 := x2.cell 2
    have t3 := x2.cell 3
    have t4 := x2.cell 4
    have t5 := x2.cell 5
    simp at t0 t1 t2 t3 t4 t5
    have p1 : w2.cell? ⟨mb, 0, none⟩ = some (.slice (some ⟨g, ob, none⟩) nb pb) := (HB.out.2.2.on hb2).cell 0
    have CC := HC.out w2 hb2
    have HZ := Lib.hid (HB.out.1.trans (hb2.mono HB.out.1.size))
    clear hb2 x2
    go_wp2_with fail
    refine CC.mono ?_
    rintro r w3 ⟨rfl, hb3⟩
    have HZ3 := Lib.hid (HZ.out.trans (hb3.mono HZ.out.size))
    clear hb3 CC
    go_wp2_with fail
    go_ret
    exact ⟨by simp, HZ3.out⟩
end Go.Proofs.Ytegkogadceodlaa

namespace Go.Proofs.Ytegkogadceodlaa
open Go.RowKit Go.Shelf Go.Lib Go.Sort

set_option maxRecDepth 100000 in
set_option maxHeartbeats 8000000 in
theorem ix1_any (k1 c1 k2 c2 m1 m2 : Int) (A1 A2 : Option Addr) (d1 d2 : Nat) (b : Bool) (ma mb g oa qa pa ob qb pb r cr : Nat) (w : World) (hl1 : LeafOk w k1 c1 A1 d1) (hl2 : LeafOk w k2 c2 A2 d2)
    (ha : Cells w ma 25 #[.slice (some ⟨g, oa, none⟩) (qa + 1) pa]) (hb : Cells w mb 25 #[.slice (some ⟨g, ob, none⟩) (qb + 1) pb]) (la : qa + 1 ≤ pa) (lb : qb + 1 ≤ pb) (za : qa ≤ 1000000) (zb : qb ≤ 1000000)
    (ea : w.cell? ⟨g, oa, none⟩ = some (.int .i64 m2)) (eb : w.cell? ⟨g, ob + qb, none⟩ = some (.int .i64 m1))
    (er : ∀ (i : Nat) (u : Value), (pt1 k1 c1 A1 d1 k2 c2 A2 d2 b)[i]? = some u → w.cell? ⟨r, i, none⟩ = some u) (_hcr : 1 ≤ cr) :
    Calls Try.prog 81 #[.slice (some ⟨r, 0, none⟩) 1 cr, .func (.func 82) #[] #[.pointer (some ⟨ma, 0, none⟩), .pointer (some ⟨mb, 0, none⟩)]] w fun e w' => e = .returned (.int .i64 (if (takesG k2 c2 m2 && takesG k1 c1 m1) = true then 0 else -1)) ∧ Below w.heap.size w w' := by
  have CW := wh1_any k1 c1 k2 c2 m1 m2 A1 A2 d1 d2 b ma mb g oa qa pa ob qb pb w hl1 hl2 ha hb la lb za zb ea eb
  obtain ⟨R, hR⟩ : ∃ R, (takesG k2 c2 m2 && takesG k1 c1 m1) = R := ⟨_, rfl⟩
  rw [hR] at CW ⊢
  have e0 := er 0 _ rfl
  have e1 := er 1 _ rfl
  have e2 := er 2 _ rfl
  have e3 := er 3 _ rfl
  have e4 := er 4 _ rfl
  have e5 := er 5 _ rfl
  have e6 := er 6 _ rfl
  have e7 := er 7 _ rfl
  have e8 := er 8 _ rfl
  have e9 := er 9 _ rfl
  have e10 := er 10 _ rfl
  have e11 := er 11 _ rfl
  have e12 := er 12 _ rfl
  unfold pt1 at CW
  clear ha hb ea eb hl1 hl2 hR er la lb za zb
  go_enter Try.func81, Try.ntmps81
  go_wp2_with fail
  go_loopw [5, 8] (fun _ i wr => (i = .int .i64 0 ∧ wr = w) ∨ (i = .int .i64 1 ∧ R = false ∧ Below w.heap.size w wr)) (fun _ i _ => 3 - (RowKit.intOf i).toNat)
  case atStart => exact .inl ⟨rfl, rfl⟩
  case round =>
    rcases hrel with ⟨rfl, rfl⟩ | ⟨rfl, rfl, hb⟩
    · go_wp2_with fail
      refine CW.mono ?_
      rintro e w2 ⟨rfl, hb2⟩
      have HB := Lib.hid hb2
      clear hb2 CW
      cases R with
      | true =>
        go_wp2_with fail
        go_ret
        exact ⟨rfl, HB.out⟩
      | false =>
        go_wp2_with fail
        go_roundw
        case rel => exact .inr ⟨by simp, by trivial, HB.out⟩
        case measure => simp [RowKit.intOf]
    · have HB := Lib.hid hb
      clear hb CW
      go_wp2_with fail
      go_ret
      exact ⟨rfl, HB.out⟩
end Go.Proofs.Ytegkogadceodlaa

namespace Go.Proofs.Ytegkogadceodlaa
open Go.RowKit Go.Shelf Go.Lib Go.Sort

/-- A reading with one pattern, of leaves, as it lies at a place. -/
structure Rd1 (w : World) (k1 c1 : Int) (A1 : Option Addr) (d1 : Nat) (k2 c2 : Int) (A2 : Option Addr) (d2 : Nat) (b : Bool) (x r cr gh nh ch gm nm cm gp np cp : Nat) : Prop where
  h1 : LeafOk w k1 c1 A1 d1
  h2 : LeafOk w k2 c2 A2 d2
  hx : Cells w x 109 #[.slice (some ⟨r, 0, none⟩) 1 cr, .slice (some ⟨gh, 0, none⟩) nh ch, .slice (some ⟨gm, 0, none⟩) nm cm, .slice (some ⟨gp, 0, none⟩) np cp]
  hr : ∀ (i : Nat) (u : Value), (pt1 k1 c1 A1 d1 k2 c2 A2 d2 b)[i]? = some u → w.cell? ⟨r, i, none⟩ = some u
  hcr : 1 ≤ cr
  hcm : nm ≤ cm
  hzm : nm ≤ 1000000
theorem Rd1.on {w w' : World} {k1 c1 : Int} {A1 : Option Addr} {d1 : Nat} {k2 c2 : Int} {A2 : Option Addr} {d2 : Nat} {b : Bool} {x r cr gh nh ch gm nm cm gp np cp : Nat} (h : Rd1 w k1 c1 A1 d1 k2 c2 A2 d2 b x r cr gh nh ch gm nm cm gp np cp) (hb : Below w.heap.size w w') : Rd1 w' k1 c1 A1 d1 k2 c2 A2 d2 b x r cr gh nh ch gm nm cm gp np cp :=
  ⟨h.h1.on hb, h.h2.on hb, h.hx.on hb, fun i u hu => (hb.cell (p := ⟨r, i, none⟩) (cell_lt (h.hr i u hu))).trans (h.hr i u hu), h.hcr, h.hcm, h.hzm⟩
set_option maxRecDepth 100000 in
set_option maxHeartbeats 8000000 in
theorem which1_any (k1 c1 : Int) (A1 : Option Addr) (d1 : Nat) (k2 c2 : Int) (A2 : Option Addr) (d2 : Nat) (b : Bool) (x r cr gh nh ch gm nm cm gp np cp i P : Nat) (m1 m2 : Int) (w : World) (h : Rd1 w k1 c1 A1 d1 k2 c2 A2 d2 b x r cr gh nh ch gm nm cm gp np cp)
    (hi : 1 ≤ i) (hih : i < nh) (hip : i < np) (hP : 1 ≤ P) (hPm : P < nm) (eh : w.cell? ⟨gh, i, none⟩ = some (.bool false)) (ep : w.cell? ⟨gp, i, none⟩ = some (.int .i64 (P : Int))) (e2 : w.cell? ⟨gm, P, none⟩ = some (.int .i64 m2)) (e1 : w.cell? ⟨gm, P - 1, none⟩ = some (.int .i64 m1)) :
    Calls Try.prog 51 #[.pointer (some ⟨x, 0, none⟩), .int .i64 (i : Int)] w fun e w' => e = .returned (.int .i64 (if (takesG k2 c2 m2 && takesG k1 c1 m1) = true then 0 else -1)) ∧ Below w.heap.size w w' := by
  obtain ⟨N, hN⟩ : ∃ N : Int, (if (takesG k2 c2 m2 && takesG k1 c1 m1) = true then (0 : Int) else -1) = N := ⟨_, rfl⟩
  rw [hN]
  have HN := Lib.hid hN
  clear hN
  have x0 : w.cell? ⟨x, 0, none⟩ = some (.slice (some ⟨r, 0, none⟩) 1 cr) := h.hx.cell 0
  have x1 : w.cell? ⟨x, 1, none⟩ = some (.slice (some ⟨gh, 0, none⟩) nh ch) := h.hx.cell 1
  have x2 : w.cell? ⟨x, 2, none⟩ = some (.slice (some ⟨gm, 0, none⟩) nm cm) := h.hx.cell 2
  have x3 : w.cell? ⟨x, 3, none⟩ = some (.slice (some ⟨gp, 0, none⟩) np cp) := h.hx.cell 3
  have i1 : ¬ (i : Int) ≤ 0 := by omega
  have i2 : ¬ (nh : Int) ≤ (i : Int) := by omega
  have i3 : (i : Int) < (nh : Int) := by omega
  have i4 : (i : Int) < (np : Int) := by omega
  have i5 : (P : Int) ≤ (cm : Int) := by have := h.hcm; omega
  have i6 : (P : Int) ≤ (nm : Int) := by omega
  have i7 : (nm : Int) ≤ (cm : Int) := by have := h.hcm; omega
  have hcm := h.hcm
  have hzm := h.hzm
  have HH := Lib.hid (And.intro h (And.intro e2 e1))
  clear h e2 e1
  have X2 : ∀ p : Later (fun _ => False) w, p.W.cell? ⟨x, 2, none⟩ = some (.slice (some ⟨gm, 0, none⟩) nm cm) := fun p => cell_later x2 (fun hf => hf) p
  have X3 : ∀ p : Later (fun _ => False) w, p.W.cell? ⟨x, 3, none⟩ = some (.slice (some ⟨gp, 0, none⟩) np cp) := fun p => cell_later x3 (fun hf => hf) p
  have EP : ∀ p : Later (fun _ => False) w, p.W.cell? ⟨gp, i, none⟩ = some (.int .i64 (P : Int)) := fun p => cell_later ep (fun hf => hf) p
  have HX := Lib.hid (And.intro x0 (And.intro hcm hzm))
  clear x0
  go_enter Try.func51, Try.ntmps51
  go_wp2_with fail
  clear x1 x2 x3 eh ep
  refine wp_region_mixF (fun i => if 24 ≤ i then 2 else 0) [0, 1, 2, 3, 4, 5, 6, 7, 8, 9, 10, 11, 12, 13, 14, 15, 16, 17, 18, 19, 20, 21, 22, 23] 4 (fun w' => ∃ p : Later (fun _ => False) w, w' = p.W) (by kernel_rfl) (by kernel_rfl) ⟨⟨_, Fz.drew w⟩, rfl⟩ ?_
  simp only [opsAt, List.filterMap_cons, List.filterMap_nil, List.getElem?_toArray, List.getElem?_cons_zero, List.getElem?_cons_succ]
  change wpQuiet _ _ _ _ [_, _, _, _, _, _, _, _, _, _, _, _, _, _, _, _, _, _, _, _, _, _, _, _] _
  repeat (go_big_quiet_step (fail))
  refine wpQuiet_nil ?_
  clear X2 X3 EP
  have zz := Fz.drew (X := fun _ => False) w
  have bd := zz.below (B := w.heap.size) (Nat.le_refl _) (fun _ _ h => h)
  obtain ⟨W4, hW4⟩ : ∃ V, ({ w with drawn := w.drawn + 1 } : World) = V := ⟨_, rfl⟩
  rw [hW4] at zz bd ⊢
  clear hW4
  have HZ := Lib.hid (And.intro zz bd)
  clear zz bd
  refine wpFreeM_step [24, 25] (by kernel_rfl) ⟨?_, ?_, trivial⟩
  · refine wpOp_of_list rfl ?_
    go_wp2_with fail
    have bq1 := below_new W4 (.cells #[.slice none 0 0] 25)
    have z1 : Cells (W4.alloc (.cells #[.slice none 0 0] 25)) W4.heap.size 25 #[.slice none 0 0] := cells_new _ _ _
    have s1 : (W4.alloc (.cells #[.slice none 0 0] 25)).heap.size = W4.heap.size + 1 := by simp
    obtain ⟨W5, hW5⟩ : ∃ V, W4.alloc (.cells #[.slice none 0 0] 25) = V := ⟨_, rfl⟩
    rw [hW5] at bq1 z1 s1 ⊢
    clear hW5
    have H5 := Lib.hid (And.intro bq1 (And.intro z1 (HZ.out.1.trans (Fz.of_below bq1))))
    clear bq1 z1
    refine ⟨⟨⟨_, H5.out.2.2⟩, rfl⟩, ?_⟩
    refine wpFreeM_step [25] (by kernel_rfl) ⟨?_, trivial⟩
    refine wpOp_of_list rfl ?_
    go_wp2_with fail
    have bq2 := below_new W5 (.cells #[.slice none 0 0] 25)
    have z2 : Cells (W5.alloc (.cells #[.slice none 0 0] 25)) (W4.heap.size + 1) 25 #[.slice none 0 0] := by rw [← s1]; exact cells_new _ _ _
    obtain ⟨W6, hW6⟩ : ∃ V, W5.alloc (.cells #[.slice none 0 0] 25) = V := ⟨_, rfl⟩
    rw [hW6] at bq2 z2 ⊢
    clear hW6
    have z1 := H5.out.2.1.on bq2
    have H6 := Lib.hid (And.intro (H5.out.1.trans (bq2.mono H5.out.1.size)) (And.intro z1 (And.intro z2 (H5.out.2.2.trans (Fz.of_below bq2)))))
    have v1 := z1.cell 0
    have v2 := z2.cell 0
    have f1 := z1.froz 0
    have f2 := z2.froz 0
    simp at v1 v2
    clear bq2 z1 z2
    refine ⟨⟨⟨_, H6.out.2.2.2⟩, rfl⟩, ?_⟩
    refine wpFreeM_step [26] (by kernel_rfl) ⟨?_, trivial⟩
    refine wpOp_of_list rfl ?_
    go_wp2_with fail
    have y1 := H6.out.2.1.set 0 (.slice (some ⟨gm, 0, none⟩) P cm)
    have g1 := Fz.set (X := fun k => k = W4.heap.size) W6 (W4.heap.size) 0 (.slice (some ⟨gm, 0, none⟩) P cm) rfl
    obtain ⟨W7, hW7⟩ : ∃ V, W6.setCell ⟨W4.heap.size, 0, none⟩ (.slice (some ⟨gm, 0, none⟩) P cm) = V := ⟨_, rfl⟩
    rw [hW7] at y1 g1 ⊢
    clear hW7
    have g2 := Fz.set (X := fun k => k = W4.heap.size + 1) W7 (W4.heap.size + 1) 0 (.slice (some ⟨gm, P, none⟩) (nm - P) (cm - P)) rfl
    have y2' := (g1.cells (by omega) H6.out.2.2.1).set 0 (.slice (some ⟨gm, P, none⟩) (nm - P) (cm - P))
    have y1' := g2.cells (by omega) y1
    have v3 := (g1.cells (by omega) H6.out.2.2.1).cell 0
    have f3 := (g1.cells (by omega) H6.out.2.2.1).froz 0
    simp at v3
    have hws := HZ.out.2.size
    have g1' := g1.mono (Y := fun k => w.heap.size ≤ k) (fun k hk => by omega)
    have fz7 := (H6.out.2.2.2.mono (Y := fun k => w.heap.size ≤ k) (fun k hk => hk.elim)).trans g1'
    have h7 : ∃ p : Later (fun _ => False) w, W7 = p.W := ⟨⟨W7, ⟨fz7.os, fz7.tape, fz7.output, fz7.size, fun k hk _ => fz7.block k hk (by omega)⟩⟩, rfl⟩
    have b8 := (fz7.trans (g2.mono (Y := fun k => w.heap.size ≤ k) (fun k hk => by omega))).below (B := w.heap.size) (Nat.le_refl _) (fun k hk e => by omega)
    have r8 := HH.out.1.on b8
    have IX := ix1_any k1 c1 k2 c2 m1 m2 A1 A2 d1 d2 b (W4.heap.size + 1) (W4.heap.size) gm P (nm - P - 1) (cm - P) 0 (P - 1) cm r cr _ r8.h1 r8.h2 (by rw [show nm - P - 1 + 1 = nm - P by omega]; exact y2') (by rw [show P - 1 + 1 = P by omega]; exact y1') (by omega) (by omega) (by omega) (by omega)
      ((b8.cell (p := ⟨gm, P, none⟩) (cell_lt HH.out.2.1)).trans HH.out.2.1) ((b8.cell (p := ⟨gm, 0 + (P - 1), none⟩) (by have := cell_lt HH.out.2.2; simpa using this)).trans (by rw [Nat.zero_add]; exact HH.out.2.2)) r8.hr r8.hcr
    rw [HN.out] at IX
    have x08 : (W7.setCell ⟨W4.heap.size + 1, 0, none⟩ (.slice (some ⟨gm, P, none⟩) (nm - P) (cm - P))).cell? ⟨x, 0, none⟩ = some (.slice (some ⟨r, 0, none⟩) 1 cr) := r8.hx.cell 0
    have H8 := Lib.hid b8
    clear y1 y1' y2' g1 g2 g1' fz7 b8 r8 v1 v2 f1 f2
    refine ⟨h7, ?_⟩
    clear h7
    refine wpFreeM_step [27] (by kernel_rfl) ⟨?_, trivial⟩
    refine wpOp_of_list rfl ?_
    go_wp2_with fail
    refine ⟨⟨⟨_, ⟨H8.out.os, H8.out.tape, H8.out.output, H8.out.size, fun k hk _ => H8.out.block k hk⟩⟩, rfl⟩, ?_⟩
    unfold wpFreeM
    go_wp2_with fail
    refine IX.mono ?_
    rintro e w9 ⟨rfl, hb9⟩
    have H9 := Lib.hid (H8.out.trans (hb9.mono H8.out.size))
    clear hb9 IX
    go_wp2_with fail
    go_ret
    exact ⟨rfl, H9.out⟩
  · refine wpOp_of_list rfl ?_
    go_wp2_with fail
    have bq1 := below_new W4 (.cells #[.slice none 0 0] 25)
    have z1 : Cells (W4.alloc (.cells #[.slice none 0 0] 25)) W4.heap.size 25 #[.slice none 0 0] := cells_new _ _ _
    have s1 : (W4.alloc (.cells #[.slice none 0 0] 25)).heap.size = W4.heap.size + 1 := by simp
    obtain ⟨W5, hW5⟩ : ∃ V, W4.alloc (.cells #[.slice none 0 0] 25) = V := ⟨_, rfl⟩
    rw [hW5] at bq1 z1 s1 ⊢
    clear hW5
    have H5 := Lib.hid (And.intro bq1 (And.intro z1 (HZ.out.1.trans (Fz.of_below bq1))))
    clear bq1 z1
    refine ⟨⟨⟨_, H5.out.2.2⟩, rfl⟩, ?_⟩
    refine wpFreeM_step [24] (by kernel_rfl) ⟨?_, trivial⟩
    refine wpOp_of_list rfl ?_
    go_wp2_with fail
    have bq2 := below_new W5 (.cells #[.slice none 0 0] 25)
    have z2 : Cells (W5.alloc (.cells #[.slice none 0 0] 25)) (W4.heap.size + 1) 25 #[.slice none 0 0] := by rw [← s1]; exact cells_new _ _ _
    obtain ⟨W6, hW6⟩ : ∃ V, W5.alloc (.cells #[.slice none 0 0] 25) = V := ⟨_, rfl⟩
    rw [hW6] at bq2 z2 ⊢
    clear hW6
    have z1 := H5.out.2.1.on bq2
    have H6 := Lib.hid (And.intro (H5.out.1.trans (bq2.mono H5.out.1.size)) (And.intro z1 (And.intro z2 (H5.out.2.2.trans (Fz.of_below bq2)))))
    have v1 := z1.cell 0
    have v2 := z2.cell 0
    have f1 := z1.froz 0
    have f2 := z2.froz 0
    simp at v1 v2
    clear bq2 z1 z2
    refine ⟨⟨⟨_, H6.out.2.2.2⟩, rfl⟩, ?_⟩
    refine wpFreeM_step [26] (by kernel_rfl) ⟨?_, trivial⟩
    refine wpOp_of_list rfl ?_
    go_wp2_with fail
    have y1 := H6.out.2.2.1.set 0 (.slice (some ⟨gm, 0, none⟩) P cm)
    have g1 := Fz.set (X := fun k => k = W4.heap.size + 1) W6 (W4.heap.size + 1) 0 (.slice (some ⟨gm, 0, none⟩) P cm) rfl
    obtain ⟨W7, hW7⟩ : ∃ V, W6.setCell ⟨W4.heap.size + 1, 0, none⟩ (.slice (some ⟨gm, 0, none⟩) P cm) = V := ⟨_, rfl⟩
    rw [hW7] at y1 g1 ⊢
    clear hW7
    have g2 := Fz.set (X := fun k => k = W4.heap.size) W7 (W4.heap.size) 0 (.slice (some ⟨gm, P, none⟩) (nm - P) (cm - P)) rfl
    have y2' := (g1.cells (by omega) H6.out.2.1).set 0 (.slice (some ⟨gm, P, none⟩) (nm - P) (cm - P))
    have y1' := g2.cells (by omega) y1
    have v3 := (g1.cells (by omega) H6.out.2.1).cell 0
    have f3 := (g1.cells (by omega) H6.out.2.1).froz 0
    simp at v3
    have hws := HZ.out.2.size
    have g1' := g1.mono (Y := fun k => w.heap.size ≤ k) (fun k hk => by omega)
    have fz7 := (H6.out.2.2.2.mono (Y := fun k => w.heap.size ≤ k) (fun k hk => hk.elim)).trans g1'
    have h7 : ∃ p : Later (fun _ => False) w, W7 = p.W := ⟨⟨W7, ⟨fz7.os, fz7.tape, fz7.output, fz7.size, fun k hk _ => fz7.block k hk (by omega)⟩⟩, rfl⟩
    have b8 := (fz7.trans (g2.mono (Y := fun k => w.heap.size ≤ k) (fun k hk => by omega))).below (B := w.heap.size) (Nat.le_refl _) (fun k hk e => by omega)
    have r8 := HH.out.1.on b8
    have IX := ix1_any k1 c1 k2 c2 m1 m2 A1 A2 d1 d2 b (W4.heap.size) (W4.heap.size + 1) gm P (nm - P - 1) (cm - P) 0 (P - 1) cm r cr _ r8.h1 r8.h2 (by rw [show nm - P - 1 + 1 = nm - P by omega]; exact y2') (by rw [show P - 1 + 1 = P by omega]; exact y1') (by omega) (by omega) (by omega) (by omega)
      ((b8.cell (p := ⟨gm, P, none⟩) (cell_lt HH.out.2.1)).trans HH.out.2.1) ((b8.cell (p := ⟨gm, 0 + (P - 1), none⟩) (by have := cell_lt HH.out.2.2; simpa using this)).trans (by rw [Nat.zero_add]; exact HH.out.2.2)) r8.hr r8.hcr
    rw [HN.out] at IX
    have x08 : (W7.setCell ⟨W4.heap.size, 0, none⟩ (.slice (some ⟨gm, P, none⟩) (nm - P) (cm - P))).cell? ⟨x, 0, none⟩ = some (.slice (some ⟨r, 0, none⟩) 1 cr) := r8.hx.cell 0
    have H8 := Lib.hid b8
    clear y1 y1' y2' g1 g2 g1' fz7 b8 r8 v1 v2 f1 f2
    refine ⟨h7, ?_⟩
    clear h7
    refine wpFreeM_step [27] (by kernel_rfl) ⟨?_, trivial⟩
    refine wpOp_of_list rfl ?_
    go_wp2_with fail
    refine ⟨⟨⟨_, ⟨H8.out.os, H8.out.tape, H8.out.output, H8.out.size, fun k hk _ => H8.out.block k hk⟩⟩, rfl⟩, ?_⟩
    unfold wpFreeM
    go_wp2_with fail
    refine IX.mono ?_
    rintro e w9 ⟨rfl, hb9⟩
    have H9 := Lib.hid (H8.out.trans (hb9.mono H8.out.size))
    clear hb9 IX
    go_wp2_with fail
    go_ret
    exact ⟨rfl, H9.out⟩
end Go.Proofs.Ytegkogadceodlaa

namespace Go.Proofs.Ytegkogadceodlaa
open Go.RowKit Go.Shelf Go.Lib Go.Sort

set_option maxRecDepth 100000 in
set_option maxHeartbeats 8000000 in
theorem breaks1_any (k1 c1 : Int) (A1 : Option Addr) (d1 : Nat) (k2 c2 : Int) (A2 : Option Addr) (d2 : Nat) (b : Bool) (x r cr gh nh ch gm nm cm gp np cp i P : Nat) (m1 m2 : Int) (w : World) (h : Rd1 w k1 c1 A1 d1 k2 c2 A2 d2 b x r cr gh nh ch gm nm cm gp np cp)
    (hi : 1 ≤ i) (hih : i < nh) (hip : i < np) (hP : 1 ≤ P) (hPm : P < nm) (eh : w.cell? ⟨gh, i, none⟩ = some (.bool false)) (ep : w.cell? ⟨gp, i, none⟩ = some (.int .i64 (P : Int))) (e2 : w.cell? ⟨gm, P, none⟩ = some (.int .i64 m2)) (e1 : w.cell? ⟨gm, P - 1, none⟩ = some (.int .i64 m1)) :
    Calls Try.prog 49 #[.pointer (some ⟨x, 0, none⟩), .int .i64 (i : Int)] w fun e w' => e = .returned (.bool (if (takesG k2 c2 m2 && takesG k1 c1 m1) = true then b else true)) ∧ Below w.heap.size w w' := by
  have CW := which1_any k1 c1 A1 d1 k2 c2 A2 d2 b x r cr gh nh ch gm nm cm gp np cp i P m1 m2 w h hi hih hip hP hPm eh ep e2 e1
  have x1 : w.cell? ⟨x, 1, none⟩ = some (.slice (some ⟨gh, 0, none⟩) nh ch) := h.hx.cell 1
  have i3 : (i : Int) < (nh : Int) := by omega
  obtain ⟨T, hT⟩ : ∃ T, (takesG k2 c2 m2 && takesG k1 c1 m1) = T := ⟨_, rfl⟩
  rw [hT] at CW ⊢
  have HH := Lib.hid h
  clear h e2 e1 ep hT hip hP hPm
  cases T with
  | false =>
    go_enter Try.func49, Try.ntmps49
    go_wp2_with fail
    refine CW.mono ?_
    rintro e w2 ⟨rfl, hb2⟩
    have HB := Lib.hid hb2
    clear hb2 CW
    go_wp2_with fail
    go_ret
    exact ⟨rfl, HB.out⟩
  | true =>
    go_enter Try.func49, Try.ntmps49
    go_wp2_with fail
    refine CW.mono ?_
    rintro e w2 ⟨rfl, hb2⟩
    have r2 := HH.out.on hb2
    have x0 : w2.cell? ⟨x, 0, none⟩ = some (.slice (some ⟨r, 0, none⟩) 1 cr) := r2.hx.cell 0
    have e12 : w2.cell? ⟨r, 12, none⟩ = some (.bool b) := r2.hr 12 _ rfl
    have HB := Lib.hid hb2
    clear hb2 CW r2
    go_wp2_with fail
    go_ret
    exact ⟨rfl, HB.out⟩
end Go.Proofs.Ytegkogadceodlaa

namespace Go.Proofs.Ytegkogadceodlaa
open Go.RowKit Go.Shelf Go.Lib Go.Sort

/-- The rule that awake asks of. -/
def tA : Tx := ⟨[], [], [⟨.mk 0 1 [], .mk 0 2 [], false⟩]⟩
theorem tA_right : rightT tA = true := by first | rfl | decide | decide +kernel
theorem tA_known : knownT tA = tA := by unfold knownT; rw [tA_right]; rfl
theorem tA_rdF : rdF [] [] [2, 1, 2] = ([false, false, false], [36, 2, 1, 2], [1, 2, 3]) := by
  simp [rdF, rdS, clsI]
theorem leaf_r1 : rightE (.mk 0 1 []) = true := by first | rfl | decide | decide +kernel
theorem leaf_r2 : rightE (.mk 0 2 []) = true := by first | rfl | decide | decide +kernel
theorem leaf_s1 : shortR (.mk 0 1 []) = 1 ∧ longR (.mk 0 1 []) = (true, 1) := by first | exact ⟨rfl, rfl⟩ | decide | decide +kernel
theorem leaf_s2 : shortR (.mk 0 2 []) = 1 ∧ longR (.mk 0 2 []) = (true, 1) := by first | exact ⟨rfl, rfl⟩ | decide | decide +kernel
theorem tak_1 : (takesG 0 2 2 && takesG 0 1 1) = true := by decide
theorem tak_2 : (takesG 0 2 1 && takesG 0 1 2) = false := by decide
/-- What a reading of awake's rule and list is, at a place: ready for breaks. -/
theorem rdo_rd1 {w : World} {B : Nat} {L : List (List Value)} {vr vh vm vp : Value} {x : Nat} (hB : B ≤ w.heap.size) (h : RdO w B tA [2, 1, 2] L vr vh vm vp) (hx : Cells w x 109 #[vr, vh, vm, vp]) :
    ∃ A1 d1 A2 d2 r cr gh ch gm cm gp cp, Rd1 w 0 1 A1 d1 0 2 A2 d2 false x r cr gh 3 ch gm 4 cm gp 3 cp ∧ (∀ i, i < 3 → w.cell? ⟨gh, i, none⟩ = some (.bool false)) ∧
      (w.cell? ⟨gm, 0, none⟩ = some (.int .i64 36) ∧ w.cell? ⟨gm, 1, none⟩ = some (.int .i64 2) ∧ w.cell? ⟨gm, 2, none⟩ = some (.int .i64 1) ∧ w.cell? ⟨gm, 3, none⟩ = some (.int .i64 2)) ∧
      (w.cell? ⟨gp, 1, none⟩ = some (.int .i64 2) ∧ w.cell? ⟨gp, 2, none⟩ = some (.int .i64 3)) := by
  have hh := h.h
  have hm := h.m
  have hs := h.s
  have hr := h.r
  have hp := h.p
  rw [show tA.ig = [] from rfl, show tA.kp = [] from rfl, tA_rdF] at hh hm hs
  have row : ∀ {e z n : Nat} {v : Value} {xs : List Value}, w.ownsRow B e z v n xs → 0 < n → ∃ g c, v = .slice (some ⟨g, 0, none⟩) n c ∧ n ≤ c ∧ ∀ (j : Nat) (u : Value), xs[j]? = some u → w.cell? ⟨g, j, none⟩ = some u := by
    intro e z n v xs ho hn
    rcases ho.2 with ⟨_, h0⟩ | ⟨g, cap, cur, h1, h2, h3, h4, h5, _⟩
    · omega
    · refine ⟨g, cap, h1, h4, fun j u hj => ?_⟩
      have := World.ownsRow.cells ho (g := g) (by rw [h1]; rfl) j u hj
      rwa [add0] at this
  obtain ⟨gh, ch, rfl, _, eh⟩ := row hh (by simp)
  obtain ⟨gm, cm, rfl, lm, em⟩ := row hm (by simp)
  obtain ⟨gp, cp, rfl, _, ep⟩ := row hs (by simp)
  obtain ⟨r, cr, rfl, lr, er⟩ := row hr (show 0 < tA.rs.length by decide)
  obtain ⟨cs, hcs⟩ : ∃ cs, L = [cs] := by
    have := hp.l
    match L, this with
    | [cs], _ => exact ⟨cs, rfl⟩
  subst hcs
  obtain ⟨A1, d1, A2, d2, he, n1, n2⟩ := hp.p 0 _ cs rfl rfl
  have hpt : cs = (pt1 0 1 A1 d1 0 2 A2 d2 false).toList := by
    rw [he]
    unfold sdC
    dsimp only
    rw [leaf_s1.1, leaf_s1.2, leaf_s2.1, leaf_s2.2]
    rfl
  refine ⟨A1, d1, A2, d2, r, cr, gh, ch, gm, cm, gp, cp, ⟨⟨by decide, by decide, n1.mono hB, leaf_r1⟩, ⟨by decide, by decide, n2.mono hB, leaf_r2⟩, hx, fun i u hu => er i u ?_, lr, lm, by decide⟩, ?_, ⟨em 0 _ rfl, em 1 _ rfl, em 2 _ rfl, em 3 _ rfl⟩, ⟨ep 1 _ rfl, ep 2 _ rfl⟩⟩
  · rw [List.flatten_singleton, hpt]
    simpa using hu
  · intro i hi
    match i, hi with
    | 0, _ => exact eh 0 _ rfl
    | 1, _ => exact eh 1 _ rfl
    | 2, _ => exact eh 2 _ rfl
end Go.Proofs.Ytegkogadceodlaa

