/-
  Contract: reading.add; what a reading is in memory.
-/
import Derived.Deep.AppendLies
import Derived.Maps.OwnOps
import Derived.Test.YtegkogadceodlaaHds
import Derived.Test.YtegkogadceodlaaKno
namespace Go.Proofs.Ytegkogadceodlaa
open Go.RowKit Go.Shelf Go.Lib

theorem own_form {w : World} {base e n : Nat} {v : Value} {xs : List Value} (h : w.ownsRow base e 1 v n xs) : ∃ A c, v = .slice A n c := by
  rcases h.2 with ⟨h1, h2⟩ | ⟨g, cap, cur, h1, _⟩
  · exact ⟨none, 0, by rw [h1, h2]⟩
  · exact ⟨_, _, h1⟩
theorem info_1 {t b : Nat} (h : (Try.prog.info? t).map (fun i => (i.zero.map (fun z => z.cells.size), i.size, i.bytes)) = some (some 1, 1, b)) : ∃ i z, Try.prog.info? t = some i ∧ i.zero = some z ∧ i.size = 1 ∧ i.bytes = b ∧ z.cells.size = 1 := by
  cases e : Try.prog.info? t with
  | none => rw [e] at h; simp at h
  | some i =>
    rw [e] at h
    cases e2 : i.zero with
    | none => simp [e2] at h
    | some z =>
      simp [e2] at h
      exact ⟨i, z, rfl, e2, h.2.1, h.2.2, h.1⟩
theorem info4 : (Try.prog.info? 4).map (fun i => (i.zero.map (fun z => z.cells.size), i.size, i.bytes)) = some (some 1, 1, 1) := by kernel_rfl
theorem info3 : (Try.prog.info? 3).map (fun i => (i.zero.map (fun z => z.cells.size), i.size, i.bytes)) = some (some 1, 1, 8) := by kernel_rfl
/-- One element more, of one cell. -/
theorem wpList_app1 {ops : Array Oper} {rest : List Oper} {o : Oper} {a : Act} {w : World} {Q : Exit → Act → World → Prop} {e sl b : Nat} (hsl : Try.prog.underlying sl = some (.slice e))
    (hin : (Try.prog.info? e).map (fun i => (i.zero.map (fun z => z.cells.size), i.size, i.bytes)) = some (some 1, 1, b)) (hb16 : b ≤ 16) (hgd : o.guard = none) (s x : Operand)
    (ho : o.op = .call { callee := .builtin .append, args := #[s, x], argTypes := #[sl, sl] }) (base : Nat) (v : Value) (n : Nat) (l : List Value) (u : Value) (hu : u.oneCell' = true) (hs : a.eval s = v) (w0 : World) (h0 : w0.ownsRow base e 1 v n l) (hw0 : w0.alloc (.cells #[u] e) = w)
    (hx : a.eval x = .slice (some ⟨w0.heap.size, 0, none⟩) 1 1) (h63 : n ≤ 1000000) (hbase : base ≤ w0.heap.size)
    (h : ∀ g cap w', w'.ownsRow base e 1 (.slice (some ⟨g, 0, none⟩) (n + 1) cap) (n + 1) (l ++ [u]) → w0.grownBy w' v.ownBlock → (v.ownBlock = some g ∨ w0.heap.size ≤ g) → g < w'.heap.size → wpList Try.prog ops Q rest (a.put o.dst (.slice (some ⟨g, 0, none⟩) (n + 1) cap)) w') : wpList Try.prog ops Q (o :: rest) a w := by
  obtain ⟨i, z, hi, hz, hs1, hb1, hz1⟩ := info_1 hin
  subst hw0
  have al := below_new w0 (.cells #[u] e)
  have hown := ownsRow_below h0 al
  have hsz : base ≤ (w0.alloc (.cells #[u] e)).heap.size := by rw [World.size_alloc]; omega
  have hbb : (n + 1) * b ≤ 140737488355328 := Nat.le_trans (Nat.mul_le_mul (Nat.le_refl _) hb16) (by omega)
  refine wpList_append_lies _ hgd s x sl ho base e i _ 1 b hsl hi hz hs1 hb1 hz1 (by decide) v n l hs hown ⟨w0.heap.size, 0, none⟩ 1 1 [u] hx rfl (fun j y hj => ?_) (fun y hy => ?_) (by decide) (by unfold maxLen; omega) hbb hsz _ rfl ?_
  · match j, hj with
    | 0, hj =>
      simp at hj
      subst hj
      rw [add0]
      exact (cells_new w0 #[u] e).cell 0
  · simp at hy
    subst hy
    exact hu
  · intro g cap w' h1 h2 h3 h4
    refine h g cap w' h1 ⟨h2.os, h2.tape, h2.output, by have := h2.size; rw [World.size_alloc] at this; omega, fun k hk hn => (h2.block k (by rw [World.size_alloc]; omega) hn).trans (al.block k hk)⟩ ?_ h4
    rcases h3 with h3 | h3
    · exact .inl h3
    · exact .inr (by rw [h3, World.size_alloc]; omega)
def bL (l : List Bool) : List Value := l.map Value.bool
def iL (l : List Int) : List Value := l.map (Value.int .i64)
/-- A reading: the rules' row left alone (O: blocks that nothing here touches). -/
structure RdA (w : World) (base x : Nat) (O : Nat → Prop) (rv : Value) (hs : List Bool) (ms ps : List Int) (vh vm vp : Value) : Prop where
  c : Cells w x 109 #[rv, vh, vm, vp]
  bx : base ≤ x
  oh : w.ownsRow base 4 1 vh hs.length (bL hs)
  om : w.ownsRow base 3 1 vm ms.length (iL ms)
  op : w.ownsRow base 3 1 vp ps.length (iL ps)
  xh : vh.ownBlock ≠ some x
  xm : vm.ownBlock ≠ some x
  xp : vp.ownBlock ≠ some x
  hm : ∀ k, vh.ownBlock = some k → vm.ownBlock ≠ some k
  hp : ∀ k, vh.ownBlock = some k → vp.ownBlock ≠ some k
  mp : ∀ k, vm.ownBlock = some k → vp.ownBlock ≠ some k
  ap : ∀ k, O k → k ≠ x ∧ vh.ownBlock ≠ some k ∧ vm.ownBlock ≠ some k ∧ vp.ownBlock ≠ some k ∧ k < w.heap.size
  i : ∀ z ∈ ms, i64 z
theorem set_own {w : World} {base e n x j : Nat} {v u : Value} {xs : List Value} (h : w.ownsRow base e 1 v n xs) (hx : v.ownBlock ≠ some x) : (w.setCell ⟨x, j, none⟩ u).ownsRow base e 1 v n xs :=
  h.kept (row := some x) ⟨rfl, rfl, rfl, by simp, fun k _ hk => Below.heap_setCell _ _ _ _ (fun e => hk (by rw [e]))⟩ (.inr hx)
/-- The slot of one of its rows anew. -/
theorem RdA.fz {w w1 : World} {base x j : Nat} {O : Nat → Prop} {v u : Value} (hbx : base ≤ x) (hox : ¬ O x) (hbv : ∀ k, v.ownBlock = some k → base ≤ k ∧ ¬ O k) (hg : w.grownBy w1 v.ownBlock) : Fz (fun k => base ≤ k ∧ ¬ O k) w (w1.setCell ⟨x, j, none⟩ u) :=
  (Fz.of_grown hg hbv).trans (Fz.set w1 x j u ⟨hbx, hox⟩)
theorem RdA.nO {w : World} {base x : Nat} {O : Nat → Prop} {rv : Value} {hs : List Bool} {ms ps : List Int} {vh vm vp : Value} (h : RdA w base x O rv hs ms ps vh vm vp) : ¬ O x := fun ho => (h.ap x ho).1 rfl
theorem RdA.appH {w w1 : World} {base x : Nat} {O : Nat → Prop} {rv : Value} {hs : List Bool} {ms ps : List Int} {vh vm vp : Value} (h : RdA w base x O rv hs ms ps vh vm vp) {g cap : Nat} (b : Bool) (ho : w1.ownsRow base 4 1 (.slice (some ⟨g, 0, none⟩) (hs.length + 1) cap) (hs.length + 1) (bL hs ++ [.bool b])) (hg : w.grownBy w1 vh.ownBlock) (hn : vh.ownBlock = some g ∨ w.heap.size ≤ g) :
    RdA (w1.setCell ⟨x, 1, none⟩ (.slice (some ⟨g, 0, none⟩) (hs.length + 1) cap)) base x O rv (hs ++ [b]) ms ps (.slice (some ⟨g, 0, none⟩) (hs.length + 1) cap) vm vp ∧ Fz (fun k => base ≤ k ∧ ¬ O k) w (w1.setCell ⟨x, 1, none⟩ (.slice (some ⟨g, 0, none⟩) (hs.length + 1) cap)) := by
  have hxl := h.c.lt
  have hsz := hg.size
  have lv := own_block_lt h.oh
  have l1 := own_block_lt h.om
  have l2 := own_block_lt h.op
  have d1 : ∀ k, vh.ownBlock = some k → vm.ownBlock ≠ some k := h.hm
  have d2 : ∀ k, vh.ownBlock = some k → vp.ownBlock ≠ some k := h.hp
  have hgx : g ≠ x := by
    rcases hn with hn | hn
    · intro e; exact h.xh (by rw [hn, e])
    · omega
  have key : ∀ k, (Value.slice (some ⟨g, 0, none⟩) (hs.length + 1) cap).ownBlock = some k → k = g := fun k e => by simpa [Value.ownBlock, eq_comm] using e
  have hc1 : Cells w1 x 109 #[rv, vh, vm, vp] := (hg.block x hxl (fun e => h.xh e.symm)).trans h.c
  have kp : ∀ v' : Value, (∀ k, vh.ownBlock = some k → v'.ownBlock ≠ some k) → v'.ownBlock = none ∨ v'.ownBlock ≠ vh.ownBlock := fun v' hv => by
    cases e : v'.ownBlock with
    | none => exact .inl rfl
    | some k => exact .inr (fun e2 => hv k e2.symm e)
  have ng : ∀ v' : Value, (∀ k, vh.ownBlock = some k → v'.ownBlock ≠ some k) → (∀ k, v'.ownBlock = some k → base ≤ k ∧ k < w.heap.size) → v'.ownBlock ≠ some g := fun v' hv hl e => by
    rcases hn with hn | hn
    · exact hv g hn e
    · have := (hl g e).2; omega
  have nO : ∀ k, O k → k ≠ g := fun k ho e => by
    rcases hn with hn | hn
    · exact (h.ap k ho).2.1 (by rw [hn, e])
    · have := (h.ap k ho).2.2.2.2; omega
  have o1 := set_own (j := 1) (u := .slice (some ⟨g, 0, none⟩) (hs.length + 1) cap) (x := x) ho (fun e => hgx (key _ e).symm)
  have o2 := set_own (j := 1) (u := .slice (some ⟨g, 0, none⟩) (hs.length + 1) cap) (h.om.kept hg (kp _ d1)) h.xm
  have o3 := set_own (j := 1) (u := .slice (some ⟨g, 0, none⟩) (hs.length + 1) cap) (h.op.kept hg (kp _ d2)) h.xp
  have e1 := ng _ d1 l1
  have e2 := ng _ d2 l2
  refine ⟨⟨by simpa using hc1.set 1 (.slice (some ⟨g, 0, none⟩) (hs.length + 1) cap), h.bx, by unfold bL at o1 ⊢; rw [List.map_append, List.length_append]; exact o1, o2, o3, (fun e => hgx (key _ e).symm), h.xm, h.xp, fun k e => by rw [key k e]; exact e1, fun k e => by rw [key k e]; exact e2, h.mp, fun k ho => ⟨(h.ap k ho).1, fun e => nO k ho (key _ e), (h.ap k ho).2.2.1, (h.ap k ho).2.2.2.1, by have := (h.ap k ho).2.2.2.2; simp; omega⟩, h.i⟩, RdA.fz h.bx h.nO (fun k e => ⟨(lv k e).1, fun ho => (h.ap k ho).2.1 e⟩) hg⟩
theorem RdA.appM {w w1 : World} {base x : Nat} {O : Nat → Prop} {rv : Value} {hs : List Bool} {ms ps : List Int} {vh vm vp : Value} (h : RdA w base x O rv hs ms ps vh vm vp) {g cap : Nat} (b : Int) (hb : i64 b) (ho : w1.ownsRow base 3 1 (.slice (some ⟨g, 0, none⟩) (ms.length + 1) cap) (ms.length + 1) (iL ms ++ [.int .i64 b])) (hg : w.grownBy w1 vm.ownBlock) (hn : vm.ownBlock = some g ∨ w.heap.size ≤ g) :
    RdA (w1.setCell ⟨x, 2, none⟩ (.slice (some ⟨g, 0, none⟩) (ms.length + 1) cap)) base x O rv hs (ms ++ [b]) ps vh (.slice (some ⟨g, 0, none⟩) (ms.length + 1) cap) vp ∧ Fz (fun k => base ≤ k ∧ ¬ O k) w (w1.setCell ⟨x, 2, none⟩ (.slice (some ⟨g, 0, none⟩) (ms.length + 1) cap)) := by
  have hxl := h.c.lt
  have hsz := hg.size
  have lv := own_block_lt h.om
  have l1 := own_block_lt h.oh
  have l2 := own_block_lt h.op
  have d1 : ∀ k, vm.ownBlock = some k → vh.ownBlock ≠ some k := fun k e e2 => h.hm k e2 e
  have d2 : ∀ k, vm.ownBlock = some k → vp.ownBlock ≠ some k := h.mp
  have hgx : g ≠ x := by
    rcases hn with hn | hn
    · intro e; exact h.xm (by rw [hn, e])
    · omega
  have key : ∀ k, (Value.slice (some ⟨g, 0, none⟩) (ms.length + 1) cap).ownBlock = some k → k = g := fun k e => by simpa [Value.ownBlock, eq_comm] using e
  have hc1 : Cells w1 x 109 #[rv, vh, vm, vp] := (hg.block x hxl (fun e => h.xm e.symm)).trans h.c
  have kp : ∀ v' : Value, (∀ k, vm.ownBlock = some k → v'.ownBlock ≠ some k) → v'.ownBlock = none ∨ v'.ownBlock ≠ vm.ownBlock := fun v' hv => by
    cases e : v'.ownBlock with
    | none => exact .inl rfl
    | some k => exact .inr (fun e2 => hv k e2.symm e)
  have ng : ∀ v' : Value, (∀ k, vm.ownBlock = some k → v'.ownBlock ≠ some k) → (∀ k, v'.ownBlock = some k → base ≤ k ∧ k < w.heap.size) → v'.ownBlock ≠ some g := fun v' hv hl e => by
    rcases hn with hn | hn
    · exact hv g hn e
    · have := (hl g e).2; omega
  have nO : ∀ k, O k → k ≠ g := fun k ho e => by
    rcases hn with hn | hn
    · exact (h.ap k ho).2.2.1 (by rw [hn, e])
    · have := (h.ap k ho).2.2.2.2; omega
  have o1 := set_own (j := 2) (u := .slice (some ⟨g, 0, none⟩) (ms.length + 1) cap) (x := x) ho (fun e => hgx (key _ e).symm)
  have o2 := set_own (j := 2) (u := .slice (some ⟨g, 0, none⟩) (ms.length + 1) cap) (h.oh.kept hg (kp _ d1)) h.xh
  have o3 := set_own (j := 2) (u := .slice (some ⟨g, 0, none⟩) (ms.length + 1) cap) (h.op.kept hg (kp _ d2)) h.xp
  have e1 := ng _ d1 l1
  have e2 := ng _ d2 l2
  refine ⟨⟨by simpa using hc1.set 2 (.slice (some ⟨g, 0, none⟩) (ms.length + 1) cap), h.bx, o2, by unfold iL at o1 ⊢; rw [List.map_append, List.length_append]; exact o1, o3, h.xh, (fun e => hgx (key _ e).symm), h.xp, fun k e e2 => e1 (by rw [← key k e2]; exact e), h.hp, fun k e => by rw [key k e]; exact e2, fun k ho => ⟨(h.ap k ho).1, (h.ap k ho).2.1, fun e => nO k ho (key _ e), (h.ap k ho).2.2.2.1, by have := (h.ap k ho).2.2.2.2; simp; omega⟩, fun z hz => (List.mem_append.1 hz).elim (h.i z) (fun hz => by simp at hz; rw [hz]; exact hb)⟩, RdA.fz h.bx h.nO (fun k e => ⟨(lv k e).1, fun ho => (h.ap k ho).2.2.1 e⟩) hg⟩
theorem RdA.appP {w w1 : World} {base x : Nat} {O : Nat → Prop} {rv : Value} {hs : List Bool} {ms ps : List Int} {vh vm vp : Value} (h : RdA w base x O rv hs ms ps vh vm vp) {g cap : Nat} (b : Int) (ho : w1.ownsRow base 3 1 (.slice (some ⟨g, 0, none⟩) (ps.length + 1) cap) (ps.length + 1) (iL ps ++ [.int .i64 b])) (hg : w.grownBy w1 vp.ownBlock) (hn : vp.ownBlock = some g ∨ w.heap.size ≤ g) :
    RdA (w1.setCell ⟨x, 3, none⟩ (.slice (some ⟨g, 0, none⟩) (ps.length + 1) cap)) base x O rv hs ms (ps ++ [b]) vh vm (.slice (some ⟨g, 0, none⟩) (ps.length + 1) cap) ∧ Fz (fun k => base ≤ k ∧ ¬ O k) w (w1.setCell ⟨x, 3, none⟩ (.slice (some ⟨g, 0, none⟩) (ps.length + 1) cap)) := by
  have hxl := h.c.lt
  have hsz := hg.size
  have lv := own_block_lt h.op
  have l1 := own_block_lt h.oh
  have l2 := own_block_lt h.om
  have d1 : ∀ k, vp.ownBlock = some k → vh.ownBlock ≠ some k := fun k e e2 => h.hp k e2 e
  have d2 : ∀ k, vp.ownBlock = some k → vm.ownBlock ≠ some k := fun k e e2 => h.mp k e2 e
  have hgx : g ≠ x := by
    rcases hn with hn | hn
    · intro e; exact h.xp (by rw [hn, e])
    · omega
  have key : ∀ k, (Value.slice (some ⟨g, 0, none⟩) (ps.length + 1) cap).ownBlock = some k → k = g := fun k e => by simpa [Value.ownBlock, eq_comm] using e
  have hc1 : Cells w1 x 109 #[rv, vh, vm, vp] := (hg.block x hxl (fun e => h.xp e.symm)).trans h.c
  have kp : ∀ v' : Value, (∀ k, vp.ownBlock = some k → v'.ownBlock ≠ some k) → v'.ownBlock = none ∨ v'.ownBlock ≠ vp.ownBlock := fun v' hv => by
    cases e : v'.ownBlock with
    | none => exact .inl rfl
    | some k => exact .inr (fun e2 => hv k e2.symm e)
  have ng : ∀ v' : Value, (∀ k, vp.ownBlock = some k → v'.ownBlock ≠ some k) → (∀ k, v'.ownBlock = some k → base ≤ k ∧ k < w.heap.size) → v'.ownBlock ≠ some g := fun v' hv hl e => by
    rcases hn with hn | hn
    · exact hv g hn e
    · have := (hl g e).2; omega
  have nO : ∀ k, O k → k ≠ g := fun k ho e => by
    rcases hn with hn | hn
    · exact (h.ap k ho).2.2.2.1 (by rw [hn, e])
    · have := (h.ap k ho).2.2.2.2; omega
  have o1 := set_own (j := 3) (u := .slice (some ⟨g, 0, none⟩) (ps.length + 1) cap) (x := x) ho (fun e => hgx (key _ e).symm)
  have o2 := set_own (j := 3) (u := .slice (some ⟨g, 0, none⟩) (ps.length + 1) cap) (h.oh.kept hg (kp _ d1)) h.xh
  have o3 := set_own (j := 3) (u := .slice (some ⟨g, 0, none⟩) (ps.length + 1) cap) (h.om.kept hg (kp _ d2)) h.xm
  have e1 := ng _ d1 l1
  have e2 := ng _ d2 l2
  refine ⟨⟨by simpa using hc1.set 3 (.slice (some ⟨g, 0, none⟩) (ps.length + 1) cap), h.bx, o2, o3, by unfold iL at o1 ⊢; rw [List.map_append, List.length_append]; exact o1, h.xh, h.xm, (fun e => hgx (key _ e).symm), h.hm, fun k e e3 => e1 (by rw [← key k e3]; exact e), fun k e e3 => e2 (by rw [← key k e3]; exact e), fun k ho => ⟨(h.ap k ho).1, (h.ap k ho).2.1, (h.ap k ho).2.2.1, fun e => nO k ho (key _ e), by have := (h.ap k ho).2.2.2.2; simp; omega⟩, h.i⟩, RdA.fz h.bx h.nO (fun k e => ⟨(lv k e).1, fun ho => (h.ap k ho).2.2.2.1 e⟩) hg⟩
theorem RdA.below {w w' : World} {base x : Nat} {O : Nat → Prop} {rv : Value} {hs : List Bool} {ms ps : List Int} {vh vm vp : Value} (h : RdA w base x O rv hs ms ps vh vm vp) (hb : Below w.heap.size w w') : RdA w' base x O rv hs ms ps vh vm vp :=
  ⟨h.c.on hb, h.bx, ownsRow_below h.oh hb, ownsRow_below h.om hb, ownsRow_below h.op hb, h.xh, h.xm, h.xp, h.hm, h.hp, h.mp, fun k ho => by obtain ⟨a1, a2, a3, a4, a5⟩ := h.ap k ho; exact ⟨a1, a2, a3, a4, by have := hb.size; omega⟩, h.i⟩
theorem IS.of_own {w : World} {base : Nat} {xs : List Int} {A : Option Addr} {n c : Nat} (h : w.ownsRow base 3 1 (.slice A n c) xs.length (iL xs)) (hi : ∀ z ∈ xs, i64 z) : n = xs.length ∧ IS w w.heap.size xs A c := by
  have h' := h
  rcases h.2 with ⟨h1, h2⟩ | ⟨g, cap, cur, h1, h2, h3, h4, h5, h6, h7⟩
  · simp only [Value.slice.injEq] at h1
    obtain ⟨_, rfl, rfl⟩ := h1
    have : xs = [] := List.eq_nil_of_length_eq_zero h2
    subst this
    exact ⟨rfl, by simp, by unfold maxLen; omega, hi, fun hne => absurd rfl hne⟩
  · simp only [Value.slice.injEq] at h1
    obtain ⟨rfl, rfl, rfl⟩ := h1
    refine ⟨rfl, h4, h5, hi, fun _ => ⟨g, 0, rfl, (Array.getElem?_eq_some_iff.1 h3).1, fun i x hx => ?_⟩⟩
    have hc := World.ownsRow.cells h' (g := g) rfl i (.int .i64 x) (by simp [iL, hx])
    rw [add0] at hc
    rw [Nat.zero_add]
    exact hc
set_option maxRecDepth 100000 in
set_option maxHeartbeats 8000000 in
theorem add_any (base x : Nat) (O : Nat → Prop) (rv : Value) (hs : List Bool) (ms ps : List Int) (vh vm vp : Value) (c : Int) (ig : List Int) (Ai : Option Addr) (ci : Nat) (kp : List Int) (Ak : Option Addr) (ck : Nat) (l : Int) (w : World)
    (h : RdA w base x O rv hs ms ps vh vm vp) (hi : IS w w.heap.size ig Ai ci) (hk : IS w w.heap.size kp Ak ck) (hl : ms.getLast? = some l) (hc : i64 c) (n1 : hs.length ≤ 1000) (n2 : ms.length ≤ 1000) (n3 : ps.length ≤ 1000) :
    Calls Try.prog 77 #[.pointer (some ⟨x, 0, none⟩), .int .i64 c, .slice Ai ig.length ci, .slice Ak kp.length ck] w fun e w' => e = .returned (.tuple #[]) ∧ ∃ H vh' vm' vp', H = (ig.contains c && (decide (0 < hs.length) && !kp.contains l)) ∧
      RdA w' base x O rv (hs ++ [H]) (if H then ms else ms ++ [c]) (ps ++ [(ms.length : Int)]) vh' vm' vp' ∧ Fz (fun k => base ≤ k ∧ ¬ O k) w w' := by
  obtain ⟨Ah, ch, rfl⟩ := own_form h.oh
  obtain ⟨Am, cm, rfl⟩ := own_form h.om
  obtain ⟨Ap, cp, rfl⟩ := own_form h.op
  have hIm := (IS.of_own h.om h.i).2
  have CC := contains_any ig c Ai ci w hi
  have CH := hides_any x rv (.slice Ap ps.length cp) Ah hs.length ch ms Am cm kp Ak ck l w h.c hIm hk hl (by omega)
  obtain ⟨a1, ha1⟩ : ∃ q, ig.contains c = q := ⟨_, rfl⟩
  obtain ⟨a2, ha2⟩ : ∃ q, (decide (0 < hs.length) && !kp.contains l) = q := ⟨_, rfl⟩
  rw [ha1] at CC ⊢
  rw [ha2] at CH ⊢
  clear ha1 ha2 hl hIm hi hk
  cases a1 with
  | false =>
    go_enter Try.func77, Try.ntmps77
    go_wp2_with fail
    refine CC.mono ?_
    rintro e W ⟨rfl, rfl⟩
    have hbW := Below.refl W.heap.size W
    clear CC CH
    have HBZ := Lib.hid (Fz.of_below (X := fun k => base ≤ k ∧ ¬ O k) hbW)
    have h1 := h.below hbW
    have hbs := hbW.size
    clear h hbW
    have xc := h1.c
    have c1 : W.cell? ⟨x, 1, none⟩ = some (.slice Ah hs.length ch) := xc.cell 1
    have hxl := xc.lt
    have hsz := h1.bx
    have HF1 := Lib.hid h1
    clear h1 xc
    go_wp2_with (first
      | (at_builtin; refine wpList_app1 Try.underlying52 info4 (by omega) rfl (.tmp 21) (.tmp 23) rfl base _ hs.length (bL hs) (.bool false) rfl rfl W HF1.out.oh rfl rfl (by omega) (by omega) ?_)
      | fail)
    intro g1 cp1 w1 ho1 hg1 hn1 hl1
    have yc := (hg1.block x hxl (fun e => HF1.out.xh e.symm)).trans HF1.out.c
    have c1 : w1.cell? ⟨x, 1, none⟩ = some (.slice Ah hs.length ch) := Cells.cell yc 1
    have f1 : w1.frozen? ⟨x, 1, none⟩ = false := Cells.froz yc 1
    obtain ⟨r1, z1⟩ := HF1.out.appH false ho1 hg1 hn1
    have HF2 := Lib.hid (And.intro r1 z1)
    clear ho1 hg1 hn1 r1 z1 yc
    go_wp2_with fail
    obtain ⟨v1, hv1⟩ : ∃ v, Value.slice (some ⟨g1, 0, none⟩) (hs.length + 1) cp1 = v := ⟨_, rfl⟩
    obtain ⟨W2, hW2⟩ : ∃ V, w1.setCell ⟨x, 1, none⟩ (.slice (some ⟨g1, 0, none⟩) (hs.length + 1) cp1) = V := ⟨_, rfl⟩
    rw [hW2, hv1] at HF2
    rw [hW2, hv1]
    clear c1 f1 hW2 hv1
    have c2 : W2.cell? ⟨x, 2, none⟩ = some (.slice Am ms.length cm) := HF2.out.1.c.cell 2
    have c3 : W2.cell? ⟨x, 3, none⟩ = some (.slice Ap ps.length cp) := HF2.out.1.c.cell 3
    have q2 : ∀ p : Later (fun k => (Value.slice Ap ps.length cp).ownBlock = some k) W2, p.W.cell? ⟨x, 2, none⟩ = some (.slice Am ms.length cm) := fun p => cell_later c2 HF2.out.1.xp p
    have q3 : ∀ p : Later (fun k => (Value.slice Ap ps.length cp).ownBlock = some k) W2, p.W.cell? ⟨x, 3, none⟩ = some (.slice Ap ps.length cp) := fun p => cell_later c3 HF2.out.1.xp p
    clear c2 c3
    refine wp_region_mix0 (fun i => if i = 10 then 2 else if i = 11 then 2 else if 12 ≤ i then 3 else 0) [0, 1, 2, 3, 4, 5, 6, 7, 8, 9] [10, 11, 12, 13, 14] (fun w' => ∃ p : Later (fun k => (Value.slice Ap ps.length cp).ownBlock = some k) W2, w' = p.W) (by kernel_rfl) (by kernel_rfl) ⟨⟨_, Fz.drew W2⟩, rfl⟩ ?_
    simp only [opsAt, List.filterMap_cons, List.filterMap_nil, List.getElem?_toArray, List.getElem?_cons_zero, List.getElem?_cons_succ]
    change wpQuiet _ _ _ _ [_, _, _, _, _, _, _, _, _, _] _
    repeat (go_big_quiet_step (fail))
    refine wpQuiet_nil ?_
    clear q2 q3
    have bd := (Fz.drew (X := fun _ => False) W2).below (B := W2.heap.size) (Nat.le_refl _) (fun _ _ h => h)
    have r2 := HF2.out.1.below bd
    have z2 := HF2.out.2.trans (Fz.drew (X := fun k => base ≤ k ∧ ¬ O k) W2)
    have zz := Fz.drew (X := (fun k => (Value.slice Ap ps.length cp).ownBlock = some k)) W2
    clear bd
    generalize ({ W2 with drawn := W2.drawn + 1 } : World) = W3 at *
    have hs3 : base ≤ W3.heap.size := by have := r2.c.lt; omega
    have HF3 := Lib.hid (And.intro r2 (And.intro z2 zz))
    clear r2 z2 zz
    refine wpSeqM_step rfl ?_
    go_wp2_with fail
    refine ⟨⟨⟨_, HF3.out.2.2.trans (Fz.of_below (below_new W3 _))⟩, rfl⟩, ?_⟩
    refine wpSeqM_step rfl ?_
    refine wpList_app1 Try.underlying25 info3 (by omega) rfl (.tmp 31) (.tmp 37) rfl base _ ps.length (iL ps) (.int .i64 (ms.length : Int)) rfl rfl W3 HF3.out.1.op rfl rfl (by omega) (by omega) ?_
    intro g2 cp2 w2 ho2 hg2 hn2 hl2
    have yc2 := (hg2.block x HF3.out.1.c.lt (fun e => HF3.out.1.xp e.symm)).trans HF3.out.1.c
    have d3 : w2.cell? ⟨x, 3, none⟩ = some (.slice Ap ps.length cp) := Cells.cell yc2 3
    have f3 : w2.frozen? ⟨x, 3, none⟩ = false := Cells.froz yc2 3
    have hcl : Fz (fun k => (Value.slice Ap ps.length cp).ownBlock = some k) W2 w2 := HF3.out.2.2.trans (Fz.of_grown hg2 (fun k e => e))
    obtain ⟨r3, z3⟩ := HF3.out.1.appP (ms.length : Int) ho2 hg2 hn2
    have HF4 := Lib.hid (And.intro r3 (And.intro (HF3.out.2.1.trans z3) hcl))
    clear ho2 hg2 hn2 r3 z3 yc2 hcl
    go_wp2_with fail
    refine ⟨⟨⟨_, HF4.out.2.2⟩, rfl⟩, ?_⟩
    refine wpSeqM_step rfl ?_
    go_wp2_with fail
    refine wpSeqM_step rfl ?_
    go_wp2_with fail
    refine wpSeqM_step rfl ?_
    go_wp2_with fail
    unfold wpSeqM
    obtain ⟨v2, hv2⟩ : ∃ v, Value.slice (some ⟨g2, 0, none⟩) (ps.length + 1) cp2 = v := ⟨_, rfl⟩
    obtain ⟨W5, hW5⟩ : ∃ V, w2.setCell ⟨x, 3, none⟩ (.slice (some ⟨g2, 0, none⟩) (ps.length + 1) cp2) = V := ⟨_, rfl⟩
    rw [hW5, hv2] at HF4
    rw [hW5, hv2]
    clear d3 f3 hW5 hv2
    have c2 : W5.cell? ⟨x, 2, none⟩ = some (.slice Am ms.length cm) := HF4.out.1.c.cell 2
    have f2 : W5.frozen? ⟨x, 2, none⟩ = false := HF4.out.1.c.froz 2
    have hs5 : base ≤ W5.heap.size := by have := HF4.out.1.c.lt; omega
    go_wp2_with (first
      | (at_builtin; refine wpList_app1 Try.underlying25 info3 (by omega) rfl (.tmp 47) (.tmp 49) rfl base _ ms.length (iL ms) (.int .i64 c) rfl rfl W5 HF4.out.1.om rfl rfl (by omega) (by omega) ?_)
      | fail)
    intro g3 cp3 w3 ho3 hg3 hn3 hl3
    have yc3 := (hg3.block x HF4.out.1.c.lt (fun e => HF4.out.1.xm e.symm)).trans HF4.out.1.c
    have d2 : w3.cell? ⟨x, 2, none⟩ = some (.slice Am ms.length cm) := Cells.cell yc3 2
    have f2 : w3.frozen? ⟨x, 2, none⟩ = false := Cells.froz yc3 2
    obtain ⟨r5, z5⟩ := HF4.out.1.appM c hc ho3 hg3 hn3
    have HF5 := Lib.hid (And.intro r5 (HF4.out.2.1.trans z5))
    clear ho3 hg3 hn3 r5 z5 yc3
    go_wp2_with fail
    go_end0
    exact ⟨rfl, false, v1, _, v2, by simp, by simpa using HF5.out.1, HBZ.out.trans HF5.out.2⟩
  | true =>
    cases a2 with
    | false =>
      go_enter Try.func77, Try.ntmps77
      go_wp2_with fail
      refine CC.mono ?_
      rintro e w1 ⟨rfl, rfl⟩
      clear CC
      go_wp2_with fail
      refine CH.mono ?_
      rintro e W ⟨rfl, hbW⟩
      clear CH
      have HBZ := Lib.hid (Fz.of_below (X := fun k => base ≤ k ∧ ¬ O k) hbW)
      have h1 := h.below hbW
      have hbs := hbW.size
      clear h hbW
      have xc := h1.c
      have c1 : W.cell? ⟨x, 1, none⟩ = some (.slice Ah hs.length ch) := xc.cell 1
      have hxl := xc.lt
      have hsz := h1.bx
      have HF1 := Lib.hid h1
      clear h1 xc
      go_wp2_with (first
        | (at_builtin; refine wpList_app1 Try.underlying52 info4 (by omega) rfl (.tmp 21) (.tmp 23) rfl base _ hs.length (bL hs) (.bool false) rfl rfl W HF1.out.oh rfl rfl (by omega) (by omega) ?_)
        | fail)
      intro g1 cp1 w1 ho1 hg1 hn1 hl1
      have yc := (hg1.block x hxl (fun e => HF1.out.xh e.symm)).trans HF1.out.c
      have c1 : w1.cell? ⟨x, 1, none⟩ = some (.slice Ah hs.length ch) := Cells.cell yc 1
      have f1 : w1.frozen? ⟨x, 1, none⟩ = false := Cells.froz yc 1
      obtain ⟨r1, z1⟩ := HF1.out.appH false ho1 hg1 hn1
      have HF2 := Lib.hid (And.intro r1 z1)
      clear ho1 hg1 hn1 r1 z1 yc
      go_wp2_with fail
      obtain ⟨v1, hv1⟩ : ∃ v, Value.slice (some ⟨g1, 0, none⟩) (hs.length + 1) cp1 = v := ⟨_, rfl⟩
      obtain ⟨W2, hW2⟩ : ∃ V, w1.setCell ⟨x, 1, none⟩ (.slice (some ⟨g1, 0, none⟩) (hs.length + 1) cp1) = V := ⟨_, rfl⟩
      rw [hW2, hv1] at HF2
      rw [hW2, hv1]
      clear c1 f1 hW2 hv1
      have c2 : W2.cell? ⟨x, 2, none⟩ = some (.slice Am ms.length cm) := HF2.out.1.c.cell 2
      have c3 : W2.cell? ⟨x, 3, none⟩ = some (.slice Ap ps.length cp) := HF2.out.1.c.cell 3
      have q2 : ∀ p : Later (fun k => (Value.slice Ap ps.length cp).ownBlock = some k) W2, p.W.cell? ⟨x, 2, none⟩ = some (.slice Am ms.length cm) := fun p => cell_later c2 HF2.out.1.xp p
      have q3 : ∀ p : Later (fun k => (Value.slice Ap ps.length cp).ownBlock = some k) W2, p.W.cell? ⟨x, 3, none⟩ = some (.slice Ap ps.length cp) := fun p => cell_later c3 HF2.out.1.xp p
      clear c2 c3
      refine wp_region_mix0 (fun i => if i = 10 then 2 else if i = 11 then 2 else if 12 ≤ i then 3 else 0) [0, 1, 2, 3, 4, 5, 6, 7, 8, 9] [10, 11, 12, 13, 14] (fun w' => ∃ p : Later (fun k => (Value.slice Ap ps.length cp).ownBlock = some k) W2, w' = p.W) (by kernel_rfl) (by kernel_rfl) ⟨⟨_, Fz.drew W2⟩, rfl⟩ ?_
      simp only [opsAt, List.filterMap_cons, List.filterMap_nil, List.getElem?_toArray, List.getElem?_cons_zero, List.getElem?_cons_succ]
      change wpQuiet _ _ _ _ [_, _, _, _, _, _, _, _, _, _] _
      repeat (go_big_quiet_step (fail))
      refine wpQuiet_nil ?_
      clear q2 q3
      have bd := (Fz.drew (X := fun _ => False) W2).below (B := W2.heap.size) (Nat.le_refl _) (fun _ _ h => h)
      have r2 := HF2.out.1.below bd
      have z2 := HF2.out.2.trans (Fz.drew (X := fun k => base ≤ k ∧ ¬ O k) W2)
      have zz := Fz.drew (X := (fun k => (Value.slice Ap ps.length cp).ownBlock = some k)) W2
      clear bd
      generalize ({ W2 with drawn := W2.drawn + 1 } : World) = W3 at *
      have hs3 : base ≤ W3.heap.size := by have := r2.c.lt; omega
      have HF3 := Lib.hid (And.intro r2 (And.intro z2 zz))
      clear r2 z2 zz
      refine wpSeqM_step rfl ?_
      go_wp2_with fail
      refine ⟨⟨⟨_, HF3.out.2.2.trans (Fz.of_below (below_new W3 _))⟩, rfl⟩, ?_⟩
      refine wpSeqM_step rfl ?_
      refine wpList_app1 Try.underlying25 info3 (by omega) rfl (.tmp 31) (.tmp 37) rfl base _ ps.length (iL ps) (.int .i64 (ms.length : Int)) rfl rfl W3 HF3.out.1.op rfl rfl (by omega) (by omega) ?_
      intro g2 cp2 w2 ho2 hg2 hn2 hl2
      have yc2 := (hg2.block x HF3.out.1.c.lt (fun e => HF3.out.1.xp e.symm)).trans HF3.out.1.c
      have d3 : w2.cell? ⟨x, 3, none⟩ = some (.slice Ap ps.length cp) := Cells.cell yc2 3
      have f3 : w2.frozen? ⟨x, 3, none⟩ = false := Cells.froz yc2 3
      have hcl : Fz (fun k => (Value.slice Ap ps.length cp).ownBlock = some k) W2 w2 := HF3.out.2.2.trans (Fz.of_grown hg2 (fun k e => e))
      obtain ⟨r3, z3⟩ := HF3.out.1.appP (ms.length : Int) ho2 hg2 hn2
      have HF4 := Lib.hid (And.intro r3 (And.intro (HF3.out.2.1.trans z3) hcl))
      clear ho2 hg2 hn2 r3 z3 yc2 hcl
      go_wp2_with fail
      refine ⟨⟨⟨_, HF4.out.2.2⟩, rfl⟩, ?_⟩
      refine wpSeqM_step rfl ?_
      go_wp2_with fail
      refine wpSeqM_step rfl ?_
      go_wp2_with fail
      refine wpSeqM_step rfl ?_
      go_wp2_with fail
      unfold wpSeqM
      obtain ⟨v2, hv2⟩ : ∃ v, Value.slice (some ⟨g2, 0, none⟩) (ps.length + 1) cp2 = v := ⟨_, rfl⟩
      obtain ⟨W5, hW5⟩ : ∃ V, w2.setCell ⟨x, 3, none⟩ (.slice (some ⟨g2, 0, none⟩) (ps.length + 1) cp2) = V := ⟨_, rfl⟩
      rw [hW5, hv2] at HF4
      rw [hW5, hv2]
      clear d3 f3 hW5 hv2
      have c2 : W5.cell? ⟨x, 2, none⟩ = some (.slice Am ms.length cm) := HF4.out.1.c.cell 2
      have f2 : W5.frozen? ⟨x, 2, none⟩ = false := HF4.out.1.c.froz 2
      have hs5 : base ≤ W5.heap.size := by have := HF4.out.1.c.lt; omega
      go_wp2_with (first
        | (at_builtin; refine wpList_app1 Try.underlying25 info3 (by omega) rfl (.tmp 47) (.tmp 49) rfl base _ ms.length (iL ms) (.int .i64 c) rfl rfl W5 HF4.out.1.om rfl rfl (by omega) (by omega) ?_)
        | fail)
      intro g3 cp3 w3 ho3 hg3 hn3 hl3
      have yc3 := (hg3.block x HF4.out.1.c.lt (fun e => HF4.out.1.xm e.symm)).trans HF4.out.1.c
      have d2 : w3.cell? ⟨x, 2, none⟩ = some (.slice Am ms.length cm) := Cells.cell yc3 2
      have f2 : w3.frozen? ⟨x, 2, none⟩ = false := Cells.froz yc3 2
      obtain ⟨r5, z5⟩ := HF4.out.1.appM c hc ho3 hg3 hn3
      have HF5 := Lib.hid (And.intro r5 (HF4.out.2.1.trans z5))
      clear ho3 hg3 hn3 r5 z5 yc3
      go_wp2_with fail
      go_end0
      exact ⟨rfl, false, v1, _, v2, rfl, by simpa using HF5.out.1, HBZ.out.trans HF5.out.2⟩
    | true =>
      go_enter Try.func77, Try.ntmps77
      go_wp2_with fail
      refine CC.mono ?_
      rintro e w1 ⟨rfl, rfl⟩
      clear CC
      go_wp2_with fail
      refine CH.mono ?_
      rintro e W ⟨rfl, hbW⟩
      clear CH
      have HBZ := Lib.hid (Fz.of_below (X := fun k => base ≤ k ∧ ¬ O k) hbW)
      have h1 := h.below hbW
      have hbs := hbW.size
      clear h hbW
      have xc := h1.c
      have c1 : W.cell? ⟨x, 1, none⟩ = some (.slice Ah hs.length ch) := xc.cell 1
      have hxl := xc.lt
      have hsz := h1.bx
      have HF1 := Lib.hid h1
      clear h1 xc
      go_wp2_with (first
        | (at_builtin; refine wpList_app1 Try.underlying52 info4 (by omega) rfl (.tmp 21) (.tmp 23) rfl base _ hs.length (bL hs) (.bool true) rfl rfl W HF1.out.oh rfl rfl (by omega) (by omega) ?_)
        | fail)
      intro g1 cp1 w1 ho1 hg1 hn1 hl1
      have yc := (hg1.block x hxl (fun e => HF1.out.xh e.symm)).trans HF1.out.c
      have c1 : w1.cell? ⟨x, 1, none⟩ = some (.slice Ah hs.length ch) := Cells.cell yc 1
      have f1 : w1.frozen? ⟨x, 1, none⟩ = false := Cells.froz yc 1
      obtain ⟨r1, z1⟩ := HF1.out.appH true ho1 hg1 hn1
      have HF2 := Lib.hid (And.intro r1 z1)
      clear ho1 hg1 hn1 r1 z1 yc
      go_wp2_with fail
      obtain ⟨v1, hv1⟩ : ∃ v, Value.slice (some ⟨g1, 0, none⟩) (hs.length + 1) cp1 = v := ⟨_, rfl⟩
      obtain ⟨W2, hW2⟩ : ∃ V, w1.setCell ⟨x, 1, none⟩ (.slice (some ⟨g1, 0, none⟩) (hs.length + 1) cp1) = V := ⟨_, rfl⟩
      rw [hW2, hv1] at HF2
      rw [hW2, hv1]
      clear c1 f1 hW2 hv1
      have c2 : W2.cell? ⟨x, 2, none⟩ = some (.slice Am ms.length cm) := HF2.out.1.c.cell 2
      have c3 : W2.cell? ⟨x, 3, none⟩ = some (.slice Ap ps.length cp) := HF2.out.1.c.cell 3
      have q2 : ∀ p : Later (fun k => (Value.slice Ap ps.length cp).ownBlock = some k) W2, p.W.cell? ⟨x, 2, none⟩ = some (.slice Am ms.length cm) := fun p => cell_later c2 HF2.out.1.xp p
      have q3 : ∀ p : Later (fun k => (Value.slice Ap ps.length cp).ownBlock = some k) W2, p.W.cell? ⟨x, 3, none⟩ = some (.slice Ap ps.length cp) := fun p => cell_later c3 HF2.out.1.xp p
      clear c2 c3
      refine wp_region_mix0 (fun i => if i = 10 then 2 else if i = 11 then 2 else if 12 ≤ i then 3 else 0) [0, 1, 2, 3, 4, 5, 6, 7, 8, 9] [10, 11, 12, 13, 14] (fun w' => ∃ p : Later (fun k => (Value.slice Ap ps.length cp).ownBlock = some k) W2, w' = p.W) (by kernel_rfl) (by kernel_rfl) ⟨⟨_, Fz.drew W2⟩, rfl⟩ ?_
      simp only [opsAt, List.filterMap_cons, List.filterMap_nil, List.getElem?_toArray, List.getElem?_cons_zero, List.getElem?_cons_succ]
      change wpQuiet _ _ _ _ [_, _, _, _, _, _, _, _, _, _] _
      repeat (go_big_quiet_step (fail))
      refine wpQuiet_nil ?_
      clear q2 q3
      have bd := (Fz.drew (X := fun _ => False) W2).below (B := W2.heap.size) (Nat.le_refl _) (fun _ _ h => h)
      have r2 := HF2.out.1.below bd
      have z2 := HF2.out.2.trans (Fz.drew (X := fun k => base ≤ k ∧ ¬ O k) W2)
      have zz := Fz.drew (X := (fun k => (Value.slice Ap ps.length cp).ownBlock = some k)) W2
      clear bd
      generalize ({ W2 with drawn := W2.drawn + 1 } : World) = W3 at *
      have hs3 : base ≤ W3.heap.size := by have := r2.c.lt; omega
      have HF3 := Lib.hid (And.intro r2 (And.intro z2 zz))
      clear r2 z2 zz
      refine wpSeqM_step rfl ?_
      go_wp2_with fail
      refine ⟨⟨⟨_, HF3.out.2.2.trans (Fz.of_below (below_new W3 _))⟩, rfl⟩, ?_⟩
      refine wpSeqM_step rfl ?_
      refine wpList_app1 Try.underlying25 info3 (by omega) rfl (.tmp 31) (.tmp 37) rfl base _ ps.length (iL ps) (.int .i64 (ms.length : Int)) rfl rfl W3 HF3.out.1.op rfl rfl (by omega) (by omega) ?_
      intro g2 cp2 w2 ho2 hg2 hn2 hl2
      have yc2 := (hg2.block x HF3.out.1.c.lt (fun e => HF3.out.1.xp e.symm)).trans HF3.out.1.c
      have d3 : w2.cell? ⟨x, 3, none⟩ = some (.slice Ap ps.length cp) := Cells.cell yc2 3
      have f3 : w2.frozen? ⟨x, 3, none⟩ = false := Cells.froz yc2 3
      have hcl : Fz (fun k => (Value.slice Ap ps.length cp).ownBlock = some k) W2 w2 := HF3.out.2.2.trans (Fz.of_grown hg2 (fun k e => e))
      obtain ⟨r3, z3⟩ := HF3.out.1.appP (ms.length : Int) ho2 hg2 hn2
      have HF4 := Lib.hid (And.intro r3 (And.intro (HF3.out.2.1.trans z3) hcl))
      clear ho2 hg2 hn2 r3 z3 yc2 hcl
      go_wp2_with fail
      refine ⟨⟨⟨_, HF4.out.2.2⟩, rfl⟩, ?_⟩
      refine wpSeqM_step rfl ?_
      go_wp2_with fail
      refine wpSeqM_step rfl ?_
      go_wp2_with fail
      refine wpSeqM_step rfl ?_
      go_wp2_with fail
      unfold wpSeqM
      obtain ⟨v2, hv2⟩ : ∃ v, Value.slice (some ⟨g2, 0, none⟩) (ps.length + 1) cp2 = v := ⟨_, rfl⟩
      obtain ⟨W5, hW5⟩ : ∃ V, w2.setCell ⟨x, 3, none⟩ (.slice (some ⟨g2, 0, none⟩) (ps.length + 1) cp2) = V := ⟨_, rfl⟩
      rw [hW5, hv2] at HF4
      rw [hW5, hv2]
      clear d3 f3 hW5 hv2
      have c2 : W5.cell? ⟨x, 2, none⟩ = some (.slice Am ms.length cm) := HF4.out.1.c.cell 2
      have f2 : W5.frozen? ⟨x, 2, none⟩ = false := HF4.out.1.c.froz 2
      have hs5 : base ≤ W5.heap.size := by have := HF4.out.1.c.lt; omega
      go_wp2_with fail
      go_end0
      exact ⟨rfl, true, v1, _, v2, rfl, by simpa using HF4.out.1, HBZ.out.trans HF4.out.2.1⟩
end Go.Proofs.Ytegkogadceodlaa
