/-
  A span in memory: two sets and a truth value; laws for the walk.
  Contracts: expr.isClass, Node.isShaped.
  Contracts: expr.Node.isShaped.
  A function that is yielded to node by node, and what it comes to; what one block's turning leaves of an expression; the function that Right yields to.
  Contracts: expr.Node.each at the function that Right yields to; expr.Right.
  Contracts: expr.Right.
  Plain mathematics: which expressions are right; how long their longest and shortest lists are.
  Contracts: a leaf by itself: takes, newState, step, Matches of one mark.
  Contracts: a leaf by itself: newState, step, Matches of one mark.
  Contracts: (*NFA).readLeaf.
  How many places a part has; one part more of a list. No program.
  What holds in the midst of a list of parts: the automaton, the span of what was read, the span of the part at hand.
-/
import Derived.Test.YtmldgfplnacecaaDoorXqa
import Derived.IntWalk
namespace Go.Proofs.YtmldgfplnacecaaDoor
open Go.RowKit Go.Shelf Go.Lib Go.Great Go.Maps

def spL (p : Sp) : List Value := plL p.first ++ (plL p.last ++ [.bool p.empty])
theorem spL_len (p : Sp) : (spL p).length = 33 := by simp [spL, plL_len]
theorem spL_one (p : Sp) : (spL p).toArray.all (·.oneCell') = true := by
  rw [Array.all_eq_true_iff_forall_mem]
  intro v hv
  simp only [List.mem_toArray, spL, plL, List.mem_append, List.mem_map, List.mem_singleton] at hv
  rcases hv with ⟨j, _, rfl⟩ | ⟨j, _, rfl⟩ | rfl <;> rfl
theorem size80 : (Tryd.prog.info? 125).map (·.size) = some 33 := by kernel_rfl
def spV (p : Sp) : Value := .agg (spL p).toArray
def sp0 : Sp := ⟨0, 0, false⟩
structure SpAt (w : World) (b : Nat) (p : Sp) : Prop where
  f : PlAt w b 0 p.first
  l : PlAt w b 16 p.last
  e : w.cell? ⟨b, 32, none⟩ = some (.bool p.empty)
  z : w.frozen? ⟨b, 32, none⟩ = false
theorem spL_get1 (p : Sp) {i : Nat} (h : i < 16) : (spL p)[i]? = some (.int .u64 (wd p.first i : Nat)) := by
  unfold spL; rw [List.getElem?_append_left (by rw [plL_len]; exact h)]; exact plL_get _ _ h
theorem spL_get2 (p : Sp) {i : Nat} (h : i < 16) : (spL p)[16 + i]? = some (.int .u64 (wd p.last i : Nat)) := by
  unfold spL
  rw [List.getElem?_append_right (by rw [plL_len]; omega), List.getElem?_append_left (by rw [plL_len]; rw [plL_len]; omega), plL_len]
  rw [show 16 + i - 16 = i by omega]
  exact plL_get _ _ h
theorem spL_get3 (p : Sp) : (spL p)[32]? = some (.bool p.empty) := by
  unfold spL
  rw [List.getElem?_append_right (by rw [plL_len]; omega), List.getElem?_append_right (by rw [plL_len]; rw [plL_len]; omega), plL_len, plL_len]
  rfl
theorem SpAt.lt {w : World} {b : Nat} {p : Sp} (h : SpAt w b p) : b < w.heap.size := h.f.lt
theorem SpAt.block {w w' : World} {b : Nat} {p : Sp} (h : SpAt w b p) (hb : w'.heap[b]? = w.heap[b]?) : SpAt w' b p :=
  ⟨h.f.block hb, h.l.block hb, (World.cell?_of_block (w := w) (w' := w') (a := ⟨b, 32, none⟩) hb).trans h.e, (World.frozen?_of_block (w := w) (w' := w') (a := ⟨b, 32, none⟩) hb).trans h.z⟩
theorem SpAt.range {w : World} {b : Nat} {p : Sp} (h : SpAt w b p) : w.rangeAt b 0 (spL p) := by
  intro j v hv
  have hj : j < 33 := by have := (List.getElem?_eq_some_iff.1 hv).1; rw [spL_len] at this; exact this
  rw [Nat.zero_add]
  by_cases h1 : j < 16
  · rw [spL_get1 p h1] at hv; rw [← hv]; simpa using (h.f j h1).1
  · by_cases h2 : j < 32
    · obtain ⟨i, rfl⟩ : ∃ i, j = 16 + i := ⟨j - 16, by omega⟩
      rw [spL_get2 p (by omega)] at hv; rw [← hv]; exact (h.l i (by omega)).1
    · obtain rfl : j = 32 := by omega
      rw [spL_get3] at hv; rw [← hv]; exact h.e
theorem SpAt.there {w : World} {b : Nat} {p : Sp} (h : SpAt w b p) : w.there b 0 33 := fun j hj => by
  rw [Nat.zero_add]
  by_cases h1 : j < 16
  · have := h.f j h1; rw [Nat.zero_add] at this; exact ⟨by rw [this.1]; rfl, this.2⟩
  · by_cases h2 : j < 32
    · obtain ⟨i, rfl⟩ : ∃ i, j = 16 + i := ⟨j - 16, by omega⟩
      have := h.l i (by omega); exact ⟨by rw [this.1]; rfl, this.2⟩
    · obtain rfl : j = 32 := by omega
      exact ⟨by rw [h.e]; rfl, h.z⟩
theorem spAt_of {w : World} {b : Nat} {p : Sp} (h : ∀ j v, (spL p)[j]? = some v → w.cell? ⟨b, j, none⟩ = some v ∧ w.frozen? ⟨b, j, none⟩ = false) : SpAt w b p :=
  ⟨fun i hi => by rw [Nat.zero_add]; exact h i _ (spL_get1 p hi), fun i hi => h (16 + i) _ (spL_get2 p hi), (h 32 _ (spL_get3 p)).1, (h 32 _ (spL_get3 p)).2⟩
def Z80 : Array Value := (spL sp0).toArray
theorem spAt_new (w : World) (p : Sp) : SpAt (w.alloc (.cells (spL p).toArray 125)) w.heap.size p := spAt_of fun j v hv => by
  constructor
  · rw [World.cell?_alloc_new]; simpa using hv
  · exact World.frozen?_alloc_new _ _ _ _
theorem wpList_alloc80 {ops : Array Oper} {rest : List Oper} {o : Oper} {a : Act} {w : World} {Q : Exit → Act → World → Prop} (hg : o.guard = none) (dst : Tmp) (hdst : o.dst = some dst) (ho : o.op = .alloc 125)
    (N : Nat) (hN : w.heap.size = N) (W : World) (hW : w.alloc (.cells Z80 125) = W)
    (h : wpList Tryd.prog ops Q rest (a.put (some dst) (.pointer (some ⟨N, 0, none⟩))) W) : wpList Tryd.prog ops Q (o :: rest) a w := by
  subst hN hW
  refine wpList_allocTo hg (some dst) hdst (.pointer (some ⟨w.heap.size, 0, none⟩)) (.cells Z80 125) ?_ h
  obtain ⟨d, op, t, pos, aft, g⟩ := o
  dsimp only at ho
  subst ho
  kernel_rfl
/-- Behind the store of a span. -/
structure SpSet (w w' : World) (b : Nat) (p : Sp) : Prop where
  grown : w.grownBy w' (some b)
  at_ : SpAt w' b p
theorem spSet_cells {w : World} {b : Nat} {p : Sp} (p' : Sp) (h : SpAt w b p) : SpSet w (w.setCells b 0 (spL p').toArray.toList) b p' := by
  have hl := spL_len p'
  have ht := h.there
  simp only
  refine ⟨grown_setCells _ _ _ _, spAt_of fun j v hv => ?_⟩
  have hj : j < 33 := by have := (List.getElem?_eq_some_iff.1 hv).1; omega
  have hz := ht j hj
  rw [Nat.zero_add] at hz
  constructor
  · have h2 := World.cell?_setCells_in b (spL p') 0 w (fun i hi => (ht i (by omega)).1) j (by omega)
    rw [Nat.zero_add] at h2
    rw [h2]
    rw [List.getElem?_eq_getElem (by omega)] at hv
    exact hv
  · rw [World.frozen?_setCells]; exact hz.2
theorem wpList_storeSp {ops : Array Oper} {rest : List Oper} {o : Oper} {a : Act} {w : World} {Q : Exit → Act → World → Prop} (hg : o.guard = none) (x y : Operand) (ho : o.op = .store 125 x y) (hd : o.dst = none)
    (b : Nat) (p p' : Sp) (hx : a.eval x = .pointer (some ⟨b, 0, none⟩)) (hy : a.eval y = .agg (spL p').toArray) (hat : SpAt w b p)
    (h : ∀ W, SpSet w W b p' → wpList Tryd.prog ops Q rest a W) : wpList Tryd.prog ops Q (o :: rest) a w := by
  refine wpList_store_mid hg 125 x y ho b 0 (spL p').toArray hx hy (by simpa [spL_len] using hat.there) (by rw [size80]; simp [spL_len]) (spL_one _) ?_
  rw [hd]
  exact h _ (spSet_cells p' hat)
theorem wpList_loadSp {ops : Array Oper} {rest : List Oper} {o : Oper} {a : Act} {w : World} {Q : Exit → Act → World → Prop} (hg : o.guard = none) (x : Operand) (ho : o.op = .load 125 x)
    (b : Nat) (p : Sp) (hx : a.eval x = .pointer (some ⟨b, 0, none⟩)) (hat : SpAt w b p)
    (h : wpList Tryd.prog ops Q rest (a.put o.dst (.agg (spL p).toArray)) w) : wpList Tryd.prog ops Q (o :: rest) a w :=
  wpList_load_mid hg 125 x ho b 0 hx (spL p) _ hat.range Tryd.underlying125 rfl (by rw [spL_len]; exact size80) h
theorem results_sp {fn : Func} {t : Tmp} (h : fn.results = #[.cell t 125]) (tmps : Array Value) (w : World) (b : Nat) (p : Sp) (hp : tmps.getD t undef = .pointer (some ⟨b, 0, none⟩)) (hat : SpAt w b p) :
    (results fn tmps).run Tryd.prog w = .ok (.agg (spL p).toArray) w := by
  have hp' : tmps[t]?.getD undef = .pointer (some ⟨b, 0, none⟩) := by simpa using hp
  simp [results, h, hp', asAddr, run_loadVar_mid w b 0 125 (spL p) _ hat.range Tryd.underlying125 rfl (by rw [spL_len]; exact size80)]
theorem built_empty : (Tryd.prog.built 125 [(2, .bool true)]) = some (spL ⟨0, 0, true⟩).toArray := by kernel_rfl
theorem built_leaf (m : Nat) : (Tryd.prog.built 125 [(0, .agg (plL m).toArray), (1, .agg (plL m).toArray)]) = some (spL ⟨m, m, false⟩).toArray := by kernel_rfl
theorem wpList_buildLeaf {ops : Array Oper} {rest : List Oper} {o : Oper} {a : Act} {w : World} {Q : Exit → Act → World → Prop} (hg : o.guard = none) (x y : Operand) (ho : o.op = .build 125 #[(0, x), (1, y)]) (m : Nat)
    (hx : a.eval x = .agg (plL m).toArray) (hy : a.eval y = .agg (plL m).toArray)
    (h : wpList Tryd.prog ops Q rest (a.put o.dst (.agg (spL ⟨m, m, false⟩).toArray)) w) : wpList Tryd.prog ops Q (o :: rest) a w := by
  have e : (Array.map (fun (i, x) => (i, a.eval x)) #[((0 : Nat), x), (1, y)]).toList = [(0, .agg (plL m).toArray), (1, .agg (plL m).toArray)] := by simp [hx, hy]
  refine wpList_build hg 125 _ ho (by rw [e, built_leaf]; rfl) ?_
  rw [e, built_leaf]
  exact h
theorem wpList_buildEmpty {ops : Array Oper} {rest : List Oper} {o : Oper} {a : Act} {w : World} {Q : Exit → Act → World → Prop} (hg : o.guard = none) (ho : o.op = .build 125 #[(2, .const (.bool true))])
    (h : wpList Tryd.prog ops Q rest (a.put o.dst (.agg (spL ⟨0, 0, true⟩).toArray)) w) : wpList Tryd.prog ops Q (o :: rest) a w := by
  have e : (Array.map (fun (i, x) => (i, a.eval x)) #[((2 : Nat), Operand.const (.bool true))]).toList = [(2, .bool true)] := by simp [Act.eval]
  refine wpList_build hg 125 _ ho (by rw [e, built_empty]; rfl) ?_
  rw [e, built_empty]
  exact h
/-- One of the two sets has turned. -/
theorem SpAt.first {w w' : World} {b m : Nat} {p : Sp} (h : SpAt w b p) (hs : PlSet w w' b 0 m) : SpAt w' b ⟨m, p.last, p.empty⟩ :=
  ⟨hs.at_, fun i hi => ⟨(hs.cell _ (.inr (by omega))).trans (h.l i hi).1, (hs.frozen _ (.inr (by omega))).trans (h.l i hi).2⟩, (hs.cell _ (.inr (by omega))).trans h.e, (hs.frozen _ (.inr (by omega))).trans h.z⟩
theorem SpAt.last {w w' : World} {b m : Nat} {p : Sp} (h : SpAt w b p) (hs : PlSet w w' b 16 m) : SpAt w' b ⟨p.first, m, p.empty⟩ :=
  ⟨fun i hi => ⟨(hs.cell _ (.inl (by omega))).trans (h.f i hi).1, (hs.frozen _ (.inl (by omega))).trans (h.f i hi).2⟩, hs.at_, (hs.cell _ (.inr (by omega))).trans h.e, (hs.frozen _ (.inr (by omega))).trans h.z⟩
theorem SpAt.empty {w : World} {b : Nat} {p : Sp} (h : SpAt w b p) (e : Bool) : SpAt (w.setCell ⟨b, 32, none⟩ (.bool e)) b ⟨p.first, p.last, e⟩ :=
  ⟨fun i hi => ⟨by rw [World.cell?_setCell_other _ _ _ _ (by intro h3; injection h3 with h4 h5; omega)]; exact (h.f i hi).1, by rw [World.frozen?_setCell]; exact (h.f i hi).2⟩,
   fun i hi => ⟨by rw [World.cell?_setCell_other _ _ _ _ (by intro h3; injection h3 with h4 h5; omega)]; exact (h.l i hi).1, by rw [World.frozen?_setCell]; exact (h.l i hi).2⟩,
   World.cell?_setCell_same _ _ _ h.e, by rw [World.frozen?_setCell]; exact h.z⟩
theorem grown_setc (w : World) (b j : Nat) (v : Value) : w.grownBy (w.setCell ⟨b, j, none⟩ v) (some b) := ⟨rfl, rfl, rfl, by simp [World.setCell], fun k _ hk => Below.heap_setCell _ _ _ _ (fun e => hk (by rw [e]))⟩
end Go.Proofs.YtmldgfplnacecaaDoor

namespace Go.Proofs.YtmldgfplnacecaaDoor
open Go.RowKit Go.Shelf Go.Lib

def isC (n : Int) : Bool := decide (0 ≤ n) && decide (n < 36)
/-- Has a node a class and so many parts as its kind asks? -/
def shapedK (k c : Int) (n : Nat) : Bool :=
  if k = 0 ∨ k = 2 then isC c && decide (n = 0)
  else if k = 1 ∨ k = 3 ∨ k = 9 then decide (c = 0) && decide (n = 0)
  else if k = 4 ∨ k = 5 then decide (c = 0) && decide (2 ≤ n)
  else if k = 6 ∨ k = 7 ∨ k = 8 then decide (c = 0) && decide (n = 1)
  else false
theorem isClass_any (n : Int) (w : World) : Calls Tryd.prog 100 #[.int .i64 n] w fun r w' => r = .returned (.bool (isC n)) ∧ w' = w := by
  unfold isC
  by_cases h0 : 0 ≤ n
  · by_cases h1 : n < 36
    · rw [decide_eq_true h0, decide_eq_true h1]
      go_enter Tryd.func100, Tryd.ntmps100
      go_wp2
      go_ret
      exact ⟨rfl, rfl⟩
    · have h1' : decide (n < 36) = false := by simp; omega
      rw [decide_eq_true h0, h1']
      go_enter Tryd.func100, Tryd.ntmps100
      go_wp2
      go_ret
      exact ⟨rfl, rfl⟩
  · have h0' : decide (0 ≤ n) = false := by simp; omega
    rw [h0']
    go_enter Tryd.func100, Tryd.ntmps100
    go_wp2
    go_ret
    exact ⟨rfl, rfl⟩
end Go.Proofs.YtmldgfplnacecaaDoor

namespace Go.Proofs.YtmldgfplnacecaaDoor
open Go.RowKit Go.Shelf Go.Lib

set_option maxHeartbeats 4000000 in
theorem shaped_any (k c : Int) (A : Option Addr) (n cap : Nat) (w : World) (hn : n ≤ 9223372036854775807) :
    Calls Tryd.prog 91 #[.agg #[.int .i64 k, .int .i64 c, .slice A n cap]] w fun r w' => r = .returned (.bool (shapedK k c n)) ∧ Below w.heap.size w w' := by
  have C := Lib.hid (fun W => isClass_any c W)
  have hb0 := below_new w (.cells #[.int .i64 k, .int .i64 c, .slice A n cap] 91)
  obtain ⟨R, hR⟩ : ∃ R, shapedK k c n = R := ⟨_, rfl⟩
  rw [hR]
  unfold shapedK at hR
  by_cases k0 : k = 0
  · subst k0
    simp only [true_or, if_true] at hR
    obtain ⟨cb, hcb⟩ : ∃ cb, isC c = cb := ⟨_, rfl⟩
    have C1 := Lib.hid (C.out (w.alloc (.cells #[.int .i64 0, .int .i64 c, .slice A n cap] 91)))
    rw [hcb] at hR C1
    by_cases n0 : n = 0
    · subst n0
      cases cb
      all_goals
        simp at hR
        subst hR
        go_enter Tryd.func91, Tryd.ntmps91
        go_wp2_with fail
        refine C1.out.mono ?_
        rintro e w1 ⟨rfl, rfl⟩
        go_wp2
        go_ret
        exact ⟨rfl, hb0⟩
    · have n1 : ((n : Int) == 0) = false := by simpa using n0
      cases cb
      all_goals
        simp [n0] at hR
        subst hR
        go_enter Tryd.func91, Tryd.ntmps91
        go_wp2_with fail
        refine C1.out.mono ?_
        rintro e w1 ⟨rfl, rfl⟩
        go_wp2
        go_ret
        exact ⟨rfl, hb0⟩
  by_cases k2 : k = 2
  · subst k2
    simp only [or_true, if_true] at hR
    obtain ⟨cb, hcb⟩ : ∃ cb, isC c = cb := ⟨_, rfl⟩
    have C1 := Lib.hid (C.out (w.alloc (.cells #[.int .i64 2, .int .i64 c, .slice A n cap] 91)))
    rw [hcb] at hR C1
    by_cases n0 : n = 0
    · subst n0
      cases cb
      all_goals
        simp at hR
        subst hR
        go_enter Tryd.func91, Tryd.ntmps91
        go_wp2_with fail
        refine C1.out.mono ?_
        rintro e w1 ⟨rfl, rfl⟩
        go_wp2
        go_ret
        exact ⟨rfl, hb0⟩
    · have n1 : ((n : Int) == 0) = false := by simpa using n0
      cases cb
      all_goals
        simp [n0] at hR
        subst hR
        go_enter Tryd.func91, Tryd.ntmps91
        go_wp2_with fail
        refine C1.out.mono ?_
        rintro e w1 ⟨rfl, rfl⟩
        go_wp2
        go_ret
        exact ⟨rfl, hb0⟩
  by_cases k1 : k = 1
  · subst k1
    simp at hR
    by_cases c0 : c = 0
    · subst c0
      by_cases n0 : n = 0
      · have n1 : ((n : Int) == 0) = true := by simp; omega
        simp [n0] at hR
        subst hR
        go_enter Tryd.func91, Tryd.ntmps91
        go_wp2
        go_ret
        first
          | exact ⟨rfl, hb0⟩
          | (subst n0; exact ⟨rfl, hb0⟩)
      · have n1 : ((n : Int) == 0) = false := by simp; omega
        simp [n0] at hR
        subst hR
        go_enter Tryd.func91, Tryd.ntmps91
        go_wp2
        go_ret
        exact ⟨rfl, hb0⟩
    · have c1 : (c == 0) = false := by simpa using c0
      simp [c0] at hR
      subst hR
      go_enter Tryd.func91, Tryd.ntmps91
      go_wp2
      go_ret
      exact ⟨rfl, hb0⟩
  by_cases k3 : k = 3
  · subst k3
    simp at hR
    by_cases c0 : c = 0
    · subst c0
      by_cases n0 : n = 0
      · have n1 : ((n : Int) == 0) = true := by simp; omega
        simp [n0] at hR
        subst hR
        go_enter Tryd.func91, Tryd.ntmps91
        go_wp2
        go_ret
        first
          | exact ⟨rfl, hb0⟩
          | (subst n0; exact ⟨rfl, hb0⟩)
      · have n1 : ((n : Int) == 0) = false := by simp; omega
        simp [n0] at hR
        subst hR
        go_enter Tryd.func91, Tryd.ntmps91
        go_wp2
        go_ret
        exact ⟨rfl, hb0⟩
    · have c1 : (c == 0) = false := by simpa using c0
      simp [c0] at hR
      subst hR
      go_enter Tryd.func91, Tryd.ntmps91
      go_wp2
      go_ret
      exact ⟨rfl, hb0⟩
  by_cases k9 : k = 9
  · subst k9
    simp at hR
    by_cases c0 : c = 0
    · subst c0
      by_cases n0 : n = 0
      · have n1 : ((n : Int) == 0) = true := by simp; omega
        simp [n0] at hR
        subst hR
        go_enter Tryd.func91, Tryd.ntmps91
        go_wp2
        go_ret
        first
          | exact ⟨rfl, hb0⟩
          | (subst n0; exact ⟨rfl, hb0⟩)
      · have n1 : ((n : Int) == 0) = false := by simp; omega
        simp [n0] at hR
        subst hR
        go_enter Tryd.func91, Tryd.ntmps91
        go_wp2
        go_ret
        exact ⟨rfl, hb0⟩
    · have c1 : (c == 0) = false := by simpa using c0
      simp [c0] at hR
      subst hR
      go_enter Tryd.func91, Tryd.ntmps91
      go_wp2
      go_ret
      exact ⟨rfl, hb0⟩
  by_cases k4 : k = 4
  · subst k4
    simp at hR
    by_cases c0 : c = 0
    · subst c0
      by_cases n0 : 2 ≤ n
      · have n1 : decide ((2 : Int) ≤ (n : Int)) = true := by simp; omega
        simp [n0] at hR
        subst hR
        go_enter Tryd.func91, Tryd.ntmps91
        go_wp2
        go_ret
        first
          | exact ⟨rfl, hb0⟩
          | (subst n0; exact ⟨rfl, hb0⟩)
      · have n1 : decide ((2 : Int) ≤ (n : Int)) = false := by simp; omega
        simp [n0] at hR
        subst hR
        go_enter Tryd.func91, Tryd.ntmps91
        go_wp2
        go_ret
        exact ⟨rfl, hb0⟩
    · have c1 : (c == 0) = false := by simpa using c0
      simp [c0] at hR
      subst hR
      go_enter Tryd.func91, Tryd.ntmps91
      go_wp2
      go_ret
      exact ⟨rfl, hb0⟩
  by_cases k5 : k = 5
  · subst k5
    simp at hR
    by_cases c0 : c = 0
    · subst c0
      by_cases n0 : 2 ≤ n
      · have n1 : decide ((2 : Int) ≤ (n : Int)) = true := by simp; omega
        simp [n0] at hR
        subst hR
        go_enter Tryd.func91, Tryd.ntmps91
        go_wp2
        go_ret
        first
          | exact ⟨rfl, hb0⟩
          | (subst n0; exact ⟨rfl, hb0⟩)
      · have n1 : decide ((2 : Int) ≤ (n : Int)) = false := by simp; omega
        simp [n0] at hR
        subst hR
        go_enter Tryd.func91, Tryd.ntmps91
        go_wp2
        go_ret
        exact ⟨rfl, hb0⟩
    · have c1 : (c == 0) = false := by simpa using c0
      simp [c0] at hR
      subst hR
      go_enter Tryd.func91, Tryd.ntmps91
      go_wp2
      go_ret
      exact ⟨rfl, hb0⟩
  by_cases k6 : k = 6
  · subst k6
    simp at hR
    by_cases c0 : c = 0
    · subst c0
      by_cases n0 : n = 1
      · have n1 : ((n : Int) == 1) = true := by simp; omega
        simp [n0] at hR
        subst hR
        go_enter Tryd.func91, Tryd.ntmps91
        go_wp2
        go_ret
        first
          | exact ⟨rfl, hb0⟩
          | (subst n0; exact ⟨rfl, hb0⟩)
      · have n1 : ((n : Int) == 1) = false := by simp; omega
        simp [n0] at hR
        subst hR
        go_enter Tryd.func91, Tryd.ntmps91
        go_wp2
        go_ret
        exact ⟨rfl, hb0⟩
    · have c1 : (c == 0) = false := by simpa using c0
      simp [c0] at hR
      subst hR
      go_enter Tryd.func91, Tryd.ntmps91
      go_wp2
      go_ret
      exact ⟨rfl, hb0⟩
  by_cases k7 : k = 7
  · subst k7
    simp at hR
    by_cases c0 : c = 0
    · subst c0
      by_cases n0 : n = 1
      · have n1 : ((n : Int) == 1) = true := by simp; omega
        simp [n0] at hR
        subst hR
        go_enter Tryd.func91, Tryd.ntmps91
        go_wp2
        go_ret
        first
          | exact ⟨rfl, hb0⟩
          | (subst n0; exact ⟨rfl, hb0⟩)
      · have n1 : ((n : Int) == 1) = false := by simp; omega
        simp [n0] at hR
        subst hR
        go_enter Tryd.func91, Tryd.ntmps91
        go_wp2
        go_ret
        exact ⟨rfl, hb0⟩
    · have c1 : (c == 0) = false := by simpa using c0
      simp [c0] at hR
      subst hR
      go_enter Tryd.func91, Tryd.ntmps91
      go_wp2
      go_ret
      exact ⟨rfl, hb0⟩
  by_cases k8 : k = 8
  · subst k8
    simp at hR
    by_cases c0 : c = 0
    · subst c0
      by_cases n0 : n = 1
      · have n1 : ((n : Int) == 1) = true := by simp; omega
        simp [n0] at hR
        subst hR
        go_enter Tryd.func91, Tryd.ntmps91
        go_wp2
        go_ret
        first
          | exact ⟨rfl, hb0⟩
          | (subst n0; exact ⟨rfl, hb0⟩)
      · have n1 : ((n : Int) == 1) = false := by simp; omega
        simp [n0] at hR
        subst hR
        go_enter Tryd.func91, Tryd.ntmps91
        go_wp2
        go_ret
        exact ⟨rfl, hb0⟩
    · have c1 : (c == 0) = false := by simpa using c0
      simp [c0] at hR
      subst hR
      go_enter Tryd.func91, Tryd.ntmps91
      go_wp2
      go_ret
      exact ⟨rfl, hb0⟩
  simp [k0, k1, k2, k3, k4, k5, k6, k7, k8, k9] at hR
  subst hR
  have q0 : (k == 0) = false := by simpa using k0
  have q1 : (k == 1) = false := by simpa using k1
  have q2 : (k == 2) = false := by simpa using k2
  have q3 : (k == 3) = false := by simpa using k3
  have q4 : (k == 4) = false := by simpa using k4
  have q5 : (k == 5) = false := by simpa using k5
  have q6 : (k == 6) = false := by simpa using k6
  have q7 : (k == 7) = false := by simpa using k7
  have q8 : (k == 8) = false := by simpa using k8
  have q9 : (k == 9) = false := by simpa using k9
  go_enter Tryd.func91, Tryd.ntmps91
  go_wp2
  go_ret
  exact ⟨rfl, hb0⟩
end Go.Proofs.YtmldgfplnacecaaDoor

namespace Go.Proofs.YtmldgfplnacecaaDoor
open Go.RowKit Go.Shelf Go.Lib

/-- A node, then those within it, as long as the answer is yes. -/
def visG {σ : Type} (nx : E → σ → Bool × σ) : E → σ → Bool × σ
  | .mk k c ks, s => match nx (.mk k c ks) s with
    | (true, s') => kids nx ks s'
    | (false, s') => (false, s')
where kids {σ : Type} (nx : E → σ → Bool × σ) : List E → σ → Bool × σ
  | [], s => (true, s)
  | e :: r, s => match visG nx e s with
    | (true, s') => kids nx r s'
    | (false, s') => (false, s')
abbrev visL {σ : Type} (nx : E → σ → Bool × σ) : List E → σ → Bool × σ := visG.kids nx
theorem visG_eq {σ : Type} (nx : E → σ → Bool × σ) (e : E) (s : σ) : visG nx e s = if (nx e s).1 then visL nx e.ks (nx e s).2 else (false, (nx e s).2) := by
  cases e with
  | mk k c ks =>
    show (match nx (.mk k c ks) s with
      | (true, s') => visL nx ks s'
      | (false, s') => (false, s')) = _
    rcases nx (.mk k c ks) s with ⟨_ | _, s'⟩ <;> rfl
theorem visL_append {σ : Type} (nx : E → σ → Bool × σ) (a b : List E) (s : σ) : visL nx (a ++ b) s = if (visL nx a s).1 then visL nx b (visL nx a s).2 else (false, (visL nx a s).2) := by
  induction a generalizing s with
  | nil => simp [visL, visG.kids]
  | cons e r ih =>
    show (match visG nx e s with
      | (true, s') => visL nx (r ++ b) s'
      | (false, s') => (false, s')) = _
    rcases h : visG nx e s with ⟨_ | _, s'⟩
    · simp [visL, visG.kids, h]
    · simp only [ih]
      simp [visL, visG.kids, h]
theorem visL_take {σ : Type} (nx : E → σ → Bool × σ) (ks : List E) (i : Nat) (e : E) (s : σ) (h : ks[i]? = some e) :
    visL nx (ks.take (i + 1)) s = if (visL nx (ks.take i) s).1 then visG nx e (visL nx (ks.take i) s).2 else (false, (visL nx (ks.take i) s).2) := by
  rw [List.take_add_one, h, visL_append]
  have : visL nx (some e).toList (visL nx (ks.take i) s).2 = visG nx e (visL nx (ks.take i) s).2 := by
    show (match visG nx e _ with
      | (true, s') => (true, s')
      | (false, s') => (false, s')) = _
    rcases visG nx e (visL nx (ks.take i) s).2 with ⟨_ | _, s'⟩ <;> rfl
  rw [this]
/-- Where the answer is no among the first ones, it is for all. -/
theorem visL_stop {σ : Type} (nx : E → σ → Bool × σ) (ks : List E) (i : Nat) (s s' : σ) (h : visL nx (ks.take i) s = (false, s')) : visL nx ks s = (false, s') := by
  have := visL_append nx (ks.take i) (ks.drop i) s
  rw [List.take_append_drop, h] at this
  simpa using this

theorem grown_trans {a b c : World} {row : Option Nat} (h : a.grownBy b row) (k : b.grownBy c row) : a.grownBy c row :=
  ⟨k.os.trans h.os, k.tape.trans h.tape, k.output.trans h.output, Nat.le_trans h.size k.size, fun i hi hn => (k.block i (Nat.lt_of_lt_of_le hi h.size) hn).trans (h.block i hi hn)⟩
theorem grown_below {a b : World} {row : Option Nat} (h : Below a.heap.size a b) : a.grownBy b row := ⟨h.os, h.tape, h.output, h.size, fun k hk _ => h.block k hk⟩
theorem grown_set (w : World) (b : Nat) (v : Value) : w.grownBy (w.setCell ⟨b, 0, none⟩ v) (some b) :=
  ⟨rfl, rfl, rfl, by simp, fun k _ hk => Below.heap_setCell _ _ _ k (fun e => hk (by rw [e]))⟩
theorem Nd.grown {w w' : World} {B g : Nat} {e : E} {v : Value} (h : Nd w B e v) (hg : w.grownBy w' (some g)) (hB : B ≤ g) : Nd w' B e v :=
  h.carry (Nat.le_refl _) (fun b o u hl hu => hg.cell hu (by simp; omega)) _ _ _ (Nat.le_refl _)
theorem boxed_below {W W' : World} {B t : Nat} {v : Value} (h : Boxed W B t v) (hb : Below W.heap.size W W') : Boxed W' B t v := (hb.block B h.lt).trans h
theorem boxed_grown {W W' : World} {B g t : Nat} {v : Value} (h : Boxed W B t v) (hg : W.grownBy W' (some g)) (hne : B ≠ g) : Boxed W' B t v := (hg.block B h.lt (by simpa using hne)).trans h

/-- What Right's function says of a node: how many there were ahead of it. -/
def nxR (e : E) (m : Nat) : Bool × Nat := (decide (m + 1 ≤ 2000) && decide (e.k ≠ 9) && shapedK e.k e.c e.ks.length, m + 1)

set_option maxHeartbeats 4000000 in
theorem right1_any (k c : Int) (A : Option Addr) (n cap g m : Nat) (w : World) (hn : n ≤ 9223372036854775807) (hg : Boxed w g 3 (.int .i64 m)) (hm : m ≤ 2000) :
    Calls Tryd.prog 93 #[.agg #[.int .i64 k, .int .i64 c, .slice A n cap], .pointer (some ⟨g, 0, none⟩)] w fun r w' =>
      r = .returned (.bool (decide (m + 1 ≤ 2000) && decide (k ≠ 9) && shapedK k c n)) ∧ w.grownBy w' (some g) ∧ Boxed w' g 3 (.int .i64 (m + 1 : Nat)) := by
  have hg0 := hg.alloc (.cells #[.int .i64 k, .int .i64 c, .slice A n cap] 91)
  have hgl := hg.lt
  have g0 := hg.cell
  have z0 := hg.frozen
  have hw : wrap64 ((m : Int) + 1) = (m : Int) + 1 := by unfold wrap64; omega
  have hne : g ≠ w.heap.size := by omega
  have hgr0 : w.grownBy (w.alloc (.cells #[.int .i64 k, .int .i64 c, .slice A n cap] 91)) (some g) := World.grownBy_alloc _ _ _
  have C := Lib.hid (fun W => shaped_any k c A n cap W hn)
  obtain ⟨SB, hSB⟩ : ∃ b, shapedK k c n = b := ⟨_, rfl⟩
  rw [hSB] at C ⊢
  have hfin : w.grownBy ((w.setCell ⟨g, 0, none⟩ (.int .i64 ((m : Int) + 1))).alloc (.cells #[.int .i64 k, .int .i64 c, .slice A n cap] 91)) (some g) ∧ Boxed ((w.setCell ⟨g, 0, none⟩ (.int .i64 ((m : Int) + 1))).alloc (.cells #[.int .i64 k, .int .i64 c, .slice A n cap] 91)) g 3 (.int .i64 ((m : Int) + 1)) :=
    ⟨grown_trans (grown_set w g _) (World.grownBy_alloc _ _ _), (hg.set _).alloc _⟩
  have H := Lib.hid hfin
  have C1 := Lib.hid (C.out ((w.setCell ⟨g, 0, none⟩ (.int .i64 ((m : Int) + 1))).alloc (.cells #[.int .i64 k, .int .i64 c, .slice A n cap] 91)))
  have hc : ((m + 1 : Nat) : Int) = (m : Int) + 1 := by omega
  rw [hc]
  clear hfin hc
  by_cases h1 : m + 1 ≤ 2000
  · have i1 : ((m : Int) + 1 ≤ 2000) := by omega
    rw [decide_eq_true h1]
    have HM := Lib.hid (And.intro hm h1)
    clear hg hg0 hgr0 hSB hm h1
    by_cases k9 : k = 9
    · subst k9
      rw [show (true && decide ((9 : Int) ≠ 9) && SB) = false by simp]
      go_enter Tryd.func93, Tryd.ntmps93
      go_wp2
      go_ret
      exact ⟨rfl, H.out⟩
    · have q9 : (k == 9) = false := by simpa using k9
      have q9' : (k != 9) = true := by simpa using k9
      rw [show (true && decide (k ≠ 9) && SB) = SB by simp [k9]]
      go_enter Tryd.func93, Tryd.ntmps93
      go_wp2_with fail
      refine C1.out.mono ?_
      rintro r w1 ⟨rfl, hb⟩
      have HZ := Lib.hid (And.intro (grown_trans H.out.1 (grown_below hb)) (boxed_below H.out.2 hb))
      clear hb
      go_wp2
      go_ret
      exact ⟨rfl, HZ.out⟩
  · have i1 : decide ((m : Int) + 1 ≤ 2000) = false := by simp; omega
    rw [decide_eq_false h1]
    rw [show (false && decide (k ≠ 9) && SB) = false by simp]
    have HM := Lib.hid (And.intro hm h1)
    clear hg hg0 hgr0 hSB hm h1
    go_enter Tryd.func93, Tryd.ntmps93
    go_wp2
    go_ret
    exact ⟨rfl, H.out⟩
end Go.Proofs.YtmldgfplnacecaaDoor

namespace Go.Proofs.YtmldgfplnacecaaDoor
open Go.RowKit Go.Shelf Go.Lib

theorem visR_le : ∀ N e m, szE e ≤ N → (visG nxR e m).1 = true → m + 1 ≤ (visG nxR e m).2 ∧ (visG nxR e m).2 ≤ 2000 := by
  intro N
  induction N with
  | zero => intro e m h; have := szE_pos e; omega
  | succ N ih =>
    intro e m he h
    have hl : ∀ (ks : List E) (m : Nat), (∀ f ∈ ks, szE f ≤ N) → m ≤ 2000 → (visL nxR ks m).1 = true → m ≤ (visL nxR ks m).2 ∧ (visL nxR ks m).2 ≤ 2000 := by
      intro ks
      induction ks with
      | nil => intro m _ hm _; exact ⟨Nat.le_refl _, hm⟩
      | cons f r ihr =>
        intro m hf hm h
        have e1 : visL nxR (f :: r) m = if (visG nxR f m).1 then visL nxR r (visG nxR f m).2 else (false, (visG nxR f m).2) := by
          show visG.kids nxR (f :: r) m = _
          rw [visG.kids]
          rcases visG nxR f m with ⟨_ | _, s'⟩ <;> rfl
        rw [e1] at h ⊢
        by_cases hb : (visG nxR f m).1 = true
        · rw [if_pos hb] at h ⊢
          have h1 := ih f m (hf f List.mem_cons_self) hb
          have h2 := ihr _ (fun x hx => hf x (List.mem_cons_of_mem _ hx)) h1.2 h
          exact ⟨by omega, h2.2⟩
        · rw [if_neg hb] at h
          cases h
    rw [visG_eq] at h ⊢
    by_cases hb : (nxR e m).1 = true
    · rw [if_pos hb] at h ⊢
      have hm : m + 1 ≤ 2000 := by
        unfold nxR at hb
        simp only [Bool.and_eq_true, decide_eq_true_eq] at hb
        exact hb.1.1
      exact hl e.ks (m + 1) (fun f hf => by have := szE_kid hf; omega) hm h
    · rw [if_neg hb] at h
      cases h

theorem visL_le (ks : List E) : ∀ m, m ≤ 2000 → (visL nxR ks m).1 = true → (visL nxR ks m).2 ≤ 2000 := by
  induction ks with
  | nil => intro m hm _; exact hm
  | cons f r ihr =>
    intro m hm h
    have e1 : visL nxR (f :: r) m = if (visG nxR f m).1 then visL nxR r (visG nxR f m).2 else (false, (visG nxR f m).2) := by
      show visG.kids nxR (f :: r) m = _
      rw [visG.kids]
      rcases visG nxR f m with ⟨_ | _, s'⟩ <;> rfl
    rw [e1] at h ⊢
    by_cases hb : (visG nxR f m).1 = true
    · rw [if_pos hb] at h ⊢
      exact ihr _ (visR_le _ f m (Nat.le_refl _) hb).2 h
    · rw [if_neg hb] at h
      cases h

set_option maxHeartbeats 4000000 in
theorem each_right : ∀ N e, szE e ≤ N → ∀ v B g (m : Nat) w, Nd w B e v → B ≤ g → Boxed w g 3 (.int .i64 m) → m ≤ 2000 →
    Calls Tryd.prog 92 #[v, .func (.func 93) #[] #[.pointer (some ⟨g, 0, none⟩)]] w fun r w' => r = .returned (.bool (visG nxR e m).1) ∧ w.grownBy w' (some g) ∧ Boxed w' g 3 (.int .i64 ((visG nxR e m).2 : Nat)) := by
  intro N
  induction N with
  | zero => intro e h; have := szE_pos e; omega
  | succ N ih =>
    intro e he v B g m w h hB hg hm
    obtain ⟨_, _, A, cap, rfl, hk⟩ := Nd_iff.1 h
    obtain ⟨W0, hW0⟩ : ∃ W0, w.alloc (.cells #[.int .i64 e.k, .int .i64 e.c, .slice A e.ks.length cap] 91) = W0 := ⟨_, rfl⟩
    have hgr0 : w.grownBy W0 (some g) := by rw [← hW0]; exact World.grownBy_alloc _ _ _
    have hg0 : Boxed W0 g 3 (.int .i64 m) := by rw [← hW0]; exact hg.alloc _
    have hbx : Cells W0 w.heap.size 91 #[.int .i64 e.k, .int .i64 e.c, .slice A e.ks.length cap] := by rw [← hW0]; exact World.alloc_heap_new _ _
    have hln : e.ks.length ≤ 9223372036854775807 := by have := hk.l; have := hk.m; unfold maxLen at this; omega
    have C := right1_any e.k e.c A e.ks.length cap g m W0 hln hg0 hm
    have hS : visG nxR e m = _ := visG_eq nxR e m
    have hkid := fun i f (hf : e.ks[i]? = some f) => szE_kid (List.mem_of_getElem? hf)
    have hgl : g < w.heap.size := hg.lt
    have hnx : (nxR e m).2 = m + 1 := rfl
    have hnx1 : (decide (m + 1 ≤ 2000) && decide (e.k ≠ 9) && shapedK e.k e.c e.ks.length) = (nxR e m).1 := rfl
    rw [hnx1] at C
    rw [hnx] at hS
    obtain ⟨Z, hZ⟩ : ∃ Z, visG nxR e m = Z := ⟨_, rfl⟩
    rw [hZ] at hS ⊢
    have hm1 : (nxR e m).1 = true → m + 1 ≤ 2000 := fun hb => by
      unfold nxR at hb
      simp only [Bool.and_eq_true, decide_eq_true_eq] at hb
      exact hb.1.1
    generalize (nxR e m).1 = nb at *
    generalize e.k = kk at *
    generalize e.c = cc at *
    generalize e.ks = ks at *
    obtain ⟨n, hn⟩ : ∃ n, ks.length = n := ⟨_, rfl⟩
    rw [hn] at hW0 C hbx hln ⊢
    have HW := Lib.hid hW0
    have HC := Lib.hid C
    have HK := Lib.hid (And.intro hk (And.intro hgr0 (And.intro hbx (And.intro hB hm))))
    have HI := Lib.hid ih
    have HKD := Lib.hid hkid
    have HN := Lib.hid hn
    have HS := Lib.hid (And.intro hS (And.intro hm1 (And.intro hgl he)))
    clear hW0 hk hgr0 hbx hB hm ih hkid hn h C hg0 hg hS hm1 hgl hZ he hnx hnx1
    cases nb
    · have hZ : Z = (false, m + 1) := by rw [HS.out.1]; rfl
      subst hZ
      go_enter Tryd.func92, Tryd.ntmps92
      go_wp2_with fail
      rw [HW.out]
      refine HC.out.mono ?_
      rintro r w1 ⟨rfl, hgr1, hb1⟩
      have HZ := Lib.hid (And.intro (grown_trans HK.out.2.1 hgr1) hb1)
      clear hgr1 hb1
      go_wp2
      go_ret
      exact ⟨rfl, HZ.out⟩
    · have hZ : Z = visL nxR ks (m + 1) := by rw [HS.out.1]; rfl
      have HZ0 := Lib.hid hZ
      clear hZ
      go_enter Tryd.func92, Tryd.ntmps92
      go_wp2_with fail
      rw [HW.out]
      refine HC.out.mono ?_
      rintro r w1 ⟨rfl, hgr1, hb1⟩
      have hbx1 : Cells w1 w.heap.size 91 #[.int .i64 kk, .int .i64 cc, .slice A n cap] := (hgr1.block _ HK.out.2.2.1.lt (by have := HS.out.2.2.1; simp; omega)).trans HK.out.2.2.1
      have c2 := hbx1.cell 2
      have HZ := Lib.hid (And.intro (grown_trans HK.out.2.1 hgr1) (And.intro hb1 hbx1))
      clear hgr1 hb1 hbx1
      go_wp2_with fail
      go_loopw [6, 14] (fun _ i wr => ∃ k : Nat, i = .int .i64 k ∧ k ≤ n ∧ (visL nxR (ks.take k) (m + 1)).1 = true ∧ Boxed wr g 3 (.int .i64 ((visL nxR (ks.take k) (m + 1)).2 : Nat)) ∧ w.grownBy wr (some g)) (fun _ i _ => n - (RowKit.intOf i).toNat)
      case atStart => exact ⟨0, rfl, Nat.zero_le _, rfl, by rw [List.take_zero]; exact HZ.out.2.1, HZ.out.1⟩
      case round =>
        obtain ⟨k, rfl, hkn, hyes, hbk, hgk⟩ := hrel
        by_cases hlt : k < n
        · obtain ⟨f, hf⟩ : ∃ f, ks[k]? = some f := ⟨ks[k]'(by rw [HN.out]; exact hlt), List.getElem?_eq_getElem _⟩
          have i1 : (k : Int) < (n : Int) := by omega
          obtain ⟨b, o, rfl, hbl, hr⟩ := HK.out.1.r (by rintro rfl; simp at hf)
          obtain ⟨A', cap', d0, d1, d2, hN⟩ := row_get' hr hf
          have hne : some b ≠ some g := by have := HK.out.2.2.2.1; simp; omega
          have d0' := hgk.cell d0 hne
          have d1' := hgk.cell d1 hne
          have d2' := hgk.cell d2 hne
          have hs := visL_take nxR ks k f (m + 1) hf
          rw [if_pos hyes] at hs
          have hl := HKD.out k f hf
          have hm' := visL_le (ks.take k) (m + 1) (HS.out.2.1 trivial) hyes
          generalize (visL nxR (ks.take k) (m + 1)).2 = m' at *
          obtain ⟨wr', hwr'⟩ : ∃ W, wr.alloc (.cells #[.int .i64 f.k, .int .i64 f.c, .slice A' f.ks.length cap'] 91) = W := ⟨_, rfl⟩
          have hg2 : w.grownBy wr' (some g) := by rw [← hwr']; exact grown_trans hgk (World.grownBy_alloc _ _ _)
          have hC := HI.out f (by have := HS.out.2.2.2; omega) (.agg #[.int .i64 f.k, .int .i64 f.c, .slice A' f.ks.length cap']) B g m' wr' (hN.grown hg2 HK.out.2.2.2.1) HK.out.2.2.2.1 (by rw [← hwr']; exact hbk.alloc _) hm'
          obtain ⟨q, hq⟩ : ∃ q, visG nxR f m' = q := ⟨_, rfl⟩
          rw [hq] at hC hs
          have hC := Lib.hid hC
          have HH := Lib.hid (And.intro hs (And.intro hg2 hlt))
          have HWR := Lib.hid hwr'
          clear hs hl hm' hg2 hwr' hN hr hbl hbk hgk hyes hq
          go_wp2_with fail
          rw [HWR.out]
          refine hC.out.mono ?_
          rintro r w2 ⟨rfl, hg3, hb3⟩
          have HY := Lib.hid (And.intro (grown_trans HH.out.2.1 hg3) hb3)
          have hs := HH.out.1
          clear hg3 hb3
          obtain ⟨qb, qm⟩ := q
          cases qb
          · have hz : Z = (false, qm) := by rw [HZ0.out]; exact visL_stop nxR ks (k + 1) (m + 1) qm hs
            subst hz
            go_wp2
            go_ret
            exact ⟨rfl, HY.out⟩
          · have hend : (visL nxR (ks.take (k + 1)) (m + 1)).1 = true ∧ Boxed w2 g 3 (.int .i64 ((visL nxR (ks.take (k + 1)) (m + 1)).2 : Nat)) ∧ w.grownBy w2 (some g) := by rw [hs]; exact ⟨rfl, HY.out.2, HY.out.1⟩
            have HEND := Lib.hid hend
            clear hend hs
            go_wp2
            go_roundw
            case rel => exact ⟨k + 1, by go_num, by omega, HEND.out⟩
            case measure => simp [RowKit.intOf]; omega
        · have hkn : k = n := by omega
          subst hkn
          have i1 : ¬ (k : Int) < (k : Int) := by omega
          have ht : ks.take k = ks := by rw [← HN.out, List.take_length]
          rw [ht, ← HZ0.out] at hyes hbk
          obtain ⟨zb, zm⟩ := Z
          obtain rfl : zb = true := hyes
          have HY := Lib.hid (And.intro hgk hbk)
          clear hgk hbk ht
          go_wp2
          go_ret
          exact ⟨rfl, HY.out⟩
end Go.Proofs.YtmldgfplnacecaaDoor

namespace Go.Proofs.YtmldgfplnacecaaDoor
open Go.RowKit Go.Shelf Go.Lib

/-- Is it right? -/
def rightE (e : E) : Bool := if e.k = 9 then shapedK e.k e.c e.ks.length else (visG nxR e 0).1

set_option maxHeartbeats 2000000 in
theorem right_any (e : E) (v : Value) (w : World) (h : Nd w w.heap.size e v) : Calls Tryd.prog 80 #[v] w fun r w' => r = .returned (.bool (rightE e)) ∧ Below w.heap.size w w' := by
  obtain ⟨_, _, A, cap, rfl, hk⟩ := Nd_iff.1 h
  have hln : e.ks.length ≤ 9223372036854775807 := by have := hk.l; have := hk.m; unfold maxLen at this; omega
  by_cases h9 : e.k = 9
  · have hb0 := below_new w (.cells #[.int .i64 9, .int .i64 e.c, .slice A e.ks.length cap] 91)
    have C := Lib.hid (fun W => shaped_any 9 e.c A e.ks.length cap W hln)
    have hR : rightE e = shapedK 9 e.c e.ks.length := by unfold rightE; rw [if_pos h9, h9]
    rw [hR, h9]
    generalize shapedK 9 e.c e.ks.length = R at *
    generalize e.ks.length = n at *
    clear hk h hR h9
    go_enter Tryd.func80, Tryd.ntmps80
    go_wp2_with fail
    refine (C.out _).mono ?_
    rintro r w1 ⟨rfl, hb⟩
    have HB := Lib.hid (hb0.trans (hb.mono hb0.size))
    clear hb hb0
    go_wp2
    go_ret
    exact ⟨rfl, HB.out⟩
  · have q9 : (e.k == 9) = false := by simpa using h9
    have hR : rightE e = (visG nxR e 0).1 := by unfold rightE; rw [if_neg h9]
    rw [hR]
    obtain ⟨W1, hW1⟩ : ∃ W1, (w.alloc (.cells #[.int .i64 e.k, .int .i64 e.c, .slice A e.ks.length cap] 91)).alloc (.cells #[.int .i64 0] 3) = W1 := ⟨_, rfl⟩
    have hb1 : Below w.heap.size w W1 := by rw [← hW1]; exact ((Below.refl _ w).alloc (Nat.le_refl _) _).alloc (by simp) _
    have hg : Boxed W1 (w.heap.size + 1) 3 (.int .i64 ((0 : Nat) : Int)) := by
      rw [← hW1]
      have := Boxed.new (w.alloc (.cells #[.int .i64 e.k, .int .i64 e.c, .slice A e.ks.length cap] 91)) 3 (.int .i64 0)
      rw [World.size_alloc] at this
      exact this
    have C := each_right _ e (Nat.le_refl _) _ w.heap.size (w.heap.size + 1) 0 W1 (h.below hb1) (by omega) hg (by omega)
    have C := Lib.hid C
    have HW := Lib.hid hW1
    generalize (visG nxR e 0).1 = R at *
    generalize (visG nxR e 0).2 = R2 at *
    generalize e.k = kk at *
    generalize e.c = cc at *
    generalize e.ks.length = n at *
    clear hk h hR h9 hg hW1
    go_enter Tryd.func80, Tryd.ntmps80
    go_wp2_with fail
    rw [HW.out]
    refine C.out.mono ?_
    rintro r w1 ⟨rfl, hgr, _⟩
    have HB := Lib.hid (hb1.grown hgr hb1.size fun k e => by cases e; omega)
    clear hgr hb1
    go_wp2
    go_ret
    exact ⟨rfl, HB.out⟩
end Go.Proofs.YtmldgfplnacecaaDoor

namespace Go.Proofs.YtmldgfplnacecaaDoor
open Go.RowKit Go.Shelf Go.Lib

/-- Has each node what its kind asks, and is none Empty? -/
def goodE : E → Bool
  | .mk k c ks => decide (k ≠ 9) && shapedK k c ks.length && all ks
where all : List E → Bool
  | [] => true
  | e :: r => goodE e && all r
theorem goodE_eq (e : E) : goodE e = (decide (e.k ≠ 9) && shapedK e.k e.c e.ks.length && goodE.all e.ks) := by cases e; rfl
theorem good_all {ks : List E} (h : goodE.all ks = true) : ∀ e ∈ ks, goodE e = true := by
  induction ks with
  | nil => intro e he; cases he
  | cons a r ih =>
    have h' : (goodE a && goodE.all r) = true := h
    simp only [Bool.and_eq_true] at h'
    intro e he
    rcases List.mem_cons.1 he with rfl | he
    · exact h'.1
    · exact ih h'.2 e he
theorem visL_cons (f : E) (r : List E) (m : Nat) : visL nxR (f :: r) m = if (visG nxR f m).1 then visL nxR r (visG nxR f m).2 else (false, (visG nxR f m).2) := by
  show visG.kids nxR (f :: r) m = _
  rw [visG.kids]
  rcases visG nxR f m with ⟨_ | _, s'⟩ <;> rfl
theorem szL_cons (f : E) (r : List E) : szL (f :: r) = szE f + szL r := rfl
theorem vis_good : ∀ N e m, szE e ≤ N → ((visG nxR e m).1 = true ↔ goodE e = true ∧ m + szE e ≤ 2000) ∧ ((visG nxR e m).1 = true → (visG nxR e m).2 = m + szE e) := by
  intro N
  induction N with
  | zero => intro e m h; have := szE_pos e; omega
  | succ N ih =>
    intro e m he
    have hl : ∀ (ks : List E) (m : Nat), (∀ f ∈ ks, szE f ≤ N) → m ≤ 2000 → ((visL nxR ks m).1 = true ↔ goodE.all ks = true ∧ m + szL ks ≤ 2000) ∧ ((visL nxR ks m).1 = true → (visL nxR ks m).2 = m + szL ks) := by
      intro ks
      induction ks with
      | nil => intro m _ hm; exact ⟨⟨fun _ => ⟨rfl, hm⟩, fun _ => rfl⟩, fun _ => rfl⟩
      | cons f r ihr =>
        intro m hf hm
        have hi := ih f m (hf f List.mem_cons_self)
        have hg : goodE.all (f :: r) = (goodE f && goodE.all r) := rfl
        rw [visL_cons, szL_cons, hg]
        by_cases hb : (visG nxR f m).1 = true
        · have h2 := hi.2 hb
          have h1 := hi.1.1 hb
          have h3 := ihr (visG nxR f m).2 (fun x hx => hf x (List.mem_cons_of_mem _ hx)) (by omega)
          rw [if_pos hb, h1.1, Bool.true_and]
          rw [h2] at h3 ⊢
          refine ⟨h3.1.trans ⟨fun h => ⟨h.1, by omega⟩, fun h => ⟨h.1, by omega⟩⟩, fun h => by rw [h3.2 h]; omega⟩
        · rw [if_neg hb]
          refine ⟨⟨fun h => (by cases h), fun h => absurd (hi.1.2 ⟨?_, by omega⟩) hb⟩, fun h => (by cases h)⟩
          have := h.1
          simp only [Bool.and_eq_true] at this
          exact this.1
    rw [visG_eq, goodE_eq, szE_eq]
    have hn : (nxR e m).1 = (decide (m + 1 ≤ 2000) && decide (e.k ≠ 9) && shapedK e.k e.c e.ks.length) := rfl
    have hn2 : (nxR e m).2 = m + 1 := rfl
    rw [hn, hn2]
    by_cases hm : m + 1 ≤ 2000
    · rw [decide_eq_true hm, Bool.true_and]
      have h3 := hl e.ks (m + 1) (fun f hf => by have := szE_kid hf; omega) hm
      by_cases hb : (decide (e.k ≠ 9) && shapedK e.k e.c e.ks.length) = true
      · rw [if_pos hb, hb, Bool.true_and]
        exact ⟨h3.1.trans ⟨fun h => ⟨h.1, by omega⟩, fun h => ⟨h.1, by omega⟩⟩, fun h => by rw [h3.2 h]; omega⟩
      · rw [if_neg hb]
        refine ⟨⟨fun h => (by cases h), fun h => absurd ?_ hb⟩, fun h => (by cases h)⟩
        have := h.1
        simp only [Bool.and_eq_true] at this
        simp only [Bool.and_eq_true]
        exact this.1
    · rw [decide_eq_false hm, Bool.false_and, Bool.false_and, if_neg (by simp)]
      exact ⟨⟨fun h => (by cases h), fun h => (by omega)⟩, fun h => (by cases h)⟩
theorem rightE_good {e : E} (h9 : e.k ≠ 9) : rightE e = (goodE e && decide (szE e ≤ 2000)) := by
  unfold rightE
  rw [if_neg h9]
  have := (vis_good _ e 0 (Nat.le_refl _)).1
  rw [Bool.eq_iff_iff, this]
  simp
theorem right_size {e : E} (h : rightE e = true) : szE e ≤ 2000 := by
  by_cases h9 : e.k = 9
  · unfold rightE at h
    rw [if_pos h9, h9] at h
    have hn : e.ks = [] := by
      unfold shapedK at h
      simp at h
      exact h.2
    rw [szE_eq, hn]
    show 1 + 0 ≤ 2000
    omega
  · rw [rightE_good h9] at h
    simp only [Bool.and_eq_true, decide_eq_true_eq] at h
    exact h.2

/-- The longest list, where nothing is repeated. -/
def lgE : E → Nat
  | .mk k _ ks => if k = 9 then 0 else if k = 4 then sum ks else if k = 5 ∨ k = 8 then most ks else 1
where
  sum : List E → Nat
    | [] => 0
    | e :: r => lgE e + sum r
  most : List E → Nat
    | [] => 0
    | e :: r => max (lgE e) (most r)
/-- The shortest list. -/
def shE : E → Nat
  | .mk k _ ks => if k = 6 ∨ k = 8 ∨ k = 9 then 0 else if k = 4 then sum ks else if k = 5 ∨ k = 7 then least ks else 1
where
  sum : List E → Nat
    | [] => 0
    | e :: r => shE e + sum r
  least : List E → Nat
    | [] => 0
    | [e] => shE e
    | e :: f :: r => min (shE e) (least (f :: r))
theorem lgE_eq (e : E) : lgE e = if e.k = 9 then 0 else if e.k = 4 then lgE.sum e.ks else if e.k = 5 ∨ e.k = 8 then lgE.most e.ks else 1 := by cases e; rfl
theorem shE_eq (e : E) : shE e = if e.k = 6 ∨ e.k = 8 ∨ e.k = 9 then 0 else if e.k = 4 then shE.sum e.ks else if e.k = 5 ∨ e.k = 7 then shE.least e.ks else 1 := by cases e; rfl
theorem lg_le : ∀ N e, szE e ≤ N → lgE e ≤ szE e := by
  intro N
  induction N with
  | zero => intro e h; have := szE_pos e; omega
  | succ N ih =>
    intro e he
    have hs : ∀ ks : List E, (∀ f ∈ ks, szE f ≤ N) → lgE.sum ks ≤ szL ks ∧ lgE.most ks ≤ szL ks := by
      intro ks
      induction ks with
      | nil => intro _; exact ⟨Nat.le_refl _, Nat.le_refl _⟩
      | cons f r ihr =>
        intro hf
        have h1 := ih f (hf f List.mem_cons_self)
        have h2 := ihr fun x hx => hf x (List.mem_cons_of_mem _ hx)
        have e1 : lgE.sum (f :: r) = lgE f + lgE.sum r := rfl
        have e2 : lgE.most (f :: r) = max (lgE f) (lgE.most r) := rfl
        rw [szL_cons, e1, e2]
        omega
    have h := hs e.ks fun f hf => by have := szE_kid hf; omega
    rw [lgE_eq, szE_eq]
    split
    · omega
    · split
      · omega
      · split <;> omega
theorem lgsum_append (a b : List E) : lgE.sum (a ++ b) = lgE.sum a + lgE.sum b := by
  induction a with
  | nil => show lgE.sum b = 0 + _; omega
  | cons f r ih => show lgE f + lgE.sum (r ++ b) = lgE f + lgE.sum r + _; omega
theorem lgmost_append (a b : List E) : lgE.most (a ++ b) = max (lgE.most a) (lgE.most b) := by
  induction a with
  | nil => show lgE.most b = max 0 _; omega
  | cons f r ih => show max (lgE f) (lgE.most (r ++ b)) = max (max (lgE f) (lgE.most r)) _; omega
theorem lgsum_take {ks : List E} {i : Nat} {e : E} (h : ks[i]? = some e) : lgE.sum (ks.take (i + 1)) = lgE.sum (ks.take i) + lgE e := by
  rw [List.take_add_one, h, lgsum_append]
  show _ + (lgE e + 0) = _
  omega
theorem lgmost_take {ks : List E} {i : Nat} {e : E} (h : ks[i]? = some e) : lgE.most (ks.take (i + 1)) = max (lgE.most (ks.take i)) (lgE e) := by
  rw [List.take_add_one, h, lgmost_append]
  show max _ (max (lgE e) 0) = _
  omega
theorem lgsum_le (ks : List E) (i : Nat) : lgE.sum (ks.take i) ≤ lgE.sum ks ∧ lgE.most (ks.take i) ≤ lgE.most ks := by
  have h1 := lgsum_append (ks.take i) (ks.drop i)
  have h2 := lgmost_append (ks.take i) (ks.drop i)
  rw [List.take_append_drop] at h1 h2
  omega
theorem lgL_le (ks : List E) : lgE.sum ks ≤ szL ks ∧ lgE.most ks ≤ szL ks := by
  induction ks with
  | nil => exact ⟨Nat.le_refl _, Nat.le_refl _⟩
  | cons f r ih =>
    have h1 := lg_le _ f (Nat.le_refl _)
    have e1 : lgE.sum (f :: r) = lgE f + lgE.sum r := rfl
    have e2 : lgE.most (f :: r) = max (lgE f) (lgE.most r) := rfl
    rw [szL_cons, e1, e2]
    omega
end Go.Proofs.YtmldgfplnacecaaDoor

namespace Go.Proofs.YtmldgfplnacecaaDoor
open Go.RowKit Go.Shelf Go.Lib Go.Great Go.Maps

def takesG (k c m : Int) : Bool := if k = 0 then m == c else if k = 1 then isC m else if k = 2 then (isC m && m != c) else if k = 3 then m == 36 else false
set_option maxHeartbeats 4000000 in
set_option maxRecDepth 100000 in
theorem takes_any (k c m : Int) (A : Option Addr) (n cap : Nat) (w : World) : Calls Tryd.prog 108 #[.agg #[.int .i64 k, .int .i64 c, .slice A n cap], .int .i64 m] w fun e w' => e = .returned (.bool (takesG k c m)) ∧ Below w.heap.size w w' := by
  have C := Lib.hid (fun w => isClass_any m w)
  have HT := Lib.hid (show takesG k c m = _ from rfl)
  obtain ⟨R, hR⟩ : ∃ R, takesG k c m = R := ⟨_, rfl⟩
  rw [hR]
  have HR := Lib.hid hR
  have hb := Lib.hid (below_new w (.cells #[.int .i64 k, .int .i64 c, .slice A n cap] 91))
  clear hR
  by_cases h0 : k = 0
  · subst h0
    go_enter Tryd.func108, Tryd.ntmps108
    go_wp2_with fail
    go_ret
    exact ⟨by rw [← HR.out]; rfl, hb.out⟩
  · by_cases h1 : k = 1
    · subst h1
      go_enter Tryd.func108, Tryd.ntmps108
      go_wp2_with fail
      refine (C.out _).mono ?_
      rintro e w2 ⟨rfl, rfl⟩
      go_wp2_with fail
      go_ret
      exact ⟨by rw [← HR.out]; rfl, hb.out⟩
    · by_cases h2 : k = 2
      · subst h2
        by_cases hc : isC m = true
        · go_enter Tryd.func108, Tryd.ntmps108
          go_wp2_with fail
          refine (C.out _).mono ?_
          rintro e w2 ⟨rfl, rfl⟩
          rw [hc]
          go_wp2_with fail
          go_ret
          exact ⟨by rw [← HR.out]; simp [takesG, hc, bne], hb.out⟩
        · have hc : isC m = false := by simpa using hc
          go_enter Tryd.func108, Tryd.ntmps108
          go_wp2_with fail
          refine (C.out _).mono ?_
          rintro e w2 ⟨rfl, rfl⟩
          rw [hc]
          go_wp2_with fail
          go_ret
          exact ⟨by rw [← HR.out]; simp [takesG, hc], hb.out⟩
      · by_cases h3 : k = 3
        · subst h3
          go_enter Tryd.func108, Tryd.ntmps108
          go_wp2_with fail
          go_ret
          exact ⟨by rw [← HR.out]; rfl, hb.out⟩
        · go_enter Tryd.func108, Tryd.ntmps108
          go_wp2_with fail
          go_ret
          exact ⟨by rw [← HR.out]; simp [takesG, h0, h1, h2, h3], hb.out⟩
end Go.Proofs.YtmldgfplnacecaaDoor

namespace Go.Proofs.YtmldgfplnacecaaDoor
open Go.RowKit Go.Shelf Go.Lib Go.Great Go.Maps

theorem cells_new (w : World) (cs : Array Value) (t : Nat) : Cells (w.alloc (.cells cs t)) w.heap.size t cs := World.alloc_heap_new w _
theorem Cells.froz {W : World} {g t : Nat} {cs : Array Value} (h : Cells W g t cs) (i : Nat) : W.frozen? ⟨g, i, none⟩ = false := by
  simp [World.frozen?, show W.heap[g]? = _ from h]
theorem Cells.set {W : World} {g t : Nat} {cs : Array Value} (h : Cells W g t cs) (i : Nat) (v : Value) : Cells (W.setCell ⟨g, i, none⟩ v) g t (cs.setIfInBounds i v) := by
  unfold Cells World.setCell
  simp only [Array.getElem?_modify, if_true]
  rw [show W.heap[g]? = _ from h]
  rfl
theorem grownB {w w' : World} (h : Below w.heap.size w w') (row : Option Nat) : w.grownBy w' row := ⟨h.os, h.tape, h.output, h.size, fun k hk _ => h.block k hk⟩
def stC (k c : Int) (A : Option Addr) (cap : Nat) (e l : Bool) : Array Value := #[.int .i64 k, .int .i64 c, .slice A 0 cap, .slice none 0 0, .bool false, .bool e, .bool l]
set_option maxHeartbeats 4000000 in
set_option maxRecDepth 100000 in
theorem newLeaf_any (k c : Int) (A : Option Addr) (cap : Nat) (w : World) (h0 : 0 ≤ k) (h3 : k ≤ 3) :
    Calls Tryd.prog 103 #[.agg #[.int .i64 k, .int .i64 c, .slice A 0 cap]] w fun e w' => ∃ g, e = .returned (.pointer (some ⟨g, 0, none⟩)) ∧ w.heap.size ≤ g ∧ Cells w' g 157 (stC k c A cap false false) ∧ Below w.heap.size w w' := by
  have k4 : (k == 4) = false := by simp; omega
  have k5 : (k == 5) = false := by simp; omega
  have k6 : (k == 6) = false := by simp; omega
  have k7 : (k == 7) = false := by simp; omega
  have k8 : (k == 8) = false := by simp; omega
  have k9 : (k == 9) = false := by simp; omega
  go_enter Tryd.func103, Tryd.ntmps103
  go_wp2_with fail
  go_loopw [14] (fun i wr => i = .int .i64 0 ∧ wr = (w.alloc (.cells #[.int .i64 k, .int .i64 c, .slice A 0 cap] 91)).alloc (.cells (stC k c A cap false false) 157)) (fun _ _ => 0)
  case atStart => exact ⟨rfl, rfl⟩
  case round =>
    obtain ⟨rfl, rfl⟩ := hrel
    go_wp2_with fail
    go_ret
    refine ⟨_, rfl, by omega, ?_, ?_⟩
    · have := cells_new (w.alloc (.cells #[.int .i64 k, .int .i64 c, .slice A 0 cap] 91)) (stC k c A cap false false) 157
      simpa using this
    · exact (below_new w _).trans ((below_new _ _).mono (by simp))
set_option maxHeartbeats 4000000 in
set_option maxRecDepth 100000 in
theorem stepLeaf_any (k c m : Int) (A : Option Addr) (cap g : Nat) (w : World) (h0 : 0 ≤ k) (h3 : k ≤ 3) (hg : Cells w g 157 (stC k c A cap false false)) :
    Calls Tryd.prog 104 #[.pointer (some ⟨g, 0, none⟩), .bool true, .int .i64 m] w fun e w' => e = .returned (.tuple #[]) ∧ Cells w' g 157 (stC k c A cap (takesG k c m) (takesG k c m)) ∧ w.grownBy w' (some g) := by
  have k4 : (k == 4) = false := by simp; omega
  have k5 : (k == 5) = false := by simp; omega
  have k6 : (k == 6) = false := by simp; omega
  have k7 : (k == 7) = false := by simp; omega
  have k8 : (k == 8) = false := by simp; omega
  have d0 := hg.cell 0
  have d1 := hg.cell 1
  have d2 := hg.cell 2
  have d5 := hg.cell 5
  have d6 := hg.cell 6
  have f5 := hg.froz 5
  have f6 := hg.froz 6
  simp only [stC] at d0 d1 d2 d5 d6
  simp at d0 d1 d2 d5 d6
  have C := Lib.hid (fun w => takes_any k c m A 0 cap w)
  have HG := Lib.hid hg
  clear hg
  go_enter Tryd.func104, Tryd.ntmps104
  go_wp2_with fail
  refine (C.out _).mono ?_
  rintro e w2 ⟨rfl, hb2⟩
  have hg2 : Cells w2 g 157 (stC k c A cap false false) := (hb2.block g HG.out.lt).trans HG.out
  have e5 := hg2.cell 5
  have e6 := hg2.cell 6
  have q5 := hg2.froz 5
  have q6 := hg2.froz 6
  simp only [stC] at e5 e6
  simp at e5 e6
  obtain ⟨R, hR⟩ : ∃ R, takesG k c m = R := ⟨_, rfl⟩
  rw [hR]
  have HR := Lib.hid hR
  have HE := Lib.hid (And.intro hb2 hg2)
  clear hR hb2 hg2 C d0 d1 d2 d5 d6 f5 f6
  go_wp2_with fail
  go_end0
  refine ⟨rfl, ?_, ?_⟩
  · rw [HR.out]
    exact ((HE.out.2.set 5 (.bool R)).set 6 (.bool R))
  · exact (grownB HE.out.1 (some g)).trans ((grown_setc w2 g 5 (.bool R)).trans (grown_setc _ g 6 (.bool R)))

set_option maxHeartbeats 4000000 in
set_option maxRecDepth 100000 in
theorem matchLeaf_any (k c m : Int) (A : Option Addr) (cap g : Nat) (w : World) (h0 : 0 ≤ k) (h3 : k ≤ 3) (hN : Nd w w.heap.size (.mk k c []) (.agg #[.int .i64 k, .int .i64 c, .slice A 0 cap])) (hr : rightE (.mk k c []) = true)
    (hm : w.cell? ⟨g, 0, none⟩ = some (.int .i64 m)) :
    Calls Tryd.prog 101 #[.agg #[.int .i64 k, .int .i64 c, .slice A 0 cap], .slice (some ⟨g, 0, none⟩) 1 1] w fun e w' => e = .returned (.bool (takesG k c m)) ∧ Below w.heap.size w w' := by
  obtain ⟨W0, hW0⟩ : ∃ W0, w.alloc (.cells #[.int .i64 k, .int .i64 c, .slice A 0 cap] 91) = W0 := ⟨_, rfl⟩
  have hb0 : Below w.heap.size w W0 := by rw [← hW0]; exact below_new _ _
  have hbx : Cells W0 w.heap.size 91 #[.int .i64 k, .int .i64 c, .slice A 0 cap] := by rw [← hW0]; exact cells_new _ _ _
  have hz0 : w.heap.size < W0.heap.size := by rw [← hW0]; simp
  have hgl : g < w.heap.size := cell_lt hm
  have C1 := Lib.hid (right_any (.mk k c []) _ W0 (hN.on hb0))
  have HW := Lib.hid hW0
  have HB := Lib.hid (And.intro hb0 (And.intro hbx hm))
  have HR := Lib.hid hr
  have d0 := hbx.cell 0
  have d1 := hbx.cell 1
  have d2 := hbx.cell 2
  simp at d0 d1 d2
  obtain ⟨R, hR⟩ : ∃ R, takesG k c m = R := ⟨_, rfl⟩
  rw [hR]
  have HRR := Lib.hid hR
  clear hW0 hb0 hbx hm hN hr hR
  go_enter Tryd.func101, Tryd.ntmps101
  go_wp2_with fail
  rw [HW.out]
  go_wp2_with fail
  refine C1.out.mono ?_
  rintro e w2 ⟨rfl, hb2⟩
  rw [HR.out]
  have hc2 : Cells w2 w.heap.size 91 #[.int .i64 k, .int .i64 c, .slice A 0 cap] := (hb2.block _ hz0).trans HB.out.2.1
  have e0 := hc2.cell 0
  have e1 := hc2.cell 1
  have e2 := hc2.cell 2
  simp at e0 e1 e2
  have C2 := Lib.hid (newLeaf_any k c A cap w2 h0 h3)
  have H2 := Lib.hid hb2
  clear hb2 hc2 d0 d1 d2
  go_wp2_with fail
  refine C2.out.mono ?_
  rintro e w3 ⟨s, rfl, hs, hcs, hb3⟩
  have f4 := hcs.cell 4
  simp [stC] at f4
  have hbw3 : Below w.heap.size w w3 := HB.out.1.trans ((H2.out.mono (by omega)).trans (hb3.mono (by have := H2.out.size; omega)))
  have hm3 : w3.cell? ⟨g, 0, none⟩ = some (.int .i64 m) := (hbw3.cell (p := ⟨g, 0, none⟩) hgl).trans HB.out.2.2
  have C3 := Lib.hid (stepLeaf_any k c m A cap s w3 h0 h3 hcs)
  have H3 := Lib.hid (And.intro hbw3 (show w.heap.size < s by have := H2.out.size; omega))
  rw [HRR.out] at C3
  clear hcs hb3 hbw3 hs e0 e1 e2
  go_wp2_with fail
  go_loopw [6, 20] (fun b i wr => (i = .int .i64 0 ∧ wr = w3) ∨ (i = .int .i64 1 ∧ R = true ∧ b = .bool true ∧ Below w.heap.size w wr)) (fun _ i _ => 1 - (RowKit.intOf i).toNat)
  case atStart => exact .inl ⟨rfl, rfl⟩
  case round =>
    rcases hrel with ⟨rfl, rfl⟩ | ⟨rfl, hRt, rfl, hbb⟩
    · go_wp2_with fail
      refine C3.out.mono ?_
      rintro e w4 ⟨rfl, hc4, hg4⟩
      have e5 := hc4.cell 5
      have e6 := hc4.cell 6
      simp [stC] at e5 e6
      have hb4 := Lib.hid (H3.out.1.trans (below_grown hg4 (by have := H3.out.2; omega) H3.out.1.size))
      clear hc4 hg4
      cases R with
      | true =>
        go_wp2_with fail
        go_roundw
        case rel => exact .inr ⟨by simp, by simp, by simp, hb4.out⟩
        case measure => simp [RowKit.intOf]
      | false =>
        go_wp2_with fail
        go_ret
        exact ⟨rfl, hb4.out⟩
    · subst hRt
      have HBB := Lib.hid hbb
      clear hbb
      go_wp2_with fail
      go_ret
      exact ⟨rfl, HBB.out⟩
end Go.Proofs.YtmldgfplnacecaaDoor

namespace Go.Proofs.YtmldgfplnacecaaDoor
open Go.RowKit Go.Shelf Go.Lib Go.Great Go.Maps

theorem right_leaf {k c : Int} (h9 : k ≠ 9) (h : rightE (.mk k c []) = true) : 0 ≤ k ∧ k ≤ 3 ∧ (k = 0 → 0 ≤ c ∧ c ≤ 35) := by
  rw [rightE_good (e := .mk k c []) h9, goodE_eq] at h
  simp only [E.k, E.c, E.ks, List.length_nil, Bool.and_eq_true] at h
  have hs := h.1.1.2
  unfold shapedK at hs
  by_cases c1 : k = 0 ∨ k = 2
  · rw [if_pos c1] at hs
    simp [isC] at hs
    omega
  · rw [if_neg c1] at hs
    by_cases c2 : k = 1 ∨ k = 3 ∨ k = 9
    · rw [if_pos c2] at hs; omega
    · rw [if_neg c2] at hs
      simp at hs
theorem takes_same {k c : Int} {m : Nat} (h0 : 0 ≤ k) (h3 : k ≤ 3) (hc : k = 0 → 0 ≤ c ∧ c ≤ 35) (hm : m ≤ 36) : takesG k c (m : Int) = takesE k c m := by
  have : k = 0 ∨ k = 1 ∨ k = 2 ∨ k = 3 := by omega
  rcases this with rfl | rfl | rfl | rfl
  · have := hc rfl
    unfold takesG takesE
    by_cases e : (m : Int) = c
    · have : m ≤ 35 := by omega
      simp [e, this]
    · simp [e]
  · unfold takesG takesE isC
    by_cases e : m ≤ 35
    · have h1 : (m : Int) < 36 := by omega
      simp [e, h1]
    · have h1 : ¬ (m : Int) < 36 := by omega
      simp [e, h1]
  · unfold takesG takesE isC
    by_cases e : m ≤ 35
    · have h1 : (m : Int) < 36 := by omega
      simp [e, h1]
    · have h1 : ¬ (m : Int) < 36 := by omega
      simp [e, h1]
  · unfold takesG takesE
    by_cases e : m = 36
    · subst e; simp
    · have h1 : ((m : Int) == 36) = false := by simp; omega
      have h2 : (m == 36) = false := by simp [e]
      simp [h1, h2]
/-- Behind some of the marks. -/
def leafU (s : St) (k c : Int) (i : Nat) : St := { s with count := s.count + 1, takers := fun m => if decide (m < i) && takesE k c m then s.takers m ||| 2 ^ s.count else s.takers m }
theorem leafU_zero (s : St) (k c : Int) : leafU s k c 0 = { s with count := s.count + 1 } := by simp [leafU]
theorem leafU_full (s : St) (k c : Int) : leafU s k c 37 = s.leaf k c := by
  unfold leafU St.leaf
  simp only [St.mk.injEq, true_and, and_true]
  funext m
  have : decide (m < 37) = decide (m ≤ 36) := by congr 1; simp; omega
  rw [this]
theorem leafU_no {s : St} {k c : Int} {i : Nat} (h : takesE k c i = false) : leafU s k c (i + 1) = leafU s k c i := by
  unfold leafU
  simp only [St.mk.injEq, true_and, and_true]
  funext m
  by_cases e : m = i
  · subst e; simp [h]
  · have : decide (m < i + 1) = decide (m < i) := by congr 1; simp; omega
    rw [this]
theorem leafU_yes {s : St} {k c : Int} {i : Nat} (h : takesE k c i = true) : (leafU s k c i).setT i (s.takers i ||| 2 ^ s.count) = leafU s k c (i + 1) := by
  unfold leafU St.setT
  simp only [St.mk.injEq, true_and, and_true]
  funext m
  by_cases e : m = i
  · subst e; simp [h]
  · have : decide (m < i + 1) = decide (m < i) := by congr 1; simp; omega
    rw [if_neg e, this]
theorem leafU_at (s : St) (k c : Int) (i : Nat) : (leafU s k c i).takers i = s.takers i := by simp [leafU]
theorem NfaAt.drew {w : World} {q : Np} {n : Nat} {se : Bool} {s : St} (h : NfaAt w q n se s) : NfaAt w.drew q n se s := ⟨h.c0, h.c1, h.c2, h.c3, h.c4, h.f1, h.mN, h.mT, h.mL, h.t⟩
theorem NfaAt.counted {w : World} {q : Np} {n B : Nat} {se : Bool} {s : St} (h : NfaAt w q n se s) (hq : q.Ok B) (m : Nat) : NfaAt (w.setCell ⟨q.b, 1, none⟩ (.int .i64 (m : Int))) q n se { s with count := m } := by
  have o := fun j (hj : j ≠ 1) => World.cell?_setCell_other (w := w) (a := ⟨q.b, 1, none⟩) (b := ⟨q.b, j, none⟩) (v := .int .i64 (m : Int)) (by intro h3; injection h3 with h4 h5; omega)
  have hb := fun k (hne : k ≠ q.b) => Below.heap_setCell w ⟨q.b, 1, none⟩ (.int .i64 (m : Int)) k hne
  exact ⟨(o 0 (by omega)).trans h.c0, World.cell?_setCell_same _ _ _ h.c1, (o 2 (by omega)).trans h.c2, (o 3 (by omega)).trans h.c3, (o 4 (by omega)).trans h.c4, by rw [World.frozen?_setCell]; exact h.f1,
    h.mN.block (hb _ (Ne.symm hq.d1)), h.mT.block (hb _ (Ne.symm hq.d2)), h.mL.block (hb _ (Ne.symm hq.d3)), h.t⟩

def ndC (k c : Int) (A : Option Addr) (n cap : Nat) : Array Value := #[.int .i64 k, .int .i64 c, .slice A n cap]
set_option maxHeartbeats 8000000 in
set_option maxRecDepth 100000 in
theorem leaf_any (q : Np) (B n : Nat) (se : Bool) (s : St) (k c : Int) (A : Option Addr) (cap : Nat) (w : World) (h : NfaAt w q n se s) (hq : q.Ok B) (hBw : B ≤ w.heap.size) (hN : Nd w B (.mk k c []) (.agg #[.int .i64 k, .int .i64 c, .slice A 0 cap]))
    (h9 : k ≠ 9) (hr : rightE (.mk k c []) = true) (hcnt : s.count < 1024) (hn : n ≤ 1000000000000) :
    Calls Tryd.prog 96 #[.pointer (some ⟨q.b, 0, none⟩), .agg #[.int .i64 k, .int .i64 c, .slice A 0 cap]] w fun e w' => e = .returned (.agg (spL ⟨2 ^ s.count, 2 ^ s.count, false⟩).toArray) ∧ Kp q w w' ∧ NfaAt w' q (n + 37) se (s.leaf k c) := by
  obtain ⟨k0, k3, kc⟩ := right_leaf h9 hr
  obtain ⟨W1, hW1⟩ : ∃ W, w.alloc (.cells #[.int .i64 k, .int .i64 c, .slice A 0 cap] 91) = W := ⟨_, rfl⟩
  obtain ⟨N1, hN1⟩ : ∃ N, W1.heap.size = N := ⟨_, rfl⟩
  obtain ⟨W2, hW2⟩ : ∃ W, W1.alloc (.cells Z80 125) = W := ⟨_, rfl⟩
  have hz1 : W1.heap.size = w.heap.size + 1 := by rw [← hW1]; simp
  have hz2 : W2.heap.size = w.heap.size + 2 := by rw [← hW2]; simp [hz1]
  have b1 : Below w.heap.size w W1 := by rw [← hW1]; exact below_new _ _
  have b2 : Below W1.heap.size W1 W2 := by rw [← hW2]; exact below_new _ _
  have x1 : Cells W2 w.heap.size 91 #[.int .i64 k, .int .i64 c, .slice A 0 cap] := (b2.block _ (by omega)).trans (by rw [← hW1]; exact cells_new _ _ _)
  have x2 : SpAt W2 N1 sp0 := by rw [← hN1, ← hW2]; exact spAt_new W1 sp0
  have b12 : Below w.heap.size w W2 := b1.trans (b2.mono (by omega))
  have n2 : NfaAt W2 q n se s := h.below b12
  have c1 := n2.c1
  have C1 := Lib.hid (only_any s.count W2 hcnt)
  have hqb := fun k (hk : q.In k) => h.lt hk
  have HQ := Lib.hid hqb
  have HS := Lib.hid (And.intro hW1 (And.intro hN1 (And.intro hW2 (And.intro hz1 hz2))))
  have H2 := Lib.hid (And.intro b12 (And.intro x1 (And.intro x2 n2)))
  have HN := Lib.hid (And.intro hN (And.intro hr (And.intro hBw (And.intro kc hn))))
  have HQK := Lib.hid hq
  clear h hN hr hW1 hN1 hW2 hz1 hz2 b1 b2 x1 x2 b12 n2 hqb hBw kc hn hq
  go_enter Tryd.func96, Tryd.ntmps96
  go_wp2_with (first
    | (refine wpList_alloc80 rfl 4 rfl rfl N1 (by rw [HS.out.1]; exact HS.out.2.1) W2 (by rw [HS.out.1]; exact HS.out.2.2.1) ?_)
    | (go_at_call 57; refine C1.out.mono ?_; rintro e W3 ⟨rfl, hb3⟩
       have p4 := plAt_new W3
       have b4 := below_new W3 (.cells Z70 106)
       obtain ⟨N3, hN3⟩ : ∃ N, W3.heap.size = N := ⟨_, rfl⟩
       obtain ⟨W4, hW4⟩ : ∃ W, W3.alloc (.cells Z70 106) = W := ⟨_, rfl⟩
       rw [hW4] at p4 b4
       rw [hN3] at p4
       have H4 := Lib.hid (And.intro hN3 (And.intro hW4 (And.intro p4 (And.intro b4 hb3))))
       clear p4 b4 hN3 hW4 hb3)
    | (refine wpList_alloc70 rfl 5 rfl rfl N3 H4.out.1 W4 H4.out.2.1 ?_)
    | (refine wpList_storePl rfl (.tmp 5) (.tmp 12) rfl rfl N3 0 0 (2 ^ s.count) rfl rfl H4.out.2.2.1 ?_
       intro W5 hW5
       have hng : ¬ q.In N3 := fun hin => by have := HQ.out _ hin; have := H4.out.1; have := H4.out.2.2.2.2.size; have := HS.out.2.2.2.2; omega
       have hb34 : Below W2.heap.size W2 W4 := H4.out.2.2.2.2.trans (H4.out.2.2.2.1.mono H4.out.2.2.2.2.size)
       have n5 : NfaAt W5 q n se s := (H2.out.2.2.2.below hb34).grown hW5.grown hng
       have k5 : Kp q w W5 := ((Kp.of_below H2.out.1).below hb34).grown hW5.grown (.inr (by have := H4.out.1; have := H4.out.2.2.2.2.size; have := HS.out.2.2.2.2; omega))
       have hbk : ∀ g, g < W2.heap.size → W5.heap[g]? = W2.heap[g]? := fun g hg => (hW5.grown.block g (by have := hb34.size; omega) (fun e => by injection e with e; have := H4.out.1; have := H4.out.2.2.2.2.size; omega)).trans (hb34.block g hg)
       have x5 : Cells W5 w.heap.size 91 #[.int .i64 k, .int .i64 c, .slice A 0 cap] := (hbk _ (by have := HS.out.2.2.2.2; omega)).trans H2.out.2.1
       have s5 : SpAt W5 N1 sp0 := H2.out.2.2.1.block (hbk _ H2.out.2.2.1.lt)
       have c1 := n5.c1
       have f1 := n5.f1
       have H5 := Lib.hid (And.intro hW5.at_ (And.intro n5 (And.intro k5 (And.intro x5 (And.intro s5 hng)))))
       clear hW5 hng hb34 n5 k5 hbk x5 s5)
    | fail)
  obtain ⟨W6, hW6⟩ : ∃ W, W5.setCell ⟨q.b, 1, none⟩ (.int .i64 ((s.count : Int) + 1)) = W := ⟨_, rfl⟩
  rw [hW6]
  have n6 : NfaAt W6 q n se { s with count := s.count + 1 } := by rw [← hW6]; exact H5.out.2.1.counted HQK.out (s.count + 1)
  have g6 : W5.grownBy W6 (some q.b) := by rw [← hW6]; exact grown_setc _ _ _ _
  have hbk : ∀ g, g < W5.heap.size → ¬ q.In g → W6.heap[g]? = W5.heap[g]? := fun g hg hn => g6.block g hg (fun e => hn (by injection e with e; exact .inl e))
  have hw5 : w.heap.size ≤ W5.heap.size := H5.out.2.2.1.size
  have hnw : ¬ q.In w.heap.size := fun hin => by have := HQ.out _ hin; omega
  have hn1 : ¬ q.In N1 := fun hin => by have := HQ.out _ hin; have := HS.out.2.1; have := HS.out.2.2.2.1; omega
  have x6 : Cells W6 w.heap.size 91 #[.int .i64 k, .int .i64 c, .slice A 0 cap] := (hbk _ H5.out.2.2.2.1.lt hnw).trans H5.out.2.2.2.1
  have s6 : SpAt W6 N1 sp0 := H5.out.2.2.2.2.1.block (hbk _ H5.out.2.2.2.2.1.lt hn1)
  have p6 : PlAt W6 N3 0 (2 ^ s.count) := H5.out.1.block (hbk _ H5.out.1.lt H5.out.2.2.2.2.2)
  have k6 : Kp q w W6 := H5.out.2.2.1.grown g6 (.inl (.inl rfl))
  have H6 := Lib.hid (And.intro n6 (And.intro k6 (And.intro x6 (And.intro s6 (And.intro p6 (And.intro hnw (And.intro hn1 H5.out.2.2.2.2.2)))))))
  clear hW6 n6 g6 hbk hw5 hnw hn1 x6 s6 p6 k6 c1 f1
  go_loopw [20] (fun v wr => ∃ i : Nat, v = .int .i64 (i : Int) ∧ i ≤ 37 ∧ Kp q W6 wr ∧ NfaAt wr q (n + i) se (leafU s k c i)) (fun v _ => 37 - (RowKit.intOf v).toNat)
  case atStart => exact ⟨0, rfl, by omega, Kp.refl _ _, by rw [leafU_zero]; exact H6.out.1⟩
  case round =>
    obtain ⟨i, rfl, hi, hkp, hnf⟩ := hrel
    by_cases hlt : i < 37
    · have i1 : (i : Int) < 37 := by omega
      have xr : Cells wr w.heap.size 91 #[.int .i64 k, .int .i64 c, .slice A 0 cap] := (hkp.block _ H6.out.2.2.1.lt H6.out.2.2.2.2.2.1).trans H6.out.2.2.1
      have d0 := xr.cell 0
      have d1 := xr.cell 1
      have d2 := xr.cell 2
      simp at d0 d1 d2
      obtain ⟨WM, hWM⟩ : ∃ W, wr.alloc (.cells #[.int .i64 (i : Int)] 3) = W := ⟨_, rfl⟩
      have bM : Below wr.heap.size wr WM := by rw [← hWM]; exact below_new _ _
      have bw : Below B w WM := (H6.out.2.1.under HQK.out HN.out.2.2.1).trans ((hkp.under HQK.out (by have := H6.out.2.1.size; have := HN.out.2.2.1; omega)).trans (bM.mono (by have := H6.out.2.1.size; have := hkp.size; have := HN.out.2.2.1; omega)))
      have hNM : Nd WM WM.heap.size (.mk k c []) (.agg #[.int .i64 k, .int .i64 c, .slice A 0 cap]) := (HN.out.1.below bw).mono (by have := bw.size; have := HN.out.2.2.1; omega)
      have hcM : WM.cell? ⟨wr.heap.size, 0, none⟩ = some (.int .i64 (i : Int)) := by rw [← hWM, World.cell?_alloc_new]; rfl
      have CM := Lib.hid (matchLeaf_any k c (i : Int) A cap wr.heap.size WM k0 k3 hNM HN.out.2.1 hcM)
      rw [takes_same k0 k3 HN.out.2.2.2.1 (by omega)] at CM
      have HWM := Lib.hid hWM
      have HK := Lib.hid (And.intro hkp (And.intro hnf bM))
      clear hkp hnf xr hWM bM bw hNM hcM
      go_wp2_with fail
      rw [HWM.out]
      refine CM.out.mono ?_
      rintro e WN ⟨rfl, hbN⟩
      have kN : Kp q W6 WN := (HK.out.1.below HK.out.2.2).below hbN
      have nN : NfaAt WN q (n + i) se (leafU s k c i) := (HK.out.2.1.below HK.out.2.2).below hbN
      by_cases ht : takesE k c i = true
      · rw [ht]
        have c3 := nN.c3
        have pN : PlAt WN N3 0 (2 ^ s.count) := kN.pl H6.out.2.2.2.2.2.2.2 H6.out.2.2.2.2.1
        obtain ⟨G, hG⟩ : ∃ G, WN.heap.size = G := ⟨_, rfl⟩
        obtain ⟨W7, hW7⟩ : ∃ W, WN.alloc (.cells Z70 106) = W := ⟨_, rfl⟩
        have p7 : PlAt W7 G 0 0 := by rw [← hW7, ← hG]; exact plAt_new WN
        have b7 : Below WN.heap.size WN W7 := by rw [← hW7]; exact below_new _ _
        have HT := Lib.hid ht
        have H7 := Lib.hid (And.intro hG (And.intro hW7 (And.intro p7 (And.intro b7 (And.intro kN (And.intro nN pN))))))
        clear hG hW7 p7 b7 kN nN pN hbN d0 d1 d2 ht
        go_wp2_with (first
          | (refine wpList_lookT rfl (.tmp 30) (.tmp 31) rfl H7.out.2.2.2.2.2.1 (i : Int) (nat64 (by omega)) (s.takers i) (by unfold takersI; rw [if_pos (by omega), Int.toNat_natCast]; exact leafU_at _ _ _ _) rfl rfl ?_)
          | (refine wpList_alloc70 rfl 7 rfl rfl G H7.out.1 W7 H7.out.2.1 ?_)
          | (refine wpList_storePl rfl (.tmp 7) (.tmp 32) rfl rfl G 0 0 (s.takers i) rfl rfl H7.out.2.2.1 ?_
             intro W8 hW8
             have k8 : Kp q W6 W8 := (H7.out.2.2.2.2.1.below H7.out.2.2.2.1).grown hW8.grown (.inr (by have := H7.out.1; have := H7.out.2.2.2.2.1.size; omega))
             have hng : ¬ q.In G := fun hin => by have := H7.out.2.2.2.2.2.1.lt hin; have := H7.out.1; omega
             have n8 : NfaAt W8 q (n + i) se (leafU s k c i) := (H7.out.2.2.2.2.2.1.below H7.out.2.2.2.1).grown hW8.grown hng
             have q8 : PlAt W8 N3 0 (2 ^ s.count) := k8.pl H6.out.2.2.2.2.2.2.2 H6.out.2.2.2.2.1
             have H8 := Lib.hid (And.intro hW8.at_ (And.intro k8 (And.intro n8 (And.intro q8 hng))))
             clear hW8 k8 n8 q8 hng)
          | (refine wpList_loadPl rfl (.tmp 5) rfl N3 0 (2 ^ s.count) rfl H8.out.2.2.2.1 ?_)
          | (go_at_call 55; refine (padd_any G 0 (s.takers i) (2 ^ s.count) W8 H8.out.1).mono ?_; rintro e W9 ⟨rfl, hW9⟩)
          | fail)
        have k9 : Kp q W6 W9 := H8.out.2.1.grown hW9.grown (.inr (by have := H7.out.1; have := H7.out.2.2.2.2.1.size; omega))
        have n9 : NfaAt W9 q (n + i) se (leafU s k c i) := H8.out.2.2.1.grown hW9.grown H8.out.2.2.2.2
        have hdw : PlAt W9.drew G 0 (s.takers i ||| 2 ^ s.count) := hW9.at_
        have c3' := n9.c3
        have H9 := Lib.hid (And.intro k9 n9)
        have HD := Lib.hid hdw
        clear k9 n9 hW9 hdw c3
        go_wp2_with fail
        go_still_tail 6, (by kernel_rfl)
        refine wpStill_loadPl (.tmp 7) rfl (by kernel_rfl) G 0 (s.takers i ||| 2 ^ s.count) rfl HD.out ?_
        refine wpStill_nil ?_
        change wpList _ _ _ _ _ W9.drew
        refine wpList_updT rfl (.tmp 38) (.tmp 39) (.tmp 40) rfl H9.out.2.drew HQK.out (by unfold maxLen; have := HN.out.2.2.2.2; omega) i (by omega) (s.takers i ||| 2 ^ s.count) rfl rfl rfl ?_
        intro Wt nt gt
        have hend : ∃ j : Nat, Value.int .i64 ((i : Int) + 1) = .int .i64 (j : Int) ∧ j ≤ 37 ∧ Kp q W6 Wt ∧ NfaAt Wt q (n + j) se (leafU s k c j) :=
          ⟨i + 1, by simp, by omega, H9.out.1.drew.grown gt (.inl (.inr (.inr (.inl rfl)))), by rw [← leafU_yes HT.out]; exact nt⟩
        have HEND := Lib.hid hend
        clear nt gt hend c3'
        go_wp2_with fail
        go_roundw
        case rel => exact HEND.out
        case measure => simp [RowKit.intOf]; omega
      · have ht : takesE k c i = false := by simpa using ht
        rw [ht]
        have hend : ∃ j : Nat, Value.int .i64 ((i : Int) + 1) = .int .i64 (j : Int) ∧ j ≤ 37 ∧ Kp q W6 WN ∧ NfaAt WN q (n + j) se (leafU s k c j) := ⟨i + 1, by simp, by omega, kN, by rw [leafU_no ht]; exact nN.mono (by omega)⟩
        have HEND := Lib.hid hend
        clear hend kN nN hbN d0 d1 d2
        go_wp2_with fail
        go_roundw
        case rel => exact HEND.out
        case measure => simp [RowKit.intOf]; omega
    · obtain rfl : i = 37 := by omega
      have d1 : ¬ ((37 : Nat) : Int) < 37 := by omega
      have pN : PlAt wr N3 0 (2 ^ s.count) := hkp.pl H6.out.2.2.2.2.2.2.2 H6.out.2.2.2.2.1
      have sN : SpAt wr N1 sp0 := H6.out.2.2.2.1.block (hkp.block _ H6.out.2.2.2.1.lt H6.out.2.2.2.2.2.2.1)
      have HK := Lib.hid (And.intro hkp (And.intro hnf (And.intro pN sN)))
      clear hkp hnf pN sN
      go_wp2_with (first
        | (refine wpList_loadPl rfl (.tmp 5) rfl N3 0 (2 ^ s.count) rfl HK.out.2.2.1 ?_)
        | (refine wpList_buildLeaf rfl (.tmp 42) (.tmp 43) rfl (2 ^ s.count) rfl rfl ?_)
        | (refine wpList_storeSp rfl (.tmp 4) (.tmp 44) rfl rfl N1 sp0 ⟨2 ^ s.count, 2 ^ s.count, false⟩ rfl rfl HK.out.2.2.2 ?_; intro W8 hW8; have H8 := Lib.hid hW8; clear hW8)
        | fail)
      refine bodyPost_ret (v := .agg (spL ⟨2 ^ s.count, 2 ^ s.count, false⟩).toArray) (results_sp rfl _ _ N1 _ rfl H8.out.at_) rfl ⟨rfl, ?_, ?_⟩
      · exact (H6.out.2.1.trans HK.out.1).grown H8.out.grown (.inr (by have := HS.out.2.1; have := HS.out.2.2.2.1; omega))
      · rw [← leafU_full]
        exact HK.out.2.1.grown H8.out.grown H6.out.2.2.2.2.2.2.1
end Go.Proofs.YtmldgfplnacecaaDoor

namespace Go.Proofs.YtmldgfplnacecaaDoor
open Go.RowKit Go.Shelf Go.Lib Go.Great Go.Maps

theorem good_parts {k c : Int} {ks : List E} (h : goodE (.mk k c ks) = true) : k ≠ 9 ∧ shapedK k c ks.length = true ∧ goodE.all ks = true := by
  rw [goodE_eq] at h
  simp only [E.k, E.c, E.ks, Bool.and_eq_true] at h
  exact ⟨of_decide_eq_true h.1.1, h.1.2, h.2⟩
theorem shaped_many {k c : Int} {n : Nat} (h : shapedK k c n = true) (hk : k = 4 ∨ k = 5) : 2 ≤ n := by
  unfold shapedK at h
  rw [if_neg (by omega), if_neg (by omega), if_pos hk] at h
  simp at h; exact h.2
theorem shaped_one {k c : Int} {n : Nat} (h : shapedK k c n = true) (hk : k = 6 ∨ k = 7 ∨ k = 8) : n = 1 := by
  unfold shapedK at h
  rw [if_neg (by omega), if_neg (by omega), if_neg (by omega), if_pos hk] at h
  simp at h; exact h.2
theorem shaped_leaf {k c : Int} {n : Nat} (h : shapedK k c n = true) (h4 : k ≠ 4) (h5 : k ≠ 5) (h6 : k ≠ 6) (h7 : k ≠ 7) (h8 : k ≠ 8) : n = 0 := by
  unfold shapedK at h
  by_cases c1 : k = 0 ∨ k = 2
  · rw [if_pos c1] at h; simp at h; exact h.2
  · rw [if_neg c1] at h
    by_cases c2 : k = 1 ∨ k = 3 ∨ k = 9
    · rw [if_pos c2] at h; simp at h; exact h.2
    · rw [if_neg c2, if_neg (by omega), if_neg (by omega)] at h; cases h
abbrev lvL := leavesE.lvL
theorem leaves_kids {k c : Int} {ks : List E} (h : ks ≠ []) : leavesE (.mk k c ks) = lvL ks := by
  unfold leavesE; rw [if_neg h]
mutual
theorem count_readE : ∀ (e : E) (s : St), goodE e = true → (readE e s).1.count = s.count + leavesE e
  | .mk k c ks, s, h => by
    obtain ⟨h9, hs, ha⟩ := good_parts h
    unfold readE
    rw [if_neg h9]
    by_cases h4 : k = 4
    · rw [if_pos h4, leaves_kids (by have := shaped_many hs (.inl h4); rintro rfl; simp at this)]
      exact count_seqL ks s _ ha
    · rw [if_neg h4]
      by_cases h5 : k = 5
      · rw [if_pos h5, leaves_kids (by have := shaped_many hs (.inr h5); rintro rfl; simp at this)]
        exact count_altL ks s _ ha
      · rw [if_neg h5]
        by_cases h6 : k = 6
        · have h1 := shaped_one hs (.inl h6)
          rw [if_pos h6, leaves_kids (by rintro rfl; simp at h1)]
          exact count_headL ks s ha h1
        · rw [if_neg h6]
          by_cases h7 : k = 7
          · have h1 := shaped_one hs (.inr (.inl h7))
            rw [if_pos h7, leaves_kids (by rintro rfl; simp at h1)]
            exact count_headL ks s ha h1
          · rw [if_neg h7]
            by_cases h8 : k = 8
            · have h1 := shaped_one hs (.inr (.inr h8))
              rw [if_pos h8, leaves_kids (by rintro rfl; simp at h1)]
              exact count_headL ks s ha h1
            · rw [if_neg h8]
              have h0 := List.eq_nil_of_length_eq_zero (shaped_leaf hs h4 h5 h6 h7 h8)
              subst h0
              unfold leavesE
              rw [if_pos rfl, if_neg h9]
              rfl
theorem count_headL : ∀ (ks : List E) (s : St), goodE.all ks = true → ks.length = 1 → (readE.headL ks s).1.count = s.count + leavesE.lvL ks
  | [], s, _, h => by simp at h
  | e :: r, s, h, h1 => by
    have hr : r = [] := List.eq_nil_of_length_eq_zero (by simpa using h1)
    subst hr
    unfold goodE.all at h
    simp only [Bool.and_eq_true] at h
    unfold readE.headL
    rw [count_readE e s h.1]
    rfl
theorem count_seqL : ∀ (ks : List E) (s : St) (a : Sp), goodE.all ks = true → (readE.seqL ks s a).1.count = s.count + leavesE.lvL ks
  | [], s, a, _ => rfl
  | e :: r, s, a, h => by
    unfold goodE.all at h
    simp only [Bool.and_eq_true] at h
    unfold readE.seqL
    dsimp only
    rw [count_seqL r _ _ h.2]
    have := count_readE e s h.1
    have e2 : leavesE.lvL (e :: r) = leavesE e + leavesE.lvL r := rfl
    have e3 : ((readE e s).1.link a.last (readE e s).2.first).count = (readE e s).1.count := rfl
    omega
theorem count_altL : ∀ (ks : List E) (s : St) (a : Sp), goodE.all ks = true → (readE.altL ks s a).1.count = s.count + leavesE.lvL ks
  | [], s, a, _ => rfl
  | e :: r, s, a, h => by
    unfold goodE.all at h
    simp only [Bool.and_eq_true] at h
    unfold readE.altL
    dsimp only
    rw [count_altL r _ _ h.2]
    have := count_readE e s h.1
    have e2 : leavesE.lvL (e :: r) = leavesE e + leavesE.lvL r := rfl
    omega
end
theorem lvL_append (a b : List E) : lvL (a ++ b) = lvL a + lvL b := by
  induction a with
  | nil => simp [lvL, leavesE.lvL]
  | cons e r ih => simp only [List.cons_append, lvL, leavesE.lvL] at *; omega
theorem lvL_take {ks : List E} {i : Nat} {e : E} (h : ks[i]? = some e) : lvL (ks.take (i + 1)) = lvL (ks.take i) + leavesE e := by
  rw [List.take_add_one, h, lvL_append]
  simp [lvL, leavesE.lvL]
theorem lvL_take_le (ks : List E) (i : Nat) : lvL (ks.take i) ≤ lvL ks := by
  have := lvL_append (ks.take i) (ks.drop i)
  rw [List.take_append_drop] at this
  omega
theorem seqL_take {ks : List E} {i : Nat} {e : E} (h : ks[i]? = some e) (s : St) (p : Sp) :
    seqL (ks.take (i + 1)) s p = seqL [e] (seqL (ks.take i) s p).1 (seqL (ks.take i) s p).2 := by
  rw [List.take_add_one, h, Option.toList_some, seqL_append]
theorem altL_take {ks : List E} {i : Nat} {e : E} (h : ks[i]? = some e) (s : St) (p : Sp) :
    altL (ks.take (i + 1)) s p = altL [e] (altL (ks.take i) s p).1 (altL (ks.take i) s p).2 := by
  rw [List.take_add_one, h, Option.toList_some, altL_append]
theorem good_taken {ks : List E} (h : goodE.all ks = true) (i : Nat) : goodE.all (ks.take i) = true := by
  induction ks generalizing i with
  | nil => simp [goodE.all]
  | cons e r ih =>
    unfold goodE.all at h
    simp only [Bool.and_eq_true] at h
    cases i with
    | zero => rfl
    | succ i =>
      rw [List.take_succ_cons]
      unfold goodE.all
      rw [h.1, ih h.2 i]; rfl
theorem leaves_le : ∀ N e, szE e ≤ N → leavesE e ≤ szE e := by
  intro N
  induction N with
  | zero => intro e h; have := szE_pos e; omega
  | succ N ih =>
    intro e h
    obtain ⟨k, c, ks⟩ := e
    have hz := szE_eq (.mk k c ks)
    simp only [E.ks] at hz
    by_cases hk : ks = []
    · subst hk
      unfold leavesE
      rw [if_pos rfl]
      split <;> omega
    · rw [leaves_kids hk]
      have hl : ∀ l : List E, (∀ e ∈ l, szE e ≤ N) → lvL l ≤ szL l := by
        intro l
        induction l with
        | nil => intro _; simp [lvL, leavesE.lvL]
        | cons a r ih2 =>
          intro hh
          have h1 := ih a (hh a (by simp))
          have h2 := ih2 (fun e he => hh e (by simp [he]))
          simp only [lvL, leavesE.lvL, szL, szE.szL] at *
          omega
      have := hl ks (fun e he => by have := szL_mem he; omega)
      omega
end Go.Proofs.YtmldgfplnacecaaDoor

namespace Go.Proofs.YtmldgfplnacecaaDoor
open Go.RowKit Go.Shelf Go.Lib Go.Great Go.Maps

/-- Reading a part does what it should. -/
def ReadOk (e : E) : Prop := ∀ (q : Np) (B n : Nat) (se : Bool) (s : St) (v : Value) (w : World), NfaAt w q n se s → q.Ok B → B ≤ w.heap.size → 0 < B → TZ w → Nd w B e v → goodE e = true → s.count + leavesE e ≤ 1000 →
  n + 5000 * szE e ≤ 900000000000 → Calls Tryd.prog 82 #[.pointer (some ⟨q.b, 0, none⟩), v] w fun r w' => r = .returned (.agg (spL (readE e s).2).toArray) ∧ Kp q w w' ∧ NfaAt w' q (n + (5000 * szE e - 2500)) se (readE e s).1
/-- Blocks made since w, apart. -/
structure Fx (q : Np) (w : World) (N4 N5 N8 : Nat) : Prop where
  q4 : ¬ q.In N4
  q5 : ¬ q.In N5
  q8 : ¬ q.In N8
  n4 : w.heap.size ≤ N4
  n5 : w.heap.size ≤ N5
  n8 : w.heap.size ≤ N8
  d1 : N4 ≠ N5
  d2 : N4 ≠ N8
  d3 : N5 ≠ N8
/-- In the midst. -/
structure Sq (q : Np) (w W : World) (N4 N5 N8 n : Nat) (se : Bool) (S : St) (P Q : Sp) : Prop where
  kp : Kp q w W
  nf : NfaAt W q n se S
  r : SpAt W N4 sp0
  a : SpAt W N5 P
  s : SpAt W N8 Q
theorem Sq.keep {q : Np} {w W W' : World} {N4 N5 N8 n n' : Nat} {se : Bool} {S S' : St} {P Q : Sp} (h : Sq q w W N4 N5 N8 n se S P Q) (f : Fx q w N4 N5 N8) (hk : Kp q W W') (hn : NfaAt W' q n' se S') : Sq q w W' N4 N5 N8 n' se S' P Q :=
  ⟨h.kp.trans hk, hn, h.r.block (hk.block _ h.r.lt f.q4), h.a.block (hk.block _ h.a.lt f.q5), h.s.block (hk.block _ h.s.lt f.q8)⟩
theorem SpAt.grown {w w' : World} {b x : Nat} {p : Sp} (h : SpAt w b p) (hg : w.grownBy w' (some x)) (hx : b ≠ x) : SpAt w' b p := h.block (hg.block b h.lt (fun e => hx (by injection e)))
theorem Sq.a1 {q : Np} {w W W' : World} {N4 N5 N8 n m : Nat} {se : Bool} {S : St} {P Q : Sp} (h : Sq q w W N4 N5 N8 n se S P Q) (f : Fx q w N4 N5 N8) (hs : PlSet W W' N5 0 m) : Sq q w W' N4 N5 N8 n se S ⟨m, P.last, P.empty⟩ Q :=
  ⟨h.kp.grown hs.grown (.inr f.n5), h.nf.grown hs.grown f.q5, h.r.grown hs.grown f.d1, h.a.first hs, h.s.grown hs.grown f.d3.symm⟩
theorem Sq.a2 {q : Np} {w W W' : World} {N4 N5 N8 n m : Nat} {se : Bool} {S : St} {P Q : Sp} (h : Sq q w W N4 N5 N8 n se S P Q) (f : Fx q w N4 N5 N8) (hs : PlSet W W' N5 16 m) : Sq q w W' N4 N5 N8 n se S ⟨P.first, m, P.empty⟩ Q :=
  ⟨h.kp.grown hs.grown (.inr f.n5), h.nf.grown hs.grown f.q5, h.r.grown hs.grown f.d1, h.a.last hs, h.s.grown hs.grown f.d3.symm⟩
theorem Sq.a3 {q : Np} {w W : World} {N4 N5 N8 n : Nat} {se : Bool} {S : St} {P Q : Sp} (h : Sq q w W N4 N5 N8 n se S P Q) (f : Fx q w N4 N5 N8) (e : Bool) : Sq q w (W.setCell ⟨N5, 32, none⟩ (.bool e)) N4 N5 N8 n se S ⟨P.first, P.last, e⟩ Q :=
  ⟨h.kp.grown (grown_setc W N5 32 _) (.inr f.n5), h.nf.grown (grown_setc W N5 32 _) f.q5, h.r.grown (grown_setc W N5 32 _) f.d1, h.a.empty e, h.s.grown (grown_setc W N5 32 _) f.d3.symm⟩
theorem Sq.s2 {q : Np} {w W W' : World} {N4 N5 N8 n m : Nat} {se : Bool} {S : St} {P Q : Sp} (h : Sq q w W N4 N5 N8 n se S P Q) (f : Fx q w N4 N5 N8) (hs : PlSet W W' N8 16 m) : Sq q w W' N4 N5 N8 n se S P ⟨Q.first, m, Q.empty⟩ :=
  ⟨h.kp.grown hs.grown (.inr f.n8), h.nf.grown hs.grown f.q8, h.r.grown hs.grown f.d2, h.a.grown hs.grown f.d3, h.s.last hs⟩
/-- A new span beside the two. -/
theorem sq_new {q : Np} {w W W' W2 : World} {N4 N5 n : Nat} {se : Bool} {S : St} {P Q : Sp} (hk : Kp q w W) (hn : NfaAt W q n se S) (hr : SpAt W N4 sp0) (ha : SpAt W N5 P) (q4 : ¬ q.In N4) (q5 : ¬ q.In N5) (n4 : w.heap.size ≤ N4) (n5 : w.heap.size ≤ N5) (d1 : N4 ≠ N5)
    (hW : W.alloc (.cells Z80 125) = W') (hs : SpSet W' W2 W.heap.size Q) : Fx q w N4 N5 W.heap.size ∧ Sq q w W2 N4 N5 W.heap.size n se S P Q := by
  have b1 : Below W.heap.size W W' := by rw [← hW]; exact below_new _ _
  have q8 : ¬ q.In W.heap.size := fun hin => by have := hn.lt hin; omega
  have l4 := hr.lt
  have l5 := ha.lt
  have f : Fx q w N4 N5 W.heap.size := ⟨q4, q5, q8, n4, n5, hk.size, d1, by omega, by omega⟩
  exact ⟨f, (hk.below b1).grown hs.grown (.inr hk.size), (hn.below b1).grown hs.grown q8, (hr.block (b1.block _ l4)).grown hs.grown f.d2, (ha.block (b1.block _ l5)).grown hs.grown f.d3, hs.at_⟩
theorem spAt_new0 (w : World) : SpAt (w.alloc (.cells Z80 125)) w.heap.size sp0 := spAt_new w sp0
end Go.Proofs.YtmldgfplnacecaaDoor

