/-
  A span in memory: two sets and a truth value; laws for the walk.
-/
import Derived.Test.YtlbcicoppglgjaaDoorLnk
namespace Go.Proofs.YtlbcicoppglgjaaDoor
open Go.RowKit Go.Shelf Go.Lib Go.Great Go.Maps

def spL (p : Sp) : List Value := plL p.first ++ (plL p.last ++ [.bool p.empty])
theorem spL_len (p : Sp) : (spL p).length = 33 := by simp [spL, plL_len]
theorem spL_one (p : Sp) : (spL p).toArray.all (·.oneCell') = true := by
  rw [Array.all_eq_true_iff_forall_mem]
  intro v hv
  simp only [List.mem_toArray, spL, plL, List.mem_append, List.mem_map, List.mem_singleton] at hv
  rcases hv with ⟨j, _, rfl⟩ | ⟨j, _, rfl⟩ | rfl <;> rfl
theorem size80 : (Tryd.prog.info? 80).map (·.size) = some 33 := by kernel_rfl
def spV (p : Sp) : Value := .agg (spL p).toArray
def sp0 : Sp := ⟨0, 0, false⟩
structure SpAt (w : World) (b : Nat) (p : Sp) : Prop where
  f : PlAt w b 0 p.first
  l : PlAt w b 16 p.last
  e : w.cell? ⟨b, 32, none⟩ = some (.bool p.empty)
  z : w.frozen? ⟨b, 32, none⟩ = false
theorem spL_get1 (p : Sp) {i : Nat} (h : i < 16) : (spL p)[i]? = some (.int .u64 (wd p.first i : Nat)) := by
  unfold spL; rw [List.getElem?_append_left (by rw [plL_len]; exact h)]; exact plL_get _ _ h
theorem spL_get2 (p : Sp) {i : Nat} (h : i < 16) : (spL p)[16 + i]? = some (.int .u64 (wd p.last i : Nat)) := by
  unfold spL
  rw [List.getElem?_append_right (by rw [plL_len]; omega), List.getElem?_append_left (by rw [plL_len]; rw [plL_len]; omega), plL_len]
  rw [show 16 + i - 16 = i by omega]
  exact plL_get _ _ h
theorem spL_get3 (p : Sp) : (spL p)[32]? = some (.bool p.empty) := by
  unfold spL
  rw [List.getElem?_append_right (by rw [plL_len]; omega), List.getElem?_append_right (by rw [plL_len]; rw [plL_len]; omega), plL_len, plL_len]
  rfl
theorem SpAt.lt {w : World} {b : Nat} {p : Sp} (h : SpAt w b p) : b < w.heap.size := h.f.lt
theorem SpAt.block {w w' : World} {b : Nat} {p : Sp} (h : SpAt w b p) (hb : w'.heap[b]? = w.heap[b]?) : SpAt w' b p :=
  ⟨h.f.block hb, h.l.block hb, (World.cell?_of_block (w := w) (w' := w') (a := ⟨b, 32, none⟩) hb).trans h.e, (World.frozen?_of_block (w := w) (w' := w') (a := ⟨b, 32, none⟩) hb).trans h.z⟩
theorem SpAt.range {w : World} {b : Nat} {p : Sp} (h : SpAt w b p) : w.rangeAt b 0 (spL p) := by
  intro j v hv
  have hj : j < 33 := by have := (List.getElem?_eq_some_iff.1 hv).1; rw [spL_len] at this; exact this
  rw [Nat.zero_add]
  by_cases h1 : j < 16
  · rw [spL_get1 p h1] at hv; rw [← hv]; simpa using (h.f j h1).1
  · by_cases h2 : j < 32
    · obtain ⟨i, rfl⟩ : ∃ i, j = 16 + i := ⟨j - 16, by omega⟩
      rw [spL_get2 p (by omega)] at hv; rw [← hv]; exact (h.l i (by omega)).1
    · obtain rfl : j = 32 := by omega
      rw [spL_get3] at hv; rw [← hv]; exact h.e
theorem SpAt.there {w : World} {b : Nat} {p : Sp} (h : SpAt w b p) : w.there b 0 33 := fun j hj => by
  rw [Nat.zero_add]
  by_cases h1 : j < 16
  · have := h.f j h1; rw [Nat.zero_add] at this; exact ⟨by rw [this.1]; rfl, this.2⟩
  · by_cases h2 : j < 32
    · obtain ⟨i, rfl⟩ : ∃ i, j = 16 + i := ⟨j - 16, by omega⟩
      have := h.l i (by omega); exact ⟨by rw [this.1]; rfl, this.2⟩
    · obtain rfl : j = 32 := by omega
      exact ⟨by rw [h.e]; rfl, h.z⟩
theorem spAt_of {w : World} {b : Nat} {p : Sp} (h : ∀ j v, (spL p)[j]? = some v → w.cell? ⟨b, j, none⟩ = some v ∧ w.frozen? ⟨b, j, none⟩ = false) : SpAt w b p :=
  ⟨fun i hi => by rw [Nat.zero_add]; exact h i _ (spL_get1 p hi), fun i hi => h (16 + i) _ (spL_get2 p hi), (h 32 _ (spL_get3 p)).1, (h 32 _ (spL_get3 p)).2⟩
def Z80 : Array Value := (spL sp0).toArray
theorem spAt_new (w : World) (p : Sp) : SpAt (w.alloc (.cells (spL p).toArray 80)) w.heap.size p := spAt_of fun j v hv => by
  constructor
  · rw [World.cell?_alloc_new]; simpa using hv
  · exact World.frozen?_alloc_new _ _ _ _
theorem wpList_alloc80 {ops : Array Oper} {rest : List Oper} {o : Oper} {a : Act} {w : World} {Q : Exit → Act → World → Prop} (hg : o.guard = none) (dst : Tmp) (hdst : o.dst = some dst) (ho : o.op = .alloc 80)
    (N : Nat) (hN : w.heap.size = N) (W : World) (hW : w.alloc (.cells Z80 80) = W)
    (h : wpList Tryd.prog ops Q rest (a.put (some dst) (.pointer (some ⟨N, 0, none⟩))) W) : wpList Tryd.prog ops Q (o :: rest) a w := by
  subst hN hW
  refine wpList_allocTo hg (some dst) hdst (.pointer (some ⟨w.heap.size, 0, none⟩)) (.cells Z80 80) ?_ h
  obtain ⟨d, op, t, pos, aft, g⟩ := o
  dsimp only at ho
  subst ho
  kernel_rfl
/-- Behind the store of a span. -/
structure SpSet (w w' : World) (b : Nat) (p : Sp) : Prop where
  grown : w.grownBy w' (some b)
  at_ : SpAt w' b p
theorem spSet_cells {w : World} {b : Nat} {p : Sp} (p' : Sp) (h : SpAt w b p) : SpSet w (w.setCells b 0 (spL p').toArray.toList) b p' := by
  have hl := spL_len p'
  have ht := h.there
  simp only
  refine ⟨grown_setCells _ _ _ _, spAt_of fun j v hv => ?_⟩
  have hj : j < 33 := by have := (List.getElem?_eq_some_iff.1 hv).1; omega
  have hz := ht j hj
  rw [Nat.zero_add] at hz
  constructor
  · have h2 := World.cell?_setCells_in b (spL p') 0 w (fun i hi => (ht i (by omega)).1) j (by omega)
    rw [Nat.zero_add] at h2
    rw [h2]
    rw [List.getElem?_eq_getElem (by omega)] at hv
    exact hv
  · rw [World.frozen?_setCells]; exact hz.2
theorem wpList_storeSp {ops : Array Oper} {rest : List Oper} {o : Oper} {a : Act} {w : World} {Q : Exit → Act → World → Prop} (hg : o.guard = none) (x y : Operand) (ho : o.op = .store 80 x y) (hd : o.dst = none)
    (b : Nat) (p p' : Sp) (hx : a.eval x = .pointer (some ⟨b, 0, none⟩)) (hy : a.eval y = .agg (spL p').toArray) (hat : SpAt w b p)
    (h : ∀ W, SpSet w W b p' → wpList Tryd.prog ops Q rest a W) : wpList Tryd.prog ops Q (o :: rest) a w := by
  refine wpList_store_mid hg 80 x y ho b 0 (spL p').toArray hx hy (by simpa [spL_len] using hat.there) (by rw [size80]; simp [spL_len]) (spL_one _) ?_
  rw [hd]
  exact h _ (spSet_cells p' hat)
theorem wpList_loadSp {ops : Array Oper} {rest : List Oper} {o : Oper} {a : Act} {w : World} {Q : Exit → Act → World → Prop} (hg : o.guard = none) (x : Operand) (ho : o.op = .load 80 x)
    (b : Nat) (p : Sp) (hx : a.eval x = .pointer (some ⟨b, 0, none⟩)) (hat : SpAt w b p)
    (h : wpList Tryd.prog ops Q rest (a.put o.dst (.agg (spL p).toArray)) w) : wpList Tryd.prog ops Q (o :: rest) a w :=
  wpList_load_mid hg 80 x ho b 0 hx (spL p) _ hat.range Tryd.underlying80 rfl (by rw [spL_len]; exact size80) h
theorem results_sp {fn : Func} {t : Tmp} (h : fn.results = #[.cell t 80]) (tmps : Array Value) (w : World) (b : Nat) (p : Sp) (hp : tmps.getD t undef = .pointer (some ⟨b, 0, none⟩)) (hat : SpAt w b p) :
    (results fn tmps).run Tryd.prog w = .ok (.agg (spL p).toArray) w := by
  have hp' : tmps[t]?.getD undef = .pointer (some ⟨b, 0, none⟩) := by simpa using hp
  simp [results, h, hp', asAddr, run_loadVar_mid w b 0 80 (spL p) _ hat.range Tryd.underlying80 rfl (by rw [spL_len]; exact size80)]
theorem built_empty : (Tryd.prog.built 80 [(2, .bool true)]) = some (spL ⟨0, 0, true⟩).toArray := by kernel_rfl
theorem built_leaf (m : Nat) : (Tryd.prog.built 80 [(0, .agg (plL m).toArray), (1, .agg (plL m).toArray)]) = some (spL ⟨m, m, false⟩).toArray := by kernel_rfl
theorem wpList_buildLeaf {ops : Array Oper} {rest : List Oper} {o : Oper} {a : Act} {w : World} {Q : Exit → Act → World → Prop} (hg : o.guard = none) (x y : Operand) (ho : o.op = .build 80 #[(0, x), (1, y)]) (m : Nat)
    (hx : a.eval x = .agg (plL m).toArray) (hy : a.eval y = .agg (plL m).toArray)
    (h : wpList Tryd.prog ops Q rest (a.put o.dst (.agg (spL ⟨m, m, false⟩).toArray)) w) : wpList Tryd.prog ops Q (o :: rest) a w := by
  have e : (Array.map (fun (i, x) => (i, a.eval x)) #[((0 : Nat), x), (1, y)]).toList = [(0, .agg (plL m).toArray), (1, .agg (plL m).toArray)] := by simp [hx, hy]
  refine wpList_build hg 80 _ ho (by rw [e, built_leaf]; rfl) ?_
  rw [e, built_leaf]
  exact h
theorem wpList_buildEmpty {ops : Array Oper} {rest : List Oper} {o : Oper} {a : Act} {w : World} {Q : Exit → Act → World → Prop} (hg : o.guard = none) (ho : o.op = .build 80 #[(2, .const (.bool true))])
    (h : wpList Tryd.prog ops Q rest (a.put o.dst (.agg (spL ⟨0, 0, true⟩).toArray)) w) : wpList Tryd.prog ops Q (o :: rest) a w := by
  have e : (Array.map (fun (i, x) => (i, a.eval x)) #[((2 : Nat), Operand.const (.bool true))]).toList = [(2, .bool true)] := by simp [Act.eval]
  refine wpList_build hg 80 _ ho (by rw [e, built_empty]; rfl) ?_
  rw [e, built_empty]
  exact h
/-- One of the two sets has turned. -/
theorem SpAt.first {w w' : World} {b m : Nat} {p : Sp} (h : SpAt w b p) (hs : PlSet w w' b 0 m) : SpAt w' b ⟨m, p.last, p.empty⟩ :=
  ⟨hs.at_, fun i hi => ⟨(hs.cell _ (.inr (by omega))).trans (h.l i hi).1, (hs.frozen _ (.inr (by omega))).trans (h.l i hi).2⟩, (hs.cell _ (.inr (by omega))).trans h.e, (hs.frozen _ (.inr (by omega))).trans h.z⟩
theorem SpAt.last {w w' : World} {b m : Nat} {p : Sp} (h : SpAt w b p) (hs : PlSet w w' b 16 m) : SpAt w' b ⟨p.first, m, p.empty⟩ :=
  ⟨fun i hi => ⟨(hs.cell _ (.inl (by omega))).trans (h.f i hi).1, (hs.frozen _ (.inl (by omega))).trans (h.f i hi).2⟩, hs.at_, (hs.cell _ (.inr (by omega))).trans h.e, (hs.frozen _ (.inr (by omega))).trans h.z⟩
theorem SpAt.empty {w : World} {b : Nat} {p : Sp} (h : SpAt w b p) (e : Bool) : SpAt (w.setCell ⟨b, 32, none⟩ (.bool e)) b ⟨p.first, p.last, e⟩ :=
  ⟨fun i hi => ⟨by rw [World.cell?_setCell_other _ _ _ _ (by intro h3; injection h3 with h4 h5; omega)]; exact (h.f i hi).1, by rw [World.frozen?_setCell]; exact (h.f i hi).2⟩,
   fun i hi => ⟨by rw [World.cell?_setCell_other _ _ _ _ (by intro h3; injection h3 with h4 h5; omega)]; exact (h.l i hi).1, by rw [World.frozen?_setCell]; exact (h.l i hi).2⟩,
   World.cell?_setCell_same _ _ _ h.e, by rw [World.frozen?_setCell]; exact h.z⟩
theorem grown_setc (w : World) (b j : Nat) (v : Value) : w.grownBy (w.setCell ⟨b, j, none⟩ v) (some b) := ⟨rfl, rfl, rfl, by simp [World.setCell], fun k _ hk => Below.heap_setCell _ _ _ _ (fun e => hk (by rw [e]))⟩
end Go.Proofs.YtlbcicoppglgjaaDoor
