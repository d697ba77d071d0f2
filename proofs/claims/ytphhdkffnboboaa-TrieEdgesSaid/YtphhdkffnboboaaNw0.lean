/-
  What trie.New needs: the row of all blocks made, the new trie's variable, entries appended, what entries tell.
-/
import Derived.Laws.MakeOwn
import Derived.Test.YtphhdkffnboboaaEnt2
import Derived.Test.YtphhdkffnboboaaRg9
namespace Go.Proofs.Ytphhdkffnboboaa
open Go.RowKit Go.Shelf
open Go.Lib Go.Great Go.Maps

/-- What entries tell of a number. -/
def tell (l : List En) (i : Nat) : Int := l.foldl (fun v e => if hasR e.xs i then e.c else v) 0
theorem tell_snoc (l : List En) (k : Nat) (e : En) (h : l[k]? = some e) (i : Nat) : tell (l.take (k + 1)) i = if hasR e.xs i then e.c else tell (l.take k) i := by
  rw [List.take_add_one, h]
  simp [tell]
theorem tell_cls (l : List En) (h : ∀ e ∈ l, 0 ≤ e.c ∧ e.c ≤ 255) : U8 (tell l) := by
  intro i
  unfold tell
  have : ∀ (v : Int), 0 ≤ v ∧ v ≤ 255 → 0 ≤ l.foldl (fun v e => if hasR e.xs i then e.c else v) v ∧ l.foldl (fun v e => if hasR e.xs i then e.c else v) v ≤ 255 := by
    induction l with
    | nil => intro v hv; exact hv
    | cons x xs ih =>
      intro v hv
      rw [List.foldl_cons]
      refine ih (fun e he => h e (List.mem_cons_of_mem _ he)) _ ?_
      split
      · exact h x List.mem_cons_self
      · exact hv
  exact this 0 (by omega)

theorem RS.but {w w' : World} {B X : Nat} {A : Option Addr} {cap : Nat} {xs : List Rng} (h : RS w X A cap xs) (hX : X ≤ w.heap.size) (hb : But B w w') (hne : ∀ b o, RgAt w b o xs → xs ≠ [] → b ≠ B) : RS w' w'.heap.size A cap xs :=
  ⟨h.1, h.2.1, h.2.2.1, fun hn => by
    obtain ⟨b, o, rfl, hlt, hR⟩ := h.2.2.2 hn
    have hbB := hne b o hR hn
    have hs := hb.size
    refine ⟨b, o, rfl, by omega, fun i x hx => ?_⟩
    obtain ⟨h1, h2⟩ := hR i x hx
    exact ⟨(hb.cell (p := ⟨b, o + i * 2, none⟩) (by show b < _; omega) hbB).trans h1, (hb.cell (p := ⟨b, o + i * 2 + 1, none⟩) (by show b < _; omega) hbB).trans h2⟩⟩
theorem below_but {X B : Nat} {w w0 w' : World} (h : Below X w w0) (hb : But B w0 w') (h1 : X ≤ B) (h2 : X ≤ w0.heap.size) : Below X w w' :=
  ⟨hb.os.trans h.os, hb.tape.trans h.tape, hb.output.trans h.output, Nat.le_trans h.size hb.size, fun k hk => (hb.block k (by omega) (by omega)).trans (h.block k hk)⟩

theorem zero84 : ((Try.prog.info? 84).bind (·.zero)).map (·.cells) = some Z84 := by kernel_rfl
theorem Z84_get (j : Nat) (h : j < Z84.size) : Z84[j] = .int .u8 0 := by
  have hj : j < 256 := by rw [Z84_size] at h; exact h
  have : Z84[j]? = some (.int .u8 0) := by unfold Z84; rw [List.getElem?_toArray, List.getElem?_replicate, if_pos hj]
  exact (Array.getElem?_eq_some_iff.1 this).2
theorem make_blocks : ∃ Z : Array Value, Z.size = 1114112 ∧ (∀ i, i < 1114112 → Z[i]? = some (.int .u8 0)) ∧ ∀ w : World, (Instr.makeSlice 75 (.int .i64 4352) (.int .i64 4352)).run Try.prog w = .ok (.slice (some ⟨w.heap.size, 0, none⟩) 4352 4352) (w.alloc (.cells Z 84)) := by
  obtain ⟨i, z, hi, hz, hs, hby, hzs⟩ := Try.info84
  have hc : z.cells = Z84 := by
    have := zero84
    rw [hi] at this
    simp only [Option.bind_some, hz, Option.map_some, Option.some.injEq] at this
    exact this
  refine ⟨madeCells z.cells 1114112, size_madeCells _ _, fun j hj => ?_, fun w => ?_⟩
  · unfold madeCells
    rw [Array.getElem?_map, Array.getElem?_range]
    rw [if_pos hj]
    simp only [Option.map_some, Option.some.injEq]
    rw [hzs, hc]
    have h2 : j % 256 < Z84.size := by rw [Z84_size]; omega
    rw [getElem!_pos Z84 _ h2]
    exact Z84_get _ h2
  · have := run_make (P := Try.prog) w 75 84 i z Try.underlying75 hi hz .i64 .i64 4352 4352 (by omega) (by omega) (by rw [hby]; omega) (by omega)
    rw [hs] at this
    exact this

/-- The cells of a new trie. -/
def Z80 (o : Int) : Array Value := (Value.int .i64 o :: (List.replicate 4352 (Value.int .i64 0) ++ [.slice none 0 0])).toArray
theorem Z80_TB (w : World) (T : Nat) (o : Int) (h : w.heap[T]? = some (.cells (Z80 o) 80 (0, 0))) : TB w T (.int .i64 o) (fun _ => 0) (.slice none 0 0) := by
  refine ⟨_, h, ?_, ?_, fun t ht => ?_, ?_⟩
  · unfold Z80; rw [List.size_toArray, List.length_cons, List.length_append, List.length_replicate]; rfl
  · unfold Z80; rw [List.getElem?_toArray, List.getElem?_cons_zero]
  · unfold Z80
    rw [List.getElem?_toArray, Nat.add_comm, List.getElem?_cons_succ, List.getElem?_append_left (by rw [List.length_replicate]; exact ht), List.getElem?_replicate, if_pos ht]
  · unfold Z80
    rw [List.getElem?_toArray, show 4353 = 4352 + 1 from rfl, List.getElem?_cons_succ, List.getElem?_append_right (by rw [List.length_replicate]; exact Nat.le_refl _), List.length_replicate]
    rfl

theorem flat2_get : ∀ (l : List En) (i : Nat) (e : En), l[i]? = some e → (l.flatMap cellE)[i * 2]? = some (.slice e.A e.xs.length e.cap) ∧ (l.flatMap cellE)[i * 2 + 1]? = some (.int .i64 e.c) := by
  intro l
  induction l with
  | nil => intro i e h; simp at h
  | cons x xs ih =>
    intro i e h
    rw [List.flatMap_cons]
    rcases i with _ | i
    · simp only [List.getElem?_cons_zero, Option.some.injEq] at h
      subst h
      exact ⟨rfl, rfl⟩
    · simp only [List.getElem?_cons_succ] at h
      have e1 : (i + 1) * 2 = i * 2 + 2 := by omega
      rw [e1]
      exact ih i e h
theorem flat2_len (l : List En) : (l.flatMap cellE).length = l.length * 2 := by
  induction l with
  | nil => rfl
  | cons x xs ih => rw [List.flatMap_cons, List.length_append, ih, List.length_cons]; simp [cellE]; omega
theorem EnAt.cells {w : World} {b o : Nat} {es : List En} (h : EnAt w b o es) : ∀ j u, (es.flatMap cellE)[j]? = some u → w.cell? ⟨b, o + j, none⟩ = some u := by
  intro j u hu
  have hj : j < es.length * 2 := by rw [← flat2_len]; exact (List.getElem?_eq_some_iff.1 hu).1
  obtain ⟨x, hx⟩ : ∃ x, es[j / 2]? = some x := ⟨es[j / 2]'(by omega), List.getElem?_eq_getElem _⟩
  obtain ⟨h1, h2⟩ := h _ x hx
  obtain ⟨c1, c2⟩ := flat2_get es _ x hx
  rcases Nat.mod_two_eq_zero_or_one j with c | c
  · have e : j / 2 * 2 = j := by omega
    rw [e] at h1 c1
    rw [c1] at hu
    rw [h1, ← hu]
  · have e : j / 2 * 2 + 1 = j := by omega
    rw [Nat.add_assoc, e] at h2
    rw [e] at c2
    rw [c2] at hu
    rw [h2, ← hu]
theorem flat2_one (l : List En) : ∀ u ∈ l.flatMap cellE, u.oneCell' = true := by
  intro u hu
  obtain ⟨e, _, he⟩ := List.mem_flatMap.1 hu
  simp only [cellE, List.mem_cons, List.not_mem_nil, or_false] at he
  rcases he with rfl | rfl <;> rfl
theorem Try.info72 : (Try.prog.info? 72).map (fun i => (i.zero, i.size, i.bytes)) = some (some (.agg #[.slice none 0 0, .int .i64 0]), 2, 32) := by kernel_rfl
set_option maxRecDepth 100000 in
theorem wpList_append_en {w : World} {ops : Array Oper} {rest : List Oper} {o : Oper} {a : Act} {Q : Exit → Act → World → Prop} (hgd : o.guard = none) (s x : Operand)
    (ho : o.op = .call { callee := .builtin .append, args := #[s, x], argTypes := #[30, 30] })
    (base : Nat) (v : Value) (n : Nat) (xs : List Value) (hs : a.eval s = v) (hown : w.ownsRow base 72 2 v n xs)
    (A : Option Addr) (c : Nat) (es : List En) (hx : a.eval x = .slice A es.length c) (hE : ES w w.heap.size A c es) (hF : Fw A c)
    (h63 : n + es.length ≤ 10000000) (hbase : base ≤ w.heap.size)
    (h : ∀ v' w', w'.ownsRow base 72 2 v' (n + es.length) (xs ++ es.flatMap cellE) → Below base w w' → wpList Try.prog ops Q rest (a.put o.dst v') w') : wpList Try.prog ops Q (o :: rest) a w := by
  refine wpList_plain hgd fun K hK => ?_
  obtain ⟨i, hi, hzz⟩ := Option.map_eq_some_iff.1 Try.info72
  simp only [Prod.mk.injEq] at hzz
  obtain ⟨hz, hsize, hby⟩ := hzz
  have key : ∃ v' w', (Builtin.append_ #[30, 30] o.type #[v, .slice A es.length c]).run Try.prog w = .ok v' w' ∧ w'.ownsRow base 72 2 v' (n + es.length) (xs ++ es.flatMap cellE) ∧ Below base w w' := by
    rcases A with _ | ad
    · obtain rfl := hF rfl
      have h0 : es = [] := List.length_eq_zero_iff.1 (by have := hE.1; omega)
      subst h0
      refine ⟨v, w, run_append_owned_none (P := Try.prog) (w := w) base 30 o.type 72 i 2 Try.underlying30 hi v _ _ hown, by simpa using hown, Below.refl _ _⟩
    · have hc : ∀ j u, (es.flatMap cellE)[j]? = some u → w.cell? (ad.add j) = some u := fun j u hj => by
        have hn : es ≠ [] := by rintro rfl; simp at hj
        obtain ⟨b', o', e', _, hg⟩ := hE.2.2.2 hn
        injection e' with e'
        rw [e', Addr.add_lit]
        exact hg.cells j u hj
      obtain ⟨v', w', h1, h2, h3, h4, _⟩ := run_append_own_at (P := Try.prog) w base 30 o.type 72 i _ 2 32 Try.underlying30 hi hz hsize hby rfl (by omega) v n xs hown ad es.length c (es.flatMap cellE) (flat2_len es) hc (flat2_one es) (by unfold maxLen; omega) (by omega) hbase
      exact ⟨v', w', h1, h2, (Below.refl _ w).grown h3 hbase (fun k e' => (own_block_lt hown k e').1)⟩
  obtain ⟨v', w', hrun, h2, h3⟩ := key
  unfold Oper.wp
  simp [execOp, ho, resolve, invoke, builtin, hs, hx, hrun, Result.andThen]
  exact hK _ _ (h v' w' h2 h3)
end Go.Proofs.Ytphhdkffnboboaa
