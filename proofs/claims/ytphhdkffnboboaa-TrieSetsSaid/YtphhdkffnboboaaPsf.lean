/-
  What trie.New needs: the row of all blocks made, the new trie's variable, entries appended, what entries tell.
  Contracts: trie.New.
  The first run of layer 3: the document's example.
  Contracts: virguleref02.In.
  Contracts: virguleref03.Get; the law's own great and may.
  Contracts: virguleref03.Get; the law's own may.
-/
import Derived.Laws.MakeOwn
import Derived.Test.YtphhdkffnboboaaPse
import Derived.Test.YtphhdkffnboboaaPsb
import Derived.Test.YtphhdkffnboboaaPsa
namespace Go.Proofs.Ytphhdkffnboboaa
open Go.RowKit Go.Shelf
open Go.Lib Go.Great Go.Maps

/-- What entries tell of a number. -/
def tell (l : List En) (i : Nat) : Int := l.foldl (fun v e => if hasR e.xs i then e.c else v) 0
theorem tell_snoc (l : List En) (k : Nat) (e : En) (h : l[k]? = some e) (i : Nat) : tell (l.take (k + 1)) i = if hasR e.xs i then e.c else tell (l.take k) i := by
  rw [List.take_add_one, h]
  simp [tell]
theorem tell_cls (l : List En) (h : ∀ e ∈ l, 0 ≤ e.c ∧ e.c ≤ 255) : U8 (tell l) := by
  intro i
  unfold tell
  have : ∀ (v : Int), 0 ≤ v ∧ v ≤ 255 → 0 ≤ l.foldl (fun v e => if hasR e.xs i then e.c else v) v ∧ l.foldl (fun v e => if hasR e.xs i then e.c else v) v ≤ 255 := by
    induction l with
    | nil => intro v hv; exact hv
    | cons x xs ih =>
      intro v hv
      rw [List.foldl_cons]
      refine ih (fun e he => h e (List.mem_cons_of_mem _ he)) _ ?_
      split
      · exact h x List.mem_cons_self
      · exact hv
  exact this 0 (by omega)

theorem RS.but {w w' : World} {B X : Nat} {A : Option Addr} {cap : Nat} {xs : List Rng} (h : RS w X A cap xs) (hX : X ≤ w.heap.size) (hb : But B w w') (hne : ∀ b o, RgAt w b o xs → xs ≠ [] → b ≠ B) : RS w' w'.heap.size A cap xs :=
  ⟨h.1, h.2.1, h.2.2.1, fun hn => by
    obtain ⟨b, o, rfl, hlt, hR⟩ := h.2.2.2 hn
    have hbB := hne b o hR hn
    have hs := hb.size
    refine ⟨b, o, rfl, by omega, fun i x hx => ?_⟩
    obtain ⟨h1, h2⟩ := hR i x hx
    exact ⟨(hb.cell (p := ⟨b, o + i * 2, none⟩) (by show b < _; omega) hbB).trans h1, (hb.cell (p := ⟨b, o + i * 2 + 1, none⟩) (by show b < _; omega) hbB).trans h2⟩⟩
theorem below_but {X B : Nat} {w w0 w' : World} (h : Below X w w0) (hb : But B w0 w') (h1 : X ≤ B) (h2 : X ≤ w0.heap.size) : Below X w w' :=
  ⟨hb.os.trans h.os, hb.tape.trans h.tape, hb.output.trans h.output, Nat.le_trans h.size hb.size, fun k hk => (hb.block k (by omega) (by omega)).trans (h.block k hk)⟩

theorem zero84 : ((Try.prog.info? 84).bind (·.zero)).map (·.cells) = some Z84 := by kernel_rfl
theorem Z84_get (j : Nat) (h : j < Z84.size) : Z84[j] = .int .u8 0 := by
  have hj : j < 256 := by rw [Z84_size] at h; exact h
  have : Z84[j]? = some (.int .u8 0) := by unfold Z84; rw [List.getElem?_toArray, List.getElem?_replicate, if_pos hj]
  exact (Array.getElem?_eq_some_iff.1 this).2
theorem make_blocks : ∃ Z : Array Value, Z.size = 1114112 ∧ (∀ i, i < 1114112 → Z[i]? = some (.int .u8 0)) ∧ ∀ w : World, (Instr.makeSlice 75 (.int .i64 4352) (.int .i64 4352)).run Try.prog w = .ok (.slice (some ⟨w.heap.size, 0, none⟩) 4352 4352) (w.alloc (.cells Z 84)) := by
  obtain ⟨i, z, hi, hz, hs, hby, hzs⟩ := Try.info84
  have hc : z.cells = Z84 := by
    have := zero84
    rw [hi] at this
    simp only [Option.bind_some, hz, Option.map_some, Option.some.injEq] at this
    exact this
  refine ⟨madeCells z.cells 1114112, size_madeCells _ _, fun j hj => ?_, fun w => ?_⟩
  · unfold madeCells
    rw [Array.getElem?_map, Array.getElem?_range]
    rw [if_pos hj]
    simp only [Option.map_some, Option.some.injEq]
    rw [hzs, hc]
    have h2 : j % 256 < Z84.size := by rw [Z84_size]; omega
    rw [getElem!_pos Z84 _ h2]
    exact Z84_get _ h2
  · have := run_make (P := Try.prog) w 75 84 i z Try.underlying75 hi hz .i64 .i64 4352 4352 (by omega) (by omega) (by rw [hby]; omega) (by omega)
    rw [hs] at this
    exact this

/-- The cells of a new trie. -/
def Z80 (o : Int) : Array Value := (Value.int .i64 o :: (List.replicate 4352 (Value.int .i64 0) ++ [.slice none 0 0])).toArray
theorem Z80_TB (w : World) (T : Nat) (o : Int) (h : w.heap[T]? = some (.cells (Z80 o) 80 (0, 0))) : TB w T (.int .i64 o) (fun _ => 0) (.slice none 0 0) := by
  refine ⟨_, h, ?_, ?_, fun t ht => ?_, ?_⟩
  · unfold Z80; rw [List.size_toArray, List.length_cons, List.length_append, List.length_replicate]; rfl
  · unfold Z80; rw [List.getElem?_toArray, List.getElem?_cons_zero]
  · unfold Z80
    rw [List.getElem?_toArray, Nat.add_comm, List.getElem?_cons_succ, List.getElem?_append_left (by rw [List.length_replicate]; exact ht), List.getElem?_replicate, if_pos ht]
  · unfold Z80
    rw [List.getElem?_toArray, show 4353 = 4352 + 1 from rfl, List.getElem?_cons_succ, List.getElem?_append_right (by rw [List.length_replicate]; exact Nat.le_refl _), List.length_replicate]
    rfl

theorem flat2_get : ∀ (l : List En) (i : Nat) (e : En), l[i]? = some e → (l.flatMap cellE)[i * 2]? = some (.slice e.A e.xs.length e.cap) ∧ (l.flatMap cellE)[i * 2 + 1]? = some (.int .i64 e.c) := by
  intro l
  induction l with
  | nil => intro i e h; simp at h
  | cons x xs ih =>
    intro i e h
    rw [List.flatMap_cons]
    rcases i with _ | i
    · simp only [List.getElem?_cons_zero, Option.some.injEq] at h
      subst h
      exact ⟨rfl, rfl⟩
    · simp only [List.getElem?_cons_succ] at h
      have e1 : (i + 1) * 2 = i * 2 + 2 := by omega
      rw [e1]
      exact ih i e h
theorem flat2_len (l : List En) : (l.flatMap cellE).length = l.length * 2 := by
  induction l with
  | nil => rfl
  | cons x xs ih => rw [List.flatMap_cons, List.length_append, ih, List.length_cons]; simp [cellE]; omega
theorem EnAt.cells {w : World} {b o : Nat} {es : List En} (h : EnAt w b o es) : ∀ j u, (es.flatMap cellE)[j]? = some u → w.cell? ⟨b, o + j, none⟩ = some u := by
  intro j u hu
  have hj : j < es.length * 2 := by rw [← flat2_len]; exact (List.getElem?_eq_some_iff.1 hu).1
  obtain ⟨x, hx⟩ : ∃ x, es[j / 2]? = some x := ⟨es[j / 2]'(by omega), List.getElem?_eq_getElem _⟩
  obtain ⟨h1, h2⟩ := h _ x hx
  obtain ⟨c1, c2⟩ := flat2_get es _ x hx
  rcases Nat.mod_two_eq_zero_or_one j with c | c
  · have e : j / 2 * 2 = j := by omega
    rw [e] at h1 c1
    rw [c1] at hu
    rw [h1, ← hu]
  · have e : j / 2 * 2 + 1 = j := by omega
    rw [Nat.add_assoc, e] at h2
    rw [e] at c2
    rw [c2] at hu
    rw [h2, ← hu]
theorem flat2_one (l : List En) : ∀ u ∈ l.flatMap cellE, u.oneCell' = true := by
  intro u hu
  obtain ⟨e, _, he⟩ := List.mem_flatMap.1 hu
  simp only [cellE, List.mem_cons, List.not_mem_nil, or_false] at he
  rcases he with rfl | rfl <;> rfl
theorem Try.info72 : (Try.prog.info? 72).map (fun i => (i.zero, i.size, i.bytes)) = some (some (.agg #[.slice none 0 0, .int .i64 0]), 2, 32) := by kernel_rfl
set_option maxRecDepth 100000 in
theorem wpList_append_en {w : World} {ops : Array Oper} {rest : List Oper} {o : Oper} {a : Act} {Q : Exit → Act → World → Prop} (hgd : o.guard = none) (s x : Operand)
    (ho : o.op = .call { callee := .builtin .append, args := #[s, x], argTypes := #[30, 30] })
    (base : Nat) (v : Value) (n : Nat) (xs : List Value) (hs : a.eval s = v) (hown : w.ownsRow base 72 2 v n xs)
    (A : Option Addr) (c : Nat) (es : List En) (hx : a.eval x = .slice A es.length c) (hE : ES w w.heap.size A c es) (hF : Fw A c)
    (h63 : n + es.length ≤ 10000000) (hbase : base ≤ w.heap.size)
    (h : ∀ v' w', w'.ownsRow base 72 2 v' (n + es.length) (xs ++ es.flatMap cellE) → Below base w w' → wpList Try.prog ops Q rest (a.put o.dst v') w') : wpList Try.prog ops Q (o :: rest) a w := by
  refine wpList_plain hgd fun K hK => ?_
  obtain ⟨i, hi, hzz⟩ := Option.map_eq_some_iff.1 Try.info72
  simp only [Prod.mk.injEq] at hzz
  obtain ⟨hz, hsize, hby⟩ := hzz
  have key : ∃ v' w', (Builtin.append_ #[30, 30] o.type #[v, .slice A es.length c]).run Try.prog w = .ok v' w' ∧ w'.ownsRow base 72 2 v' (n + es.length) (xs ++ es.flatMap cellE) ∧ Below base w w' := by
    rcases A with _ | ad
    · obtain rfl := hF rfl
      have h0 : es = [] := List.length_eq_zero_iff.1 (by have := hE.1; omega)
      subst h0
      refine ⟨v, w, run_append_owned_none (P := Try.prog) (w := w) base 30 o.type 72 i 2 Try.underlying30 hi v _ _ hown, by simpa using hown, Below.refl _ _⟩
    · have hc : ∀ j u, (es.flatMap cellE)[j]? = some u → w.cell? (ad.add j) = some u := fun j u hj => by
        have hn : es ≠ [] := by rintro rfl; simp at hj
        obtain ⟨b', o', e', _, hg⟩ := hE.2.2.2 hn
        injection e' with e'
        rw [e', Addr.add_lit]
        exact hg.cells j u hj
      obtain ⟨v', w', h1, h2, h3, h4, _⟩ := run_append_own_at (P := Try.prog) w base 30 o.type 72 i _ 2 32 Try.underlying30 hi hz hsize hby rfl (by omega) v n xs hown ad es.length c (es.flatMap cellE) (flat2_len es) hc (flat2_one es) (by unfold maxLen; omega) (by omega) hbase
      exact ⟨v', w', h1, h2, (Below.refl _ w).grown h3 hbase (fun k e' => (own_block_lt hown k e').1)⟩
  obtain ⟨v', w', hrun, h2, h3⟩ := key
  unfold Oper.wp
  simp [execOp, ho, resolve, invoke, builtin, hs, hx, hrun, Result.andThen]
  exact hK _ _ (h v' w' h2 h3)
end Go.Proofs.Ytphhdkffnboboaa

namespace Go.Proofs.Ytphhdkffnboboaa
open Go.RowKit Go.Shelf
open Go.Lib Go.Great Go.Maps

def NewPost (o : Int) (es : List En) (w : World) (e : Ending) (w' : World) : Prop :=
  Below w.heap.size w w' ∧ if cls o && !es.any wrongE then ∃ T F, e = .returned (.tuple #[.pointer (some ⟨T, 0, none⟩), .int .i64 0]) ∧ U8 F ∧ (∀ i : Nat, i < 1114112 → F i = es.foldl (fun v e => if hasR e.xs i then e.c else v) o) ∧ Tr w' T o F
  else e = .returned (.tuple #[.pointer none, .int .i64 1])
theorem cls_iff (c : Int) : cls c = true ↔ 0 ≤ c ∧ c ≤ 255 := by simp [cls]

attribute [local irreducible] Z80 Z84

set_option maxHeartbeats 4000000 in
set_option maxRecDepth 100000 in
theorem new_bad (o : Int) (A : Option Addr) (cap : Nat) (es : List En) (w : World) (h : ES w w.heap.size A cap es) (hl : es.length ≤ 200) (hbad : (cls o && !es.any wrongE) = false) :
    Calls Try.prog 15 #[.int .i64 o, .slice A es.length cap] w (NewPost o es w) := by
  have C1 := Lib.hid (isClass_any o)
  have C2 := Lib.hid (containsE_any A cap es w h)
  unfold NewPost
  rw [hbad]
  simp only [Bool.false_eq_true, if_false]
  generalize es.any wrongE = q at *
  generalize es.length = n at *
  have i1 : (n : Int) ≤ 200 := by omega
  have d1 : decide ((200 : Int) < (n : Int)) = false := by simp; omega
  clear h
  cases hc : cls o with
  | false =>
    have C1 := Lib.hid (by rw [hc] at C1; exact C1.out)
    clear hbad hc
    go_enter Try.func15, Try.ntmps15
    go_wp2_with fail
    refine (C1.out _).mono ?_
    rintro e w1 ⟨rfl, rfl⟩
    go_wp2_with fail
    go_ret2
    exact ⟨Below.refl _ _, rfl⟩
  | true =>
    rw [hc] at hbad
    obtain rfl : q = true := by simpa using hbad
    have C1 := Lib.hid (by rw [hc] at C1; exact C1.out)
    clear hbad hc
    go_enter Try.func15, Try.ntmps15
    go_wp2_with fail
    refine (C1.out _).mono ?_
    rintro e w1 ⟨rfl, rfl⟩
    go_wp2_with fail
    refine C2.out.mono ?_
    rintro e w2 ⟨rfl, hb⟩
    go_wp2_with fail
    go_ret2
    exact ⟨hb, rfl⟩

set_option maxHeartbeats 4000000 in
set_option maxRecDepth 100000 in
theorem new_good (o : Int) (A : Option Addr) (cap : Nat) (es : List En) (w : World) (h : ES w w.heap.size A cap es) (hF : Fw A cap) (hl : es.length ≤ 200) (hx : ∀ e ∈ es, e.xs.length ≤ 1000000) (hc : cls o = true) (hq : es.any wrongE = false) :
    Calls Try.prog 15 #[.int .i64 o, .slice A es.length cap] w (NewPost o es w) := by
  have C1 := Lib.hid (isClass_any o)
  have C2 := Lib.hid (containsE_any A cap es w h)
  rw [hc] at C1
  rw [hq] at C2
  have C1 := Lib.hid C1.out
  have C2 := Lib.hid C2.out
  obtain ⟨Z, hZ1, hZ2, hmk⟩ := make_blocks
  have C3 := Lib.hid everything_any
  obtain ⟨R, hR⟩ : ∃ R : Ending → World → Prop, R = NewPost o es w := ⟨_, rfl⟩
  rw [← hR]
  have HR := Lib.hid hR
  have HE := Lib.hid (And.intro h (And.intro hF (And.intro hx (And.intro hc hq))))
  obtain ⟨n, hn⟩ : ∃ n, es.length = n := ⟨_, rfl⟩
  have HN := Lib.hid hn
  have HZ := Lib.hid (And.intro hZ1 hZ2)
  rw [hn] at hl C2 ⊢
  have i1 : (n : Int) ≤ 200 := by omega
  have d1 : decide ((200 : Int) < (n : Int)) = false := by simp; omega
  clear hR h hF hx hc hq hn hZ1 hZ2
  go_enter Try.func15, Try.ntmps15
  go_wp2_with fail
  refine (C1.out _).mono ?_
  rintro e w1 ⟨rfl, rfl⟩
  go_wp2_with fail
  refine C2.out.mono ?_
  rintro e w2 ⟨rfl, hb⟩
  go_wp2_with fail
  obtain ⟨B, hB⟩ : ∃ B, w2.heap.size = B := ⟨_, rfl⟩
  have hU : U8B (w2.alloc (.cells Z 84)) B (tell []) := ⟨Z, by rw [← hB]; exact heap_alloc_new _ _, HZ.out.1, HZ.out.2⟩
  have hb3 := hb.trans ((below_new w2 (.cells Z 84)).mono hb.size)
  have hwB : w1.heap.size ≤ B := by rw [← hB]; exact hb.size
  rw [hB]
  generalize w2.alloc (.cells Z 84) = w3 at *
  clear hb hB hmk
  refine (C3.out _).mono ?_
  rintro e w4 ⟨out, ho1, ho2, ho3, v, rfl, hv, hb4⟩
  obtain ⟨A0, cap0, rfl, hRS⟩ := ownsRow_RS hv (fun x hx => (right_may (b := -1) ho1 x hx).1 |> fun hm => by
    have := (may_iff _).1 hm
    exact ⟨by omega, by omega, by omega, by omega⟩)
  obtain ⟨m, hm⟩ : ∃ m, out.length = m := ⟨_, rfl⟩
  have hU5 := (hU.below hb4).below (below_new w4 (.cells #[.slice A0 m cap0, .int .i64 o] 72))
  have hs4 := hb4.size
  have hs3 := hb3.size
  have hb5 : Below w1.heap.size w1 (w4.alloc (.cells #[.slice A0 m cap0, .int .i64 o] 72)) := (hb3.trans (hb4.mono hs3)).trans ((below_new w4 _).mono (by omega))
  have hRS5 := (hRS.below (below_new w4 (.cells #[.slice A0 m cap0, .int .i64 o] 72)))
  have hES5 := HE.out.1.below hb5
  have hz5 : (w4.alloc (.cells #[.slice A0 m cap0, .int .i64 o] 72)).heap.size = w4.heap.size + 1 := by simp
  have hown5 : (w4.alloc (.cells #[.slice A0 m cap0, .int .i64 o] 72)).ownsRow w4.heap.size 72 2 (.slice (some ⟨w4.heap.size, 0, none⟩) 1 1) 1 [.slice A0 m cap0, .int .i64 o] :=
    ⟨rfl, .inr ⟨_, 1, _, rfl, Nat.le_refl _, heap_alloc_new _ _, Nat.le_refl _, by unfold maxLen; omega, rfl, rfl⟩⟩
  have hBlt := hU.lt
  have H5 := Lib.hid (And.intro hU5 (And.intro hb5 (And.intro hRS5 (And.intro (hES5.mono (by omega : w1.heap.size ≤ (w4.alloc (.cells #[.slice A0 m cap0, .int .i64 o] 72)).heap.size)) (And.intro hown5 hz5)))))
  have HO := Lib.hid (And.intro ho1 (And.intro ho2 (And.intro ho3 hm)))
  have HS := Lib.hid (And.intro hwB (And.intro hs3 (And.intro hs4 hBlt)))
  rw [hm]
  clear hU5 hb5 hRS5 hES5 hz5 hown5 ho1 ho2 ho3 hm hwB hs3 hs4 hBlt hU hb4 hb3 hRS hv
  go_wp2_with (first
    | (refine wpList_append_en rfl (.tmp 24) (.tmp 25) rfl w4.heap.size _ 1 _ rfl H5.out.2.2.2.2.1 A cap es (by rw [HN.out]; rfl) H5.out.2.2.2.1 HE.out.2.1 (by rw [HN.out]; omega) (by rw [H5.out.2.2.2.2.2]; omega) ?_)
    | go_in)
  intro v' w6 hown6 hb6
  obtain ⟨g, c6, rfl, hg1, hg2⟩ := hown6.form (by omega)
  obtain ⟨l, hl'⟩ : ∃ l : List En, l = ⟨A0, cap0, out, o⟩ :: es := ⟨_, rfl⟩
  have hcells : (Value.slice A0 m cap0 :: Value.int .i64 o :: List.flatMap cellE es) = l.flatMap cellE := by
    rw [hl', List.flatMap_cons]
    simp only [cellE]
    rw [HO.out.2.2.2]
    rfl
  rw [hcells] at hown6
  rw [HN.out] at hown6
  have hln : l.length = 1 + n := by rw [hl', List.length_cons, HN.out]; omega
  have hs6 := hb6.size
  have h5s := H5.out.2.2.2.2.2
  have hEn : EnAt w6 g 0 l := fun i e he => by
    obtain ⟨c1, c2⟩ := flat2_get l i e he
    have hi := (List.getElem?_eq_some_iff.1 he).1
    rw [hln] at hi
    rw [Nat.zero_add]
    have b1 : i * 2 < (1 + n) * 2 := by omega
    have b2 : i * 2 + 1 < (1 + n) * 2 := by omega
    rw [hown6.cellAt _ b1, hown6.cellAt _ b2]
    exact ⟨c1, c2⟩
  have hb56 : Below (w4.alloc (.cells #[.slice A0 m cap0, .int .i64 o] 72)).heap.size (w4.alloc (.cells #[.slice A0 m cap0, .int .i64 o] 72)) w6 ∨ True := .inr trivial
  have hBw4 : B < w4.heap.size := by have := HS.out; omega
  have hU6 : U8B w6 B (tell []) := H5.out.1.kept (hb6.block B hBw4)
  have hgB : g ≠ B := by omega
  have hRS6 : ∀ e ∈ l, RS w6 w6.heap.size e.A e.cap e.xs := fun e he => by
    rw [hl'] at he
    rcases List.mem_cons.1 he with rfl | he
    · exact (H5.out.2.2.1.below hb6).mono (by omega)
    · exact ((HE.out.1.below (H5.out.2.1)).2.2.1 e he |>.mono (by have := HS.out; omega : w1.heap.size ≤ w4.heap.size) |>.below hb6).mono (by omega)
  have hmay : ∀ e ∈ l, (∀ x ∈ e.xs, may x = true) ∧ 0 ≤ e.c ∧ e.c ≤ 255 ∧ e.xs.length ≤ 1000000 := fun e he => by
    rw [hl'] at he
    rcases List.mem_cons.1 he with rfl | he
    · have := (cls_iff o).1 HE.out.2.2.2.1
      exact ⟨fun x hx => (right_may (b := -1) HO.out.1 x hx).1, this.1, this.2, by have := HO.out.2.2.1; show out.length ≤ _; omega⟩
    · have hw := List.any_eq_false.1 HE.out.2.2.2.2 e he
      have hw2 : cls e.c = true ∧ right e.xs = true := by simpa [wrongE] using hw
      have := (cls_iff e.c).1 hw2.1
      exact ⟨fun x hx => (right_may (b := -1) hw2.2 x hx).1, this.1, this.2, HE.out.2.2.1 e he⟩
  have hbz6 : Below w1.heap.size w1 w6 := H5.out.2.1.trans (hb6.mono (by have := HS.out; omega))
  have H6 := Lib.hid (And.intro hU6 (And.intro hEn (And.intro hRS6 (And.intro hmay (And.intro hbz6 (And.intro hgB (And.intro hg2 (And.intro hln hl'))))))))
  clear hU6 hEn hRS6 hmay hbz6 hgB hg2 hln hl' hown6 hcells hb6 hs6 h5s hb56 hBw4 hg1
  have e1n : 1 + es.length = 1 + n := by rw [HN.out]
  rw [e1n]
  clear e1n
  go_wp2_with fail
  go_loopw [28] (fun i wr => ∃ k : Nat, i = .int .i64 k ∧ k ≤ 1 + n ∧ U8B wr B (tell (l.take k)) ∧ But B w6 wr) (fun i _ => 1 + n - (RowKit.intOf i).toNat)
  case atStart => exact ⟨0, rfl, Nat.zero_le _, H6.out.1, But.refl _ _⟩
  case round =>
    obtain ⟨k, rfl, hk, hU, hb⟩ := hrel
    by_cases hlt : k < 1 + n
    · obtain ⟨x, hx⟩ : ∃ x, l[k]? = some x := ⟨l[k]'(by rw [H6.out.2.2.2.2.2.2.2.1]; exact hlt), List.getElem?_eq_getElem _⟩
      have hxm := List.mem_of_getElem? hx
      obtain ⟨q1, q2⟩ := H6.out.2.1 k x hx
      have p1 := (hb.cell (p := ⟨g, 0 + k * 2, none⟩) H6.out.2.2.2.2.2.2.1 H6.out.2.2.2.2.2.1).trans q1
      have p2 := (hb.cell (p := ⟨g, 0 + k * 2 + 1, none⟩) H6.out.2.2.2.2.2.2.1 H6.out.2.2.2.2.2.1).trans q2
      rw [Nat.zero_add] at p1 p2
      have hR := (H6.out.2.2.1 x hxm).but (Nat.le_refl _) hb (fun b o hr hn => H6.out.1.apart hr hn)
      obtain ⟨m1, m2, m3, m4⟩ := H6.out.2.2.2.1 x hxm
      have hT := fun i => tell_snoc l k x hx i
      obtain ⟨A1, cap1, xs1, c1⟩ := x
      simp only at p1 p2 hR m1 m2 m3 m4 hT
      have hbx := below_new wr (.cells #[.slice A1 xs1.length cap1, .int .i64 c1] 72)
      have hfill := fill_any B (tell (l.take k)) A1 cap1 xs1 c1 _ (hU.below hbx) ((hR.below hbx).mono (by simp)) m1 m2 m3 m4
      have hbb := hb.trans (But.of_below (B := B) hbx)
      have HFI := Lib.hid hfill
      have HBB := Lib.hid hbb
      have HT := Lib.hid hT
      have i2 : (k : Int) < ((1 + n : Nat) : Int) := by omega
      generalize xs1.length = n1 at *
      clear hT hfill hbb hbx hR m1 m2 m3 m4 q1 q2 hU hb hx hxm
      go_wp2_with fail
      refine HFI.out.mono ?_
      rintro e w7 ⟨rfl, hU7, hb7⟩
      have hU8 : U8B w7 B (tell (l.take (k + 1))) := hU7.congr (fun i _ => (HT.out i).symm)
      have hb8 := HBB.out.trans hb7
      go_wp2_with fail
      go_roundw
      case rel => exact ⟨k + 1, by go_num, by omega, hU8, hb8⟩
      case measure => simp [RowKit.intOf]; omega
    · have hkn : k = 1 + n := by omega
      have e : l.take k = l := by rw [hkn, ← H6.out.2.2.2.2.2.2.2.1, List.take_length]
      rw [e] at hU
      have i3 : ¬ (k : Int) < ((1 + n : Nat) : Int) := by omega
      have d3 : decide ((k : Int) < ((1 + n : Nat) : Int)) = false := by simp; omega
      have hTB := Z80_TB (wr.alloc (.cells (Z80 o) 80)) wr.heap.size o (heap_alloc_new wr _)
      have hU9 := hU.below (below_new wr (.cells (Z80 o) 80))
      have hF : U8 (tell l) := tell_cls l fun e he => ⟨(H6.out.2.2.2.1 e he).2.1, (H6.out.2.2.2.1 e he).2.2.1⟩
      have hlt9 := hU.lt
      have hsh := share_any wr.heap.size B (.int .i64 o) (tell l) _ hTB hU9 hF (by omega)
      have hb9 : Below w1.heap.size w1 (wr.alloc (.cells (Z80 o) 80)) := (below_but H6.out.2.2.2.2.1 hb HS.out.1 H6.out.2.2.2.2.1.size).trans ((below_new wr _).mono (by have := HS.out.1; omega))
      have hTw : w1.heap.size ≤ wr.heap.size := by have := HS.out.1; omega
      have hsz9 : (wr.alloc (.cells (Z80 o) 80)).heap.size = wr.heap.size + 1 := by simp
      have HSH := Lib.hid hsh
      have H9 := Lib.hid (And.intro hb9 (And.intro hTw (And.intro hF hsz9)))
      clear hU hb hkn e hTB hU9 hF hlt9 hsh hb9 hTw hsz9 hlt
      go_wp2_with (first
        | (refine wpList_readTo rfl (some 37) rfl (.agg (Z80 o)) (by as_aux_lemma => kernel_rfl) ?_)
        | (refine wpList_boxTo rfl 80 (.tmp 37) rfl (some 38) rfl wr.heap.size rfl (Z80 o) rfl ?_)
        | fail)
      refine HSH.out.mono ?_
      rintro e w10 ⟨rfl, hb10, S, hT10, hO10⟩
      have hTr := Tr.of_share hT10 hO10
      have hbz := below_but H9.out.1 hb10 H9.out.2.1 (by rw [H9.out.2.2.2]; have := H9.out.2.1; omega)
      have hfin : R (.returned (.tuple #[.pointer (some ⟨wr.heap.size, 0, none⟩), .int .i64 0])) w10 := by
        rw [HR.out]
        refine ⟨hbz, ?_⟩
        rw [if_pos (by rw [HE.out.2.2.2.1, HE.out.2.2.2.2]; rfl)]
        refine ⟨wr.heap.size, tell l, rfl, H9.out.2.2.1, fun i hi => ?_, hTr⟩
        rw [H6.out.2.2.2.2.2.2.2.2]
        unfold tell
        rw [List.foldl_cons]
        have : hasR out (i : Int) = true := by rw [HO.out.2.1]; simp; omega
        rw [if_pos this]
      have HFIN := Lib.hid hfin
      clear hTr hbz hfin hT10 hO10 hb10
      go_wp2_with fail
      exact HFIN.out
theorem new_any (o : Int) (A : Option Addr) (cap : Nat) (es : List En) (w : World) (h : ES w w.heap.size A cap es) (hF : Fw A cap) (hl : es.length ≤ 200) (hx : ∀ e ∈ es, e.xs.length ≤ 1000000) :
    Calls Try.prog 15 #[.int .i64 o, .slice A es.length cap] w (NewPost o es w) := by
  by_cases hb : (cls o && !es.any wrongE) = true
  · rw [Bool.and_eq_true] at hb
    exact new_good o A cap es w h hF hl hx hb.1 (by simpa using hb.2)
  · exact new_bad o A cap es w h hl (by simpa using hb)
theorem new_long (o : Int) (A : Option Addr) (cap n : Nat) (w : World) (hl : 200 < n) (hm : n ≤ 9223372036854775807) :
    Calls Try.prog 15 #[.int .i64 o, .slice A n cap] w fun e w' => e = .returned (.tuple #[.pointer none, .int .i64 3]) ∧ Below w.heap.size w w' := by
  have i1 : (200 : Int) < (n : Int) := by omega
  have hb := Below.refl w.heap.size w
  go_enter Try.func15, Try.ntmps15
  go_wp2_with fail
  go_ret2
  exact ⟨rfl, hb⟩
end Go.Proofs.Ytphhdkffnboboaa

namespace Go.Proofs.Ytphhdkffnboboaa
open Go.RowKit Go.Shelf
open Go.Lib Go.Great Go.Maps

theorem dd_first (F : Nat → Int) : dd F 1 = [0] := by rw [dd_succ]; rfl
theorem dd_one (F : Nat → Int) (h : ∀ i, 1 ≤ i → i < 4352 → sameB F 0 i = true) : ∀ m, m + 1 ≤ 4352 → dd F (m + 1) = [0] := by
  intro m
  induction m with
  | zero => intro _; exact dd_first F
  | succ m ih =>
    intro hm
    rw [dd_succ, ih (by omega), if_pos (by simp [h (m + 1) (by omega) (by omega)])]
theorem dd_two (F : Nat → Int) (h0 : sameB F 0 1 = false) (h : ∀ i, 1 ≤ i → i < 4352 → sameB F 1 i = true) : ∀ m, m + 2 ≤ 4352 → dd F (m + 2) = [0, 1] := by
  intro m
  induction m with
  | zero => intro _; rw [dd_succ, dd_first, if_neg (by simp [h0])]; rfl
  | succ m ih =>
    intro hm
    rw [dd_succ, ih (by omega), if_pos (by simp [h (m + 2) (by omega) (by omega)])]
theorem sameB_of (F : Nat → Int) (k i : Nat) (h : ∀ j, j < 256 → F (256 * k + j) = F (256 * i + j)) : sameB F k i = true := by
  unfold sameB
  rw [List.all_eq_true]
  intro j hj
  rw [h j (List.mem_range.1 hj)]
  simp
theorem sameB_not (F : Nat → Int) (k i j : Nat) (hj : j < 256) (h : F (256 * k + j) ≠ F (256 * i + j)) : sameB F k i = false := by
  rw [Bool.eq_false_iff]
  intro hs
  unfold sameB at hs
  have := List.all_eq_true.1 hs j (List.mem_range.2 hj)
  exact h (eq_of_beq this)

def awEs (N : Nat) : List En := [⟨some ⟨N, 0, none⟩, 1, [(97, 99)], 5⟩, ⟨some ⟨N + 1, 0, none⟩, 1, [(99, 99)], 7⟩]
def awF (i : Nat) : Int := if i = 99 then 7 else if i = 97 ∨ i = 98 then 5 else 0
theorem aw_fold (N : Nat) (i : Nat) : (awEs N).foldl (fun v e => if hasR e.xs i then e.c else v) 0 = awF i := by
  simp only [awEs, List.foldl_cons, List.foldl_nil, hasR, List.any_cons, List.any_nil, Bool.or_false, Bool.and_eq_true, decide_eq_true_eq, awF]
  by_cases c : i = 99
  · subst c; rfl
  · rw [if_neg (by omega), if_neg c]
    by_cases c2 : i = 97 ∨ i = 98
    · rw [if_pos (by omega), if_pos c2]
    · rw [if_neg (by omega), if_neg c2]
theorem aw_dd (F : Nat → Int) (h : ∀ i : Nat, i < 1114112 → F i = awF i) : (dd F 4352).length = 2 := by
  have := dd_two F (sameB_not F 0 1 97 (by omega) (by rw [h _ (by omega), h _ (by omega)]; decide)) (fun i h1 h2 => sameB_of F 1 i fun j hj => by
    rw [h _ (by omega), h _ (by omega)]
    unfold awF
    rw [if_neg (by omega), if_neg (by omega), if_neg (by omega), if_neg (by omega)]) 4350 (by omega)
  rw [this]
  rfl
theorem aw_heap (w : World) (a b c : Obj) : (((w.alloc a).alloc b).alloc c).heap[w.heap.size]? = some a ∧ (((w.alloc a).alloc b).alloc c).heap[w.heap.size + 1]? = some b ∧ (((w.alloc a).alloc b).alloc c).heap[w.heap.size + 1 + 1]? = some c ∧ (((w.alloc a).alloc b).alloc c).heap.size = w.heap.size + 1 + 1 + 1 := by
  have s1 : (w.alloc a).heap.size = w.heap.size + 1 := by simp
  have s2 : ((w.alloc a).alloc b).heap.size = w.heap.size + 1 + 1 := by simp
  have s3 : (((w.alloc a).alloc b).alloc c).heap.size = w.heap.size + 1 + 1 + 1 := by simp
  have k2 := (below_new ((w.alloc a).alloc b) c).block
  have k1 := (below_new (w.alloc a) b).block
  have n3 := heap_alloc_new ((w.alloc a).alloc b) c
  have n2 := heap_alloc_new (w.alloc a) b
  have n1 := heap_alloc_new w a
  rw [s2] at n3 k2
  rw [s1] at n2 k1
  exact ⟨(k2 _ (by omega)).trans ((k1 _ (by omega)).trans n1), (k2 _ (by omega)).trans n2, n3, s3⟩
theorem aw_ES (w : World) : ES (((w.alloc (.cells #[.int .i32 97, .int .i32 99] 70)).alloc (.cells #[.int .i32 99, .int .i32 99] 70)).alloc (.cells #[.slice (some ⟨w.heap.size, 0, none⟩) 1 1, .int .i64 5, .slice (some ⟨w.heap.size + 1, 0, none⟩) 1 1, .int .i64 7] 72))
    (((w.alloc (.cells #[.int .i32 97, .int .i32 99] 70)).alloc (.cells #[.int .i32 99, .int .i32 99] 70)).alloc (.cells #[.slice (some ⟨w.heap.size, 0, none⟩) 1 1, .int .i64 5, .slice (some ⟨w.heap.size + 1, 0, none⟩) 1 1, .int .i64 7] 72)).heap.size (some ⟨w.heap.size + 1 + 1, 0, none⟩) 2 (awEs w.heap.size) := by
  obtain ⟨h0, h1, h2, h3⟩ := aw_heap w (.cells #[.int .i32 97, .int .i32 99] 70) (.cells #[.int .i32 99, .int .i32 99] 70) (.cells #[.slice (some ⟨w.heap.size, 0, none⟩) 1 1, .int .i64 5, .slice (some ⟨w.heap.size + 1, 0, none⟩) 1 1, .int .i64 7] 72)
  generalize ((w.alloc (.cells #[.int .i32 97, .int .i32 99] 70)).alloc (.cells #[.int .i32 99, .int .i32 99] 70)).alloc (.cells #[.slice (some ⟨w.heap.size, 0, none⟩) 1 1, .int .i64 5, .slice (some ⟨w.heap.size + 1, 0, none⟩) 1 1, .int .i64 7] 72) = W at *
  generalize w.heap.size = N at *
  have one : ∀ (x y : Int), I32 (x, y) → ∀ b : Nat, W.cell? ⟨b, 0, none⟩ = some (.int .i32 x) → W.cell? ⟨b, 1, none⟩ = some (.int .i32 y) → b < W.heap.size → RS W W.heap.size (some ⟨b, 0, none⟩) 1 [(x, y)] := fun x y hI b h1 h2 h3 =>
    ⟨Nat.le_refl _, by unfold maxLen; omega, by simpa using hI, fun _ => ⟨b, 0, rfl, h3, fun i z hz => by
      match i, hz with
      | 0, hz => simp at hz; subst hz; exact ⟨h1, h2⟩
      | i + 1, hz => simp at hz⟩⟩
  refine ⟨Nat.le_refl _, by unfold maxLen; omega, fun e he => ?_, fun _ => ⟨_, 0, rfl, by omega, fun i z hz => ?_⟩⟩
  · simp only [awEs, List.mem_cons, List.not_mem_nil, or_false] at he
    rcases he with rfl | rfl
    · exact one 97 99 (by unfold I32; omega) _ (cell_of_row W _ 0 _ _ _ h0) (cell_of_row W _ 1 _ _ _ h0) (by omega)
    · exact one 99 99 (by unfold I32; omega) _ (cell_of_row W _ 0 _ _ _ h1) (cell_of_row W _ 1 _ _ _ h1) (by omega)
  · match i, hz with
    | 0, hz => simp [awEs] at hz; subst hz; exact ⟨cell_of_row W _ 0 _ _ _ h2, cell_of_row W _ 1 _ _ _ h2⟩
    | 1, hz => simp [awEs] at hz; subst hz; exact ⟨cell_of_row W _ 2 _ _ _ h2, cell_of_row W _ 3 _ _ _ h2⟩
    | i + 2, hz => simp [awEs] at hz

set_option maxHeartbeats 4000000 in
set_option maxRecDepth 100000 in
theorem taw_any (w : World) : Calls Try.prog 14 #[] w fun e w' => e = .returned (.bool true) ∧ Below w.heap.size w w' := by
  have C := Lib.hid (new_any 0 _ 2 (awEs w.heap.size) _ (aw_ES w) (fun h => by cases h) (by simp [awEs]) (by simp [awEs]))
  have hbw : Below w.heap.size w (((w.alloc (.cells #[.int .i32 97, .int .i32 99] 70)).alloc (.cells #[.int .i32 99, .int .i32 99] 70)).alloc (.cells #[.slice (some ⟨w.heap.size, 0, none⟩) 1 1, .int .i64 5, .slice (some ⟨w.heap.size + 1, 0, none⟩) 1 1, .int .i64 7] 72)) :=
    ((below_new w _).alloc (by simp) _).alloc (by simp; omega) _
  have HB := Lib.hid hbw
  have G := Lib.hid get_any
  have D := Lib.hid blocks_any
  clear hbw
  go_enter Try.func14, Try.ntmps14
  go_wp2_with fail
  refine C.out.mono ?_
  rintro e w1 ⟨hb1, hp⟩
  have hok : (cls 0 && !(awEs w.heap.size).any wrongE) = true := by rfl
  rw [if_pos hok] at hp
  obtain ⟨T, F, rfl, hF, hFi, hT⟩ := hp
  have hFa : ∀ i : Nat, i < 1114112 → F i = awF i := fun i hi => (hFi i hi).trans (aw_fold _ i)
  have hbz := HB.out.trans (hb1.mono HB.out.size)
  have H := Lib.hid (And.intro hT (And.intro hF (And.intro hFa hbz)))
  clear hb1 hok hF hFi hT hFa hbz
  go_wp2_with fail
  refine (G.out T 0 F 98 w1 H.out.1 H.out.2.1 (by omega) (by omega)).mono ?_
  rintro e w2 ⟨rfl, hb2⟩
  have e2 : (if (98 : Int) < 0 ∨ (1114111 : Int) < 98 then 0 else F (98 : Int).toNat) = 5 := by rw [if_neg (by omega)]; exact H.out.2.2.1 98 (by omega)
  rw [e2]
  have hT2 := H.out.1.below hb2
  have hbz2 := H.out.2.2.2.trans (hb2.mono H.out.2.2.2.size)
  have H2 := Lib.hid (And.intro hT2 hbz2)
  clear hT2 hbz2 hb2 e2
  go_wp2_with fail
  refine (G.out T 0 F 99 w2 H2.out.1 H.out.2.1 (by omega) (by omega)).mono ?_
  rintro e w3 ⟨rfl, hb3⟩
  have e2 : (if (99 : Int) < 0 ∨ (1114111 : Int) < 99 then 0 else F (99 : Int).toNat) = 7 := by rw [if_neg (by omega)]; exact H.out.2.2.1 99 (by omega)
  rw [e2]
  have hT2 := H2.out.1.below hb3
  have hbz2 := H2.out.2.trans (hb3.mono H2.out.2.size)
  have H3 := Lib.hid (And.intro hT2 hbz2)
  clear hT2 hbz2 hb3 e2
  go_wp2_with fail
  refine (G.out T 0 F 100 w3 H3.out.1 H.out.2.1 (by omega) (by omega)).mono ?_
  rintro e w4 ⟨rfl, hb4⟩
  have e2 : (if (100 : Int) < 0 ∨ (1114111 : Int) < 100 then 0 else F (100 : Int).toNat) = 0 := by rw [if_neg (by omega)]; exact H.out.2.2.1 100 (by omega)
  rw [e2]
  have hT2 := H3.out.1.below hb4
  have hbz2 := H3.out.2.trans (hb4.mono H3.out.2.size)
  have H4 := Lib.hid (And.intro hT2 hbz2)
  clear hT2 hbz2 hb4 e2
  go_wp2_with fail
  refine (D.out T 0 F w4 H4.out.1).mono ?_
  rintro e w5 ⟨rfl, hb5⟩
  rw [aw_dd F H.out.2.2.1]
  have hbz5 := H4.out.2.trans (hb5.mono H4.out.2.size)
  go_wp2_with fail
  go_ret
  exact ⟨rfl, hbz5⟩
end Go.Proofs.Ytphhdkffnboboaa

namespace Go.Proofs.Ytphhdkffnboboaa
open Go.RowKit Go.Shelf
open Go.Lib

set_option maxHeartbeats 2000000 in
theorem in_any (A : Option Addr) (cap : Nat) (xs : List Rng) (r : Int) (_hr0 : -2147483648 ≤ r) (_hr1 : r ≤ 2147483647) (w : World) (h : RS w w.heap.size A cap xs) :
    Calls Try.prog 48 #[.slice A xs.length cap, .int .i32 r] w fun e w' => e = .returned (.bool (hasR xs r)) ∧ w' = w := by
  have H := Lib.hid h
  have hm : xs.length ≤ maxLen := by have := h.1; have := h.2.1; omega
  obtain ⟨n, hn⟩ : ∃ n, xs.length = n := ⟨_, rfl⟩
  have HN := Lib.hid hn
  unfold maxLen at hm
  rw [hn] at hm ⊢
  clear h hn
  go_enter Try.func48, Try.ntmps48
  go_wp2
  go_loopw [5] (fun i wr => ∃ k : Nat, i = .int .i64 k ∧ k ≤ n ∧ hasR (xs.take k) r = false ∧ wr = w) (fun i _ => n - (RowKit.intOf i).toNat)
  case atStart => exact ⟨0, rfl, Nat.zero_le _, rfl, rfl⟩
  case round =>
    obtain ⟨k, rfl, hk, hF, rfl⟩ := hrel
    have HF := Lib.hid hF
    clear hF
    by_cases hlt : k < n
    · obtain ⟨x, hx⟩ : ∃ x, xs[k]? = some x := ⟨xs[k]'(by have := HN.out; omega), List.getElem?_eq_getElem _⟩
      obtain ⟨b, o, rfl, hbl, hRg⟩ := H.out.2.2.2 (by intro e; rw [e] at hx; simp at hx)
      obtain ⟨q1, q2⟩ := hRg k x hx
      have hi := H.out.i32 hx
      have HS := Lib.hid (hasR_step xs k x r hx)
      clear hRg hx
      obtain ⟨lo, hi'⟩ := x
      have i1 : (k : Int) < (n : Int) := by omega
      by_cases c1 : lo ≤ r
      · by_cases c2 : r ≤ hi'
        · have HT := Lib.hid (hasR_take xs (k + 1) r (by rw [HS.out]; simp [c1, c2]))
          go_wp2
          go_ret
          exact ⟨by rw [HT.out]; rfl, rfl⟩
        · have d : decide (r ≤ hi') = false := by simpa using c2
          have HT := Lib.hid (show hasR (xs.take (k + 1)) r = false by rw [HS.out, HF.out]; simp [c2])
          go_wp2
          go_roundw
          case rel => exact ⟨k + 1, by go_num, by omega, HT.out, trivial⟩
          case measure => simp [RowKit.intOf]; omega
      · have d : decide (lo ≤ r) = false := by simpa using c1
        have HT := Lib.hid (show hasR (xs.take (k + 1)) r = false by rw [HS.out, HF.out]; simp [c1])
        go_wp2
        go_roundw
        case rel => exact ⟨k + 1, by go_num, by omega, HT.out, trivial⟩
        case measure => simp [RowKit.intOf]; omega
    · have hkn : k = n := by omega
      have HT := Lib.hid (show hasR xs r = false by have h := HF.out; rwa [hkn, ← HN.out, List.take_length] at h)
      subst hkn
      go_wp2
      go_ret
      exact ⟨by rw [HT.out]; rfl, rfl⟩

end Go.Proofs.Ytphhdkffnboboaa

namespace Go.Proofs.Ytphhdkffnboboaa
open Go.RowKit Go.Shelf
open Go.Lib Go.Great Go.Maps

/-- More than is asked of. -/
def greatE (es : List En) : Bool := (es.take 12).any (fun e => decide (12 < e.xs.length)) || decide (12 < es.length)
theorem take_any_snoc {p : En → Bool} (es : List En) (k : Nat) (e : En) (h : es[k]? = some e) : (es.take (k + 1)).any p = ((es.take k).any p || p e) := by
  rw [List.take_add_one, h]
  simp

set_option maxHeartbeats 4000000 in
set_option maxRecDepth 100000 in
theorem great_any (A : Option Addr) (cap : Nat) (es : List En) (w : World) (h : ES w w.heap.size A cap es) : Calls Try.prog 13 #[.slice A es.length cap] w fun e w' => e = .returned (.bool (greatE es)) ∧ w' = w := by
  have H := Lib.hid h
  have hm : es.length ≤ maxLen := by have := h.1; have := h.2.1; omega
  unfold maxLen at hm
  obtain ⟨n, hn⟩ : ∃ n, es.length = n := ⟨_, rfl⟩
  have HN := Lib.hid hn
  obtain ⟨R, hR⟩ : ∃ R, R = greatE es := ⟨_, rfl⟩
  have HR := Lib.hid hR
  rw [← hR, hn]
  rw [hn] at hm
  clear h hn hR
  go_enter Try.func13, Try.ntmps13
  go_wp2_with fail
  go_loopw [3] (fun i wr => ∃ k : Nat, i = .int .i64 (k : Int) ∧ k ≤ n ∧ k ≤ 12 ∧ wr = w ∧ (es.take k).any (fun e => decide (12 < e.xs.length)) = false) (fun i _ => n - (RowKit.intOf i).toNat)
  case atStart => exact ⟨0, rfl, Nat.zero_le _, Nat.zero_le _, rfl, rfl⟩
  case round =>
    obtain ⟨k, rfl, hk, hk2, rfl, hany⟩ := hrel
    have HA := Lib.hid hany
    clear hany
    by_cases hlt : k < n ∧ k < 12
    · obtain ⟨x, hx⟩ : ∃ x, es[k]? = some x := ⟨es[k]'(by rw [HN.out]; exact hlt.1), List.getElem?_eq_getElem _⟩
      obtain ⟨b, o, rfl, hbl, hE⟩ := H.out.2.2.2 (by intro e; rw [e] at hx; simp at hx)
      obtain ⟨q1, q2⟩ := hE k x hx
      have HX := Lib.hid (take_any_snoc (p := fun e => decide (12 < e.xs.length)) es k x hx)
      have HXX := Lib.hid hx
      have i1 : (k : Int) < (n : Int) := by omega
      have i2 : (k : Int) < 12 := by omega
      obtain ⟨A1, cap1, xs1, c1⟩ := x
      simp only at q1 q2
      obtain ⟨n1, hn1⟩ : ∃ n1, xs1.length = n1 := ⟨_, rfl⟩
      rw [hn1] at q1
      have HN1 := Lib.hid hn1
      clear hE hx hn1
      by_cases hgr : 12 < n1
      · have i3 : (12 : Int) < (n1 : Int) := by omega
        have hRt : R = true := by
          rw [HR.out]
          unfold greatE
          rw [Bool.or_eq_true]
          left
          rw [List.any_eq_true]
          refine ⟨⟨A1, cap1, xs1, c1⟩, ?_, by simp only [decide_eq_true_eq]; rw [HN1.out]; exact hgr⟩
          have := HXX.out
          refine List.mem_of_getElem? (i := k) ?_
          rw [List.getElem?_take, if_pos hlt.2]
          exact this
        have HRT := Lib.hid hRt
        clear hRt
        go_wp2_with fail
        go_ret
        exact ⟨HRT.out ▸ rfl, rfl⟩
      · have i3 : ¬ (12 : Int) < (n1 : Int) := by omega
        have d3 : decide ((12 : Int) < (n1 : Int)) = false := by simp; omega
        have hnx : (es.take (k + 1)).any (fun e => decide (12 < e.xs.length)) = false := by
          rw [HX.out, HA.out, Bool.false_or]
          simp only [decide_eq_false_iff_not]
          rw [HN1.out]
          exact hgr
        have HNX := Lib.hid hnx
        clear hnx
        go_wp2_with fail
        go_roundw
        case rel => exact ⟨k + 1, by go_num, by omega, by omega, by trivial, HNX.out⟩
        case measure => simp [RowKit.intOf]; omega
    · have hfin : R = decide ((12 : Int) < (n : Int)) := by
        rw [HR.out]
        unfold greatE
        rw [HN.out]
        by_cases c : 12 < n
        · have hk12 : k = 12 := by omega
          rw [hk12] at HA
          simp [c]
          omega
        · have e : es.take 12 = es.take k := by
            rw [List.take_of_length_le (by rw [HN.out]; omega), List.take_of_length_le (by rw [HN.out]; omega)]
          rw [e, HA.out]
          simp [c]
          omega
      have HFIN := Lib.hid hfin
      clear hfin
      by_cases c1 : k < n
      · have i1 : (k : Int) < (n : Int) := by omega
        have i2 : ¬ (k : Int) < 12 := by omega
        have d2 : decide ((k : Int) < 12) = false := by simp; omega
        go_wp2_with fail
        go_ret
        exact ⟨HFIN.out ▸ rfl, rfl⟩
      · have i1 : ¬ (k : Int) < (n : Int) := by omega
        have d1 : decide ((k : Int) < (n : Int)) = false := by simp; omega
        go_wp2_with fail
        go_ret
        exact ⟨HFIN.out ▸ rfl, rfl⟩
end Go.Proofs.Ytphhdkffnboboaa

namespace Go.Proofs.Ytphhdkffnboboaa
open Go.RowKit Go.Shelf
open Go.Lib Go.Great Go.Maps

/-- What the document's answer tells of a number. -/
def hitE (r : Int) (e : En) : Bool := hasR e.xs r && decide (0 ≤ r) && decide (r ≤ 1114111)
def getE (o : Int) (es : List En) (r : Int) : Int := es.foldl (fun v e => if hitE r e then e.c else v) o
theorem getE_snoc (o : Int) (es : List En) (r : Int) (k : Nat) (e : En) (h : es[k]? = some e) : getE o (es.take (k + 1)) r = if hitE r e then e.c else getE o (es.take k) r := by
  rw [List.take_add_one, h]
  simp [getE]

set_option maxHeartbeats 4000000 in
set_option maxRecDepth 100000 in
theorem rget_any (o : Int) (A : Option Addr) (cap : Nat) (es : List En) (r : Int) (w : World) (h : ES w w.heap.size A cap es) (r0 : -2147483648 ≤ r) (r1 : r ≤ 2147483647) :
    Calls Try.prog 19 #[.int .i64 o, .slice A es.length cap, .int .i32 r] w fun e w' => e = .returned (.int .i64 (getE o es r)) ∧ w' = w := by
  have H := Lib.hid h
  have hm : es.length ≤ maxLen := by have := h.1; have := h.2.1; omega
  unfold maxLen at hm
  obtain ⟨n, hn⟩ : ∃ n, es.length = n := ⟨_, rfl⟩
  have HN := Lib.hid hn
  obtain ⟨R, hR⟩ : ∃ R, R = getE o es r := ⟨_, rfl⟩
  have HR := Lib.hid hR
  rw [← hR, hn]
  rw [hn] at hm
  clear h hn hR
  go_enter Try.func19, Try.ntmps19
  go_wp2_with fail
  go_loopw [7, 8] (fun v i wr => ∃ k : Nat, i = .int .i64 (k : Int) ∧ k ≤ n ∧ wr = w ∧ v = .int .i64 (getE o (es.take k) r)) (fun _ i _ => n - (RowKit.intOf i).toNat)
  case atStart => exact ⟨0, rfl, Nat.zero_le _, rfl, rfl⟩
  case round =>
    obtain ⟨k, rfl, hk, rfl, rfl⟩ := hrel
    by_cases hlt : k < n
    · obtain ⟨x, hx⟩ : ∃ x, es[k]? = some x := ⟨es[k]'(by rw [HN.out]; exact hlt), List.getElem?_eq_getElem _⟩
      obtain ⟨b, o', rfl, hbl, hE⟩ := H.out.2.2.2 (by intro e; rw [e] at hx; simp at hx)
      obtain ⟨q1, q2⟩ := hE k x hx
      have HX := Lib.hid (getE_snoc o es r k x hx)
      have C := in_any x.A x.cap x.xs r r0 r1 wr (H.out.2.2.1 x (List.mem_of_getElem? hx))
      have i1 : (k : Int) < (n : Int) := by omega
      unfold hitE at HX
      obtain ⟨A1, cap1, xs1, c1⟩ := x
      simp only at q1 q2 C HX
      generalize hasR xs1 r = q at *
      generalize xs1.length = n1 at *
      generalize getE o (es.take k) r = v0 at *
      have C := Lib.hid C
      clear hE hx
      cases q with
      | false =>
        simp only [Bool.false_and, Bool.false_eq_true, if_false] at HX
        go_wp2_with fail
        refine C.out.mono ?_
        rintro e w1 ⟨rfl, rfl⟩
        go_wp2_with fail
        go_roundw
        case rel => exact ⟨k + 1, by go_num, by omega, by trivial, by rw [HX.out]⟩
        case measure => simp [RowKit.intOf]; omega
      | true =>
        by_cases c0 : 0 ≤ r
        · by_cases c2 : r ≤ 1114111
          · simp only [c0, c2, decide_true, Bool.and_self, if_true] at HX
            go_wp2_with fail
            refine C.out.mono ?_
            rintro e w1 ⟨rfl, rfl⟩
            go_wp2_with fail
            go_roundw
            case rel => exact ⟨k + 1, by go_num, by omega, by trivial, by rw [HX.out]⟩
            case measure => simp [RowKit.intOf]; omega
          · have d2 : decide (r ≤ 1114111) = false := by simpa using c2
            simp only [Bool.true_and, c0, d2, decide_true, Bool.and_false, Bool.false_eq_true, if_false] at HX
            go_wp2_with fail
            refine C.out.mono ?_
            rintro e w1 ⟨rfl, rfl⟩
            go_wp2_with fail
            go_roundw
            case rel => exact ⟨k + 1, by go_num, by omega, by trivial, by rw [HX.out]⟩
            case measure => simp [RowKit.intOf]; omega
        · have d0 : decide (0 ≤ r) = false := by simpa using c0
          simp only [Bool.true_and, d0, Bool.false_and, Bool.false_eq_true, if_false] at HX
          go_wp2_with fail
          refine C.out.mono ?_
          rintro e w1 ⟨rfl, rfl⟩
          go_wp2_with fail
          go_roundw
          case rel => exact ⟨k + 1, by go_num, by omega, by trivial, by rw [HX.out]⟩
          case measure => simp [RowKit.intOf]; omega
    · have e : getE o (es.take k) r = R := by rw [HR.out, List.take_of_length_le (by rw [HN.out]; omega)]
      rw [e]
      have i1 : ¬ (k : Int) < (n : Int) := by omega
      have d1 : decide ((k : Int) < (n : Int)) = false := by simp; omega
      clear e
      go_wp2_with fail
      go_ret
      exact ⟨rfl, rfl⟩

/-- May entries, and the other class, be? -/
def mayE (o : Int) (es : List En) : Bool := cls o && es.all (fun e => right e.xs && cls e.c)
theorem mayE_snoc (o : Int) (es : List En) (k : Nat) (e : En) (h : es[k]? = some e) : mayE o (es.take (k + 1)) = (mayE o (es.take k) && (right e.xs && cls e.c)) := by
  unfold mayE
  rw [List.take_add_one, h, List.all_append]
  simp [Bool.and_assoc]
theorem mayE_wrong (o : Int) (es : List En) : mayE o es = (cls o && !es.any wrongE) := by
  unfold mayE
  congr 1
  induction es with
  | nil => rfl
  | cons x xs ih => rw [List.all_cons, List.any_cons, ih]; unfold wrongE; cases right x.xs <;> cases cls x.c <;> cases xs.any wrongE <;> rfl

set_option maxHeartbeats 8000000 in
set_option maxRecDepth 100000 in
theorem lawmay_any (o : Int) (A : Option Addr) (cap : Nat) (es : List En) (w : World) (h : ES w w.heap.size A cap es) :
    Calls Try.prog 17 #[.int .i64 o, .slice A es.length cap] w fun e w' => e = .returned (.bool (mayE o es)) ∧ Below w.heap.size w w' := by
  have H := Lib.hid h
  have hm : es.length ≤ maxLen := by have := h.1; have := h.2.1; omega
  unfold maxLen at hm
  obtain ⟨n, hn⟩ : ∃ n, es.length = n := ⟨_, rfl⟩
  have HN := Lib.hid hn
  obtain ⟨R, hR⟩ : ∃ R, R = mayE o es := ⟨_, rfl⟩
  have HR := Lib.hid hR
  rw [← hR, hn]
  rw [hn] at hm
  clear h hn hR
  obtain ⟨q0, hq0⟩ : ∃ q0, cls o = q0 := ⟨_, rfl⟩
  have HQ0 := Lib.hid hq0
  clear hq0
  have start : ∀ (P : Prop), (q0 = (decide (0 ≤ o) && decide (o ≤ 255)) → P) → P := fun P f => f (by rw [← HQ0.out]; rfl)
  have H0 : (0 ≤ o ∧ o ≤ 255 ∧ q0 = true) ∨ (decide (0 ≤ o) = false ∧ q0 = false) ∨ (0 ≤ o ∧ decide (o ≤ 255) = false ∧ q0 = false) := by
    have e : q0 = (decide (0 ≤ o) && decide (o ≤ 255)) := by rw [← HQ0.out]; rfl
    by_cases c1 : 0 ≤ o
    · by_cases c2 : o ≤ 255
      · exact .inl ⟨c1, c2, by rw [e]; simp [c1, c2]⟩
      · exact .inr (.inr ⟨c1, by simpa using c2, by rw [e]; simp [c2]⟩)
    · exact .inr (.inl ⟨by simpa using c1, by rw [e]; simp [c1]⟩)
  clear start
  rcases H0 with ⟨a1, a2, rfl⟩ | ⟨a1, rfl⟩ | ⟨a1, a2, rfl⟩
  · go_enter Try.func17, Try.ntmps17
    go_wp2_with fail
    go_loopw [5, 6] (fun v i wr => ∃ k : Nat, i = .int .i64 (k : Int) ∧ k ≤ n ∧ Below w.heap.size w wr ∧ v = .bool (mayE o (es.take k))) (fun _ i _ => n - (RowKit.intOf i).toNat)
    case atStart => exact ⟨0, rfl, Nat.zero_le _, Below.refl _ _, by unfold mayE; rw [HQ0.out]; rfl⟩
    case round =>
      obtain ⟨k, rfl, hk, hb, rfl⟩ := hrel
      by_cases hlt : k < n
      · obtain ⟨x, hx⟩ : ∃ x, es[k]? = some x := ⟨es[k]'(by rw [HN.out]; exact hlt), List.getElem?_eq_getElem _⟩
        obtain ⟨b, o', rfl, hbl, hE⟩ := H.out.2.2.2 (by intro e; rw [e] at hx; simp at hx)
        obtain ⟨q1, q2⟩ := hE k x hx
        have p1 := (hb.cell (p := ⟨b, o' + k * 2, none⟩) hbl).trans q1
        have p2 := (hb.cell (p := ⟨b, o' + k * 2 + 1, none⟩) hbl).trans q2
        have HX := Lib.hid (mayE_snoc o es k x hx)
        have C := rright_any x.A x.cap x.xs wr (((H.out.2.2.1 x (List.mem_of_getElem? hx)).below hb).mono hb.size)
        have i1 : (k : Int) < (n : Int) := by omega
        unfold cls at HX
        obtain ⟨A1, cap1, xs1, c1⟩ := x
        simp only at q1 q2 p1 p2 C HX
        generalize right xs1 = q at *
        generalize xs1.length = n1 at *
        generalize mayE o (es.take k) = v0 at *
        have C := Lib.hid C
        have HB := Lib.hid hb
        have HE := Lib.hid hE
        have HBL := Lib.hid hbl
        clear hE hx q1 q2 hb
        cases v0 with
        | false =>
          simp only [Bool.false_and] at HX
          have hbz := HB.out
          go_wp2_with fail
          go_roundw
          case rel => exact ⟨k + 1, by go_num, by omega, hbz, by rw [HX.out]⟩
          case measure => simp [RowKit.intOf]; omega
        | true =>
          cases q with
          | false =>
            simp only [Bool.false_and, Bool.and_false] at HX
            go_wp2_with fail
            refine C.out.mono ?_
            rintro e w2 ⟨rfl, hb2⟩
            have hbz := HB.out.trans (hb2.mono HB.out.size)
            go_wp2_with fail
            go_roundw
            case rel => exact ⟨k + 1, by go_num, by omega, hbz, by rw [HX.out]⟩
            case measure => simp [RowKit.intOf]; omega
          | true =>
            go_wp2_with fail
            refine C.out.mono ?_
            rintro e w2 ⟨rfl, hb2⟩
            have hbz := HB.out.trans (hb2.mono HB.out.size)
            have hsz := HB.out.size
            have p3 := (hb2.cell (p := ⟨b, o' + k * 2 + 1, none⟩) (by show b < wr.heap.size; have := HBL.out; omega)).trans p2
            by_cases d1 : 0 ≤ c1
            · by_cases d2 : c1 ≤ 255
              · simp only [d1, d2, decide_true, Bool.and_self] at HX
                go_wp2_with fail
                go_roundw
                case rel => exact ⟨k + 1, by go_num, by omega, hbz, by rw [HX.out]⟩
                case measure => simp [RowKit.intOf]; omega
              · have d2' : decide (c1 ≤ 255) = false := by simpa using d2
                simp only [d2', Bool.and_false] at HX
                go_wp2_with fail
                go_roundw
                case rel => exact ⟨k + 1, by go_num, by omega, hbz, by rw [HX.out]⟩
                case measure => simp [RowKit.intOf]; omega
            · have d1' : decide (0 ≤ c1) = false := by simpa using d1
              simp only [d1', Bool.false_and, Bool.and_false] at HX
              go_wp2_with fail
              go_roundw
              case rel => exact ⟨k + 1, by go_num, by omega, hbz, by rw [HX.out]⟩
              case measure => simp [RowKit.intOf]; omega
      · have e : mayE o (es.take k) = R := by rw [HR.out, List.take_of_length_le (by rw [HN.out]; omega)]
        rw [e]
        have i1 : ¬ (k : Int) < (n : Int) := by omega
        have d1 : decide ((k : Int) < (n : Int)) = false := by simp; omega
        clear e
        go_wp2_with fail
        go_ret
        exact ⟨rfl, hb⟩
  · go_enter Try.func17, Try.ntmps17
    go_wp2_with fail
    go_loopw [5, 6] (fun v i wr => ∃ k : Nat, i = .int .i64 (k : Int) ∧ k ≤ n ∧ Below w.heap.size w wr ∧ v = .bool (mayE o (es.take k))) (fun _ i _ => n - (RowKit.intOf i).toNat)
    case atStart => exact ⟨0, rfl, Nat.zero_le _, Below.refl _ _, by unfold mayE; rw [HQ0.out]; rfl⟩
    case round =>
      obtain ⟨k, rfl, hk, hb, rfl⟩ := hrel
      by_cases hlt : k < n
      · obtain ⟨x, hx⟩ : ∃ x, es[k]? = some x := ⟨es[k]'(by rw [HN.out]; exact hlt), List.getElem?_eq_getElem _⟩
        obtain ⟨b, o', rfl, hbl, hE⟩ := H.out.2.2.2 (by intro e; rw [e] at hx; simp at hx)
        obtain ⟨q1, q2⟩ := hE k x hx
        have p1 := (hb.cell (p := ⟨b, o' + k * 2, none⟩) hbl).trans q1
        have p2 := (hb.cell (p := ⟨b, o' + k * 2 + 1, none⟩) hbl).trans q2
        have HX := Lib.hid (mayE_snoc o es k x hx)
        have C := rright_any x.A x.cap x.xs wr (((H.out.2.2.1 x (List.mem_of_getElem? hx)).below hb).mono hb.size)
        have i1 : (k : Int) < (n : Int) := by omega
        unfold cls at HX
        obtain ⟨A1, cap1, xs1, c1⟩ := x
        simp only at q1 q2 p1 p2 C HX
        generalize right xs1 = q at *
        generalize xs1.length = n1 at *
        generalize mayE o (es.take k) = v0 at *
        have C := Lib.hid C
        have HB := Lib.hid hb
        have HE := Lib.hid hE
        have HBL := Lib.hid hbl
        clear hE hx q1 q2 hb
        cases v0 with
        | false =>
          simp only [Bool.false_and] at HX
          have hbz := HB.out
          go_wp2_with fail
          go_roundw
          case rel => exact ⟨k + 1, by go_num, by omega, hbz, by rw [HX.out]⟩
          case measure => simp [RowKit.intOf]; omega
        | true =>
          cases q with
          | false =>
            simp only [Bool.false_and, Bool.and_false] at HX
            go_wp2_with fail
            refine C.out.mono ?_
            rintro e w2 ⟨rfl, hb2⟩
            have hbz := HB.out.trans (hb2.mono HB.out.size)
            go_wp2_with fail
            go_roundw
            case rel => exact ⟨k + 1, by go_num, by omega, hbz, by rw [HX.out]⟩
            case measure => simp [RowKit.intOf]; omega
          | true =>
            go_wp2_with fail
            refine C.out.mono ?_
            rintro e w2 ⟨rfl, hb2⟩
            have hbz := HB.out.trans (hb2.mono HB.out.size)
            have hsz := HB.out.size
            have p3 := (hb2.cell (p := ⟨b, o' + k * 2 + 1, none⟩) (by show b < wr.heap.size; have := HBL.out; omega)).trans p2
            by_cases d1 : 0 ≤ c1
            · by_cases d2 : c1 ≤ 255
              · simp only [d1, d2, decide_true, Bool.and_self] at HX
                go_wp2_with fail
                go_roundw
                case rel => exact ⟨k + 1, by go_num, by omega, hbz, by rw [HX.out]⟩
                case measure => simp [RowKit.intOf]; omega
              · have d2' : decide (c1 ≤ 255) = false := by simpa using d2
                simp only [d2', Bool.and_false] at HX
                go_wp2_with fail
                go_roundw
                case rel => exact ⟨k + 1, by go_num, by omega, hbz, by rw [HX.out]⟩
                case measure => simp [RowKit.intOf]; omega
            · have d1' : decide (0 ≤ c1) = false := by simpa using d1
              simp only [d1', Bool.false_and, Bool.and_false] at HX
              go_wp2_with fail
              go_roundw
              case rel => exact ⟨k + 1, by go_num, by omega, hbz, by rw [HX.out]⟩
              case measure => simp [RowKit.intOf]; omega
      · have e : mayE o (es.take k) = R := by rw [HR.out, List.take_of_length_le (by rw [HN.out]; omega)]
        rw [e]
        have i1 : ¬ (k : Int) < (n : Int) := by omega
        have d1 : decide ((k : Int) < (n : Int)) = false := by simp; omega
        clear e
        go_wp2_with fail
        go_ret
        exact ⟨rfl, hb⟩
  · go_enter Try.func17, Try.ntmps17
    go_wp2_with fail
    go_loopw [5, 6] (fun v i wr => ∃ k : Nat, i = .int .i64 (k : Int) ∧ k ≤ n ∧ Below w.heap.size w wr ∧ v = .bool (mayE o (es.take k))) (fun _ i _ => n - (RowKit.intOf i).toNat)
    case atStart => exact ⟨0, rfl, Nat.zero_le _, Below.refl _ _, by unfold mayE; rw [HQ0.out]; rfl⟩
    case round =>
      obtain ⟨k, rfl, hk, hb, rfl⟩ := hrel
      by_cases hlt : k < n
      · obtain ⟨x, hx⟩ : ∃ x, es[k]? = some x := ⟨es[k]'(by rw [HN.out]; exact hlt), List.getElem?_eq_getElem _⟩
        obtain ⟨b, o', rfl, hbl, hE⟩ := H.out.2.2.2 (by intro e; rw [e] at hx; simp at hx)
        obtain ⟨q1, q2⟩ := hE k x hx
        have p1 := (hb.cell (p := ⟨b, o' + k * 2, none⟩) hbl).trans q1
        have p2 := (hb.cell (p := ⟨b, o' + k * 2 + 1, none⟩) hbl).trans q2
        have HX := Lib.hid (mayE_snoc o es k x hx)
        have C := rright_any x.A x.cap x.xs wr (((H.out.2.2.1 x (List.mem_of_getElem? hx)).below hb).mono hb.size)
        have i1 : (k : Int) < (n : Int) := by omega
        unfold cls at HX
        obtain ⟨A1, cap1, xs1, c1⟩ := x
        simp only at q1 q2 p1 p2 C HX
        generalize right xs1 = q at *
        generalize xs1.length = n1 at *
        generalize mayE o (es.take k) = v0 at *
        have C := Lib.hid C
        have HB := Lib.hid hb
        have HE := Lib.hid hE
        have HBL := Lib.hid hbl
        clear hE hx q1 q2 hb
        cases v0 with
        | false =>
          simp only [Bool.false_and] at HX
          have hbz := HB.out
          go_wp2_with fail
          go_roundw
          case rel => exact ⟨k + 1, by go_num, by omega, hbz, by rw [HX.out]⟩
          case measure => simp [RowKit.intOf]; omega
        | true =>
          cases q with
          | false =>
            simp only [Bool.false_and, Bool.and_false] at HX
            go_wp2_with fail
            refine C.out.mono ?_
            rintro e w2 ⟨rfl, hb2⟩
            have hbz := HB.out.trans (hb2.mono HB.out.size)
            go_wp2_with fail
            go_roundw
            case rel => exact ⟨k + 1, by go_num, by omega, hbz, by rw [HX.out]⟩
            case measure => simp [RowKit.intOf]; omega
          | true =>
            go_wp2_with fail
            refine C.out.mono ?_
            rintro e w2 ⟨rfl, hb2⟩
            have hbz := HB.out.trans (hb2.mono HB.out.size)
            have hsz := HB.out.size
            have p3 := (hb2.cell (p := ⟨b, o' + k * 2 + 1, none⟩) (by show b < wr.heap.size; have := HBL.out; omega)).trans p2
            by_cases d1 : 0 ≤ c1
            · by_cases d2 : c1 ≤ 255
              · simp only [d1, d2, decide_true, Bool.and_self] at HX
                go_wp2_with fail
                go_roundw
                case rel => exact ⟨k + 1, by go_num, by omega, hbz, by rw [HX.out]⟩
                case measure => simp [RowKit.intOf]; omega
              · have d2' : decide (c1 ≤ 255) = false := by simpa using d2
                simp only [d2', Bool.and_false] at HX
                go_wp2_with fail
                go_roundw
                case rel => exact ⟨k + 1, by go_num, by omega, hbz, by rw [HX.out]⟩
                case measure => simp [RowKit.intOf]; omega
            · have d1' : decide (0 ≤ c1) = false := by simpa using d1
              simp only [d1', Bool.false_and, Bool.and_false] at HX
              go_wp2_with fail
              go_roundw
              case rel => exact ⟨k + 1, by go_num, by omega, hbz, by rw [HX.out]⟩
              case measure => simp [RowKit.intOf]; omega
      · have e : mayE o (es.take k) = R := by rw [HR.out, List.take_of_length_le (by rw [HN.out]; omega)]
        rw [e]
        have i1 : ¬ (k : Int) < (n : Int) := by omega
        have d1 : decide ((k : Int) < (n : Int)) = false := by simp; omega
        clear e
        go_wp2_with fail
        go_ret
        exact ⟨rfl, hb⟩
end Go.Proofs.Ytphhdkffnboboaa

