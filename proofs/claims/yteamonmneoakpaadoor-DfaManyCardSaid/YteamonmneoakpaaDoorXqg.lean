/-
  What dfa's builder holds in memory: the sets' numbers, the sets that wait, the rows.
  Contracts: the state of a set.
  The builder's state in memory, as one; what a step does to it.
  The inner loop of build: a row, mark by mark.
-/
import Derived.Test.YteamonmneoakpaaDoorXqf
import Derived.StringKeys
import Derived.Laws.MakeOwn
namespace Go.Proofs.YteamonmneoakpaaDoor
open Go.RowKit Go.Shelf Go.Lib Go.Great Go.Maps

/-- Of what was there only some blocks may have turned. -/
structure Fz (X : Nat → Prop) (w w' : World) : Prop where
  os : w'.os = w.os
  tape : w'.tape = w.tape
  output : w'.output = w.output
  size : w.heap.size ≤ w'.heap.size
  block : ∀ k, k < w.heap.size → ¬ X k → w'.heap[k]? = w.heap[k]?
theorem Fz.refl (X : Nat → Prop) (w : World) : Fz X w w := ⟨rfl, rfl, rfl, Nat.le_refl _, fun _ _ _ => rfl⟩
theorem Fz.trans {X : Nat → Prop} {a b c : World} (h : Fz X a b) (k : Fz X b c) : Fz X a c :=
  ⟨k.os.trans h.os, k.tape.trans h.tape, k.output.trans h.output, Nat.le_trans h.size k.size, fun i hi hn => (k.block i (Nat.lt_of_lt_of_le hi h.size) hn).trans (h.block i hi hn)⟩
theorem Fz.of_below {X : Nat → Prop} {a b : World} (h : Below a.heap.size a b) : Fz X a b := ⟨h.os, h.tape, h.output, h.size, fun k hk _ => h.block k hk⟩
theorem Fz.of_grown {X : Nat → Prop} {a b : World} {o : Option Nat} (h : a.grownBy b o) (hx : ∀ k, o = some k → X k) : Fz X a b :=
  ⟨h.os, h.tape, h.output, h.size, fun k hk hn => h.block k hk (fun e => hn (hx k e.symm))⟩
theorem Fz.mono {X Y : Nat → Prop} {a b : World} (h : Fz X a b) (hxy : ∀ k, X k → Y k) : Fz Y a b := ⟨h.os, h.tape, h.output, h.size, fun k hk hn => h.block k hk (fun hx => hn (hxy k hx))⟩
theorem Fz.below {X : Nat → Prop} {a b : World} {B : Nat} (h : Fz X a b) (hB : B ≤ a.heap.size) (hX : ∀ k, k < B → ¬ X k) : Below B a b := ⟨h.os, h.tape, h.output, h.size, fun k hk => h.block k (by omega) (hX k hk)⟩
theorem Fz.set {X : Nat → Prop} (w : World) (b i : Nat) (v : Value) (hb : X b) : Fz X w (w.setCell ⟨b, i, none⟩ v) :=
  ⟨rfl, rfl, rfl, by simp, fun k _ hn => by
    have : b ≠ k := fun e => hn (e ▸ hb)
    simp [World.setCell, Array.getElem?_modify, this]⟩

/-- A list of numbers whose block is one of some. -/
def SlX (w : World) (X : Nat → Prop) (xs : List Int) (v : Value) : Prop :=
  ∃ A cap, v = .slice A xs.length cap ∧ xs.length ≤ cap ∧ cap ≤ maxLen ∧ (∀ x ∈ xs, i64 x) ∧ (A = none → cap = 0) ∧ (xs ≠ [] → ∃ b, A = some ⟨b, 0, none⟩ ∧ X b ∧ b < w.heap.size ∧ ∀ i x, xs[i]? = some x → w.cell? ⟨b, i, none⟩ = some (.int .i64 x))
theorem SlX.is {w : World} {X : Nat → Prop} {xs : List Int} {v : Value} (h : SlX w X xs v) : ∃ A cap, v = .slice A xs.length cap ∧ IS w w.heap.size xs A cap ∧ (A = none → cap = 0) := by
  obtain ⟨A, cap, e, h1, h2, h3, h4, h5⟩ := h
  refine ⟨A, cap, e, ⟨h1, h2, h3, fun hne => ?_⟩, h4⟩
  obtain ⟨b, hA, _, hl, hc⟩ := h5 hne
  exact ⟨b, 0, hA, hl, fun i x hx => by rw [Nat.zero_add]; exact hc i x hx⟩
theorem SlX.move {w w' : World} {X X' : Nat → Prop} {xs : List Int} {v : Value} (h : SlX w X xs v) (hs : w.heap.size ≤ w'.heap.size) (hX : ∀ b, X b → b < w.heap.size → X' b ∧ w'.heap[b]? = w.heap[b]?) : SlX w' X' xs v := by
  obtain ⟨A, cap, e, h1, h2, h3, h4, h5⟩ := h
  refine ⟨A, cap, e, h1, h2, h3, h4, fun hne => ?_⟩
  obtain ⟨b, hA, hx, hl, hc⟩ := h5 hne
  obtain ⟨x1, x2⟩ := hX b hx hl
  exact ⟨b, hA, x1, by omega, fun i x hx => (World.cell?_of_block (w := w) (w' := w') (a := ⟨b, i, none⟩) x2).trans (hc i x hx)⟩
theorem slx_own {w : World} {base m : Nat} {v : Value} (h : OwnP w base (posL m) v) : SlX w (fun b => base ≤ b) (posI m) v := by
  have hp : ∀ x ∈ posI m, i64 x := fun x hx => by have := posI_nn x hx; unfold i64; omega
  have hl : (posI m).length = (posL m).length := by unfold posI; rw [List.length_map]
  rcases h.2 with ⟨h1, h2⟩ | ⟨g, cap, cur, h1, h2, h3, h4, h5, h6, h7⟩
  · refine ⟨none, 0, by rw [h1, hl, h2], by omega, by unfold maxLen; omega, hp, fun _ => rfl, fun hne => ?_⟩
    exact absurd (List.eq_nil_of_length_eq_zero (by omega)) hne
  · refine ⟨some ⟨g, 0, none⟩, cap, by rw [h1, hl], by omega, h5, hp, fun e => (by cases e), fun _ => ⟨g, rfl, h2, (Array.getElem?_eq_some_iff.1 h3).1, fun i x hx => ?_⟩⟩
    unfold posI at hx
    rw [List.getElem?_map] at hx
    obtain ⟨p, hp, rfl⟩ := Option.map_eq_some_iff.1 hx
    have hc := World.ownsRow.cells h (g := g) (by rw [h1]; rfl) i (.int .i64 (p : Int)) (by simp [cellsP, hp])
    rw [add0] at hc
    exact hc
theorem slx_begin (w : World) : SlX (w.alloc (.cells #[.int .i64 0] 3)) (fun b => w.heap.size ≤ b) [0] (.slice (some ⟨w.heap.size, 0, none⟩) 1 1) :=
  ⟨_, _, rfl, by simp, by unfold maxLen; omega, fun x hx => by simp at hx; subst hx; unfold i64; omega, (fun e => by cases e), (fun _ => ⟨_, rfl, Nat.le_refl _, by simp, fun i x hx => by
    cases i with
    | zero => simp at hx; subst hx; rw [World.cell?_alloc_new]; rfl
    | succ i => simp at hx⟩)⟩

/-- The numbers of sets, by their texts. -/
def nkey (x : List Int) : Lit := .string (txt x)
def Nm (w : World) (b : Nat) (S : List (List Int)) : Prop :=
  ∃ D : DataW Value, w.ownsMap Tryd.prog 9 hR b S.length D ∧ Maps.size D = S.length ∧ (∀ (i : Nat) x, S[i]? = some x → Maps.has D (nkey x) = true ∧ ∀ z, D.atKey (nkey x) z = .held (.int .i64 (i : Int))) ∧
    (∀ x, (∀ p ∈ x, (0 : Int) ≤ p) → x ∉ S → Maps.has D (nkey x) = false)
theorem Nm.lt {w : World} {b : Nat} {S : List (List Int)} (h : Nm w b S) : b < w.heap.size := by obtain ⟨D, h, _⟩ := h; exact h.lt
theorem Nm.block {w w' : World} {b : Nat} {S : List (List Int)} (h : Nm w b S) (hb : w'.heap[b]? = w.heap[b]?) : Nm w' b S := by
  obtain ⟨D, ⟨es, clock, h1, h2, h3, h4⟩, hf⟩ := h
  exact ⟨D, ⟨es, clock, hb.trans h1, h2, h3, h4⟩, hf⟩
theorem Nm.made (w : World) : Nm (w.alloc (.map #[] 0)) w.heap.size [] := ⟨_, World.ownsMap_made _ _ _ _, rfl, fun i x h => by simp at h, fun x _ _ => rfl⟩
theorem keyed9 : Keyed Tryd.prog 9 := string_keyed Tryd.underlying9
theorem nkey_of {x : List Int} (h : (txt x).length ≤ 10000) : keyOf Tryd.prog 9 (.string ⟨(txt x).toArray⟩) = some (nkey x) := by
  rw [Go.WideMaps.keyOf_string_mk Tryd.underlying9 (by show (txt x).toArray.size ≤ maxLen; simp; unfold maxLen; omega)]
  rfl
theorem wpList_lookNm_hit {ops : Array Oper} {rest : List Oper} {o : Oper} {a : Act} {w : World} {Q : Exit → Act → World → Prop} (hg : o.guard = none) (m x : Operand) (hop : o.op = Op.lookup 109 m x true) (b : Nat) (S : List (List Int)) (h : Nm w b S)
    (y : List Int) (hl : (txt y).length ≤ 10000) (i : Nat) (hi' : S[i]? = some y) (hm : a.eval m = .map (some b)) (hx : a.eval x = .string ⟨(txt y).toArray⟩)
    (h1 : wpList Tryd.prog ops Q rest (a.put o.dst (.tuple #[.int .i64 (i : Int), .bool true])) w) : wpList Tryd.prog ops Q (o :: rest) a w := by
  obtain ⟨D, hD, _, hi, hn⟩ := h
  refine wpList_lookup_own_ok w hg m x 109 hop 9 3 keyed9 Tryd.underlying109 hR (z := .int .i64 0) (by kernel_rfl) (.held (.int .i64 0)) [] rfl b S.length D hm hD _ (nkey y) hx (nkey_of hl) fun v ps hv => ?_
  simp only [hR, Option.some.injEq, Prod.mk.injEq] at hv
  obtain ⟨e1, e2⟩ := hi i y hi'
  rw [e1]
  have e3 := hv.1.trans (e2 _)
  injection e3 with e3
  rw [e3]
  exact h1
theorem wpList_lookNm_miss {ops : Array Oper} {rest : List Oper} {o : Oper} {a : Act} {w : World} {Q : Exit → Act → World → Prop} (hg : o.guard = none) (m x : Operand) (hop : o.op = Op.lookup 109 m x true) (b : Nat) (S : List (List Int)) (h : Nm w b S)
    (y : List Int) (hy : ∀ p ∈ y, (0 : Int) ≤ p) (hl : (txt y).length ≤ 10000) (hnot : y ∉ S) (hm : a.eval m = .map (some b)) (hx : a.eval x = .string ⟨(txt y).toArray⟩)
    (h1 : wpList Tryd.prog ops Q rest (a.put o.dst (.tuple #[.int .i64 0, .bool false])) w) : wpList Tryd.prog ops Q (o :: rest) a w := by
  obtain ⟨D, hD, _, hi, hn⟩ := h
  refine wpList_lookup_own_ok w hg m x 109 hop 9 3 keyed9 Tryd.underlying109 hR (z := .int .i64 0) (by kernel_rfl) (.held (.int .i64 0)) [] rfl b S.length D hm hD _ (nkey y) hx (nkey_of hl) fun v ps hv => ?_
  simp only [hR, Option.some.injEq, Prod.mk.injEq] at hv
  have e1 := hn y hy hnot
  rw [e1]
  have e3 := hv.1.trans (Maps.atKey_of_not_has e1 _)
  injection e3 with e3
  rw [e3]
  exact h1
theorem wpList_lenNm {ops : Array Oper} {rest : List Oper} {o : Oper} {a : Act} {w : World} {Q : Exit → Act → World → Prop} (hg : o.guard = none) (m : Operand) (hop : o.op = Op.call { callee := Callee.builtin Builtin.len, args := #[m], argTypes := #[109] }) (b : Nat) (S : List (List Int)) (h : Nm w b S)
    (hm : a.eval m = .map (some b)) (hK : wpList Tryd.prog ops Q rest (a.put o.dst (.int .i64 (S.length : Int))) w) : wpList Tryd.prog ops Q (o :: rest) a w := by
  obtain ⟨D, hD, hz, _⟩ := h
  refine wpList_len_own w hg m 109 hop 9 3 Tryd.underlying109 hR b S.length D hm hD ?_
  rw [hz]; exact hK
theorem wpList_updNm {ops : Array Oper} {rest : List Oper} {o : Oper} {a : Act} {w : World} {Q : Exit → Act → World → Prop} (hg : o.guard = none) (m x v : Operand) (hop : o.op = Op.mapUpdate 109 m x v) (b : Nat) (S : List (List Int)) (h : Nm w b S) (hS : S.length ≤ 100000)
    (hnn : ∀ x ∈ S, ∀ p ∈ x, (0 : Int) ≤ p) (y : List Int) (hy : ∀ p ∈ y, (0 : Int) ≤ p) (hl : (txt y).length ≤ 10000) (hnot : y ∉ S) (hm : a.eval m = .map (some b)) (hx : a.eval x = .string ⟨(txt y).toArray⟩) (hv : a.eval v = .int .i64 (S.length : Int))
    (hK : ∀ w', Nm w' b (S ++ [y]) → w.grownBy w' (some b) → wpList Tryd.prog ops Q rest (a.put o.dst undef) w') : wpList Tryd.prog ops Q (o :: rest) a w := by
  obtain ⟨D, hD, hz, hi, hn⟩ := h
  refine wpList_mapUpdate_in w hg m x v 109 hop 9 3 keyed9 Tryd.underlying109 hR b S.length D hm hD (by unfold maxLen; omega) _ (.int .i64 (S.length : Int)) (nkey y) hx hv (nkey_of hl) (.held (.int .i64 (S.length : Int))) [] rfl fun w' h1 h2 => ?_
  have hne : ∀ x, (∀ p ∈ x, (0 : Int) ≤ p) → x ≠ y → nkey x ≠ nkey y := fun x hx e h => e (txt_inj x y hx hy (by unfold nkey at h; injection h))
  refine hK w' ⟨D.put (nkey y) (.held (.int .i64 (S.length : Int))), by simpa using h1, ?_, ?_, ?_⟩ h2.grown
  · rw [Maps.size_put (hD.tidy keyed9), hn y hy hnot, hz]; simp
  · intro i x hix
    rcases Nat.lt_or_ge i S.length with hlt | hge
    · rw [List.getElem?_append_left hlt] at hix
      have hmem := List.mem_of_getElem? hix
      have hk := hne x (hnn x hmem) (fun e => hnot (e ▸ hmem))
      obtain ⟨e1, e2⟩ := hi i x hix
      exact ⟨by rw [Maps.has_put_other hk]; exact e1, fun z => by rw [Maps.atKey_put_other hk]; exact e2 z⟩
    · have hl2 := (List.getElem?_eq_some_iff.1 hix).1
      simp at hl2
      obtain rfl : i = S.length := by omega
      simp at hix
      subst hix
      exact ⟨Maps.has_put_same hD.isMap (show WideAt.IsKeyLit (nkey _) from trivial) _, fun z => Maps.atKey_put_same hD.isMap (show WideAt.IsKeyLit (nkey _) from trivial) _ _⟩
  · intro x hx hxn
    simp at hxn
    rw [Maps.has_put_other (hne x hx hxn.2)]
    exact hn x hx hxn.1
/-- 'delete' at a map of ints. -/
theorem wpList_delF {ops : Array Oper} {rest : List Oper} {o : Oper} {a : Act} {w : World} {Q : Exit → Act → World → Prop} (hg : o.guard = none) (m x : Operand) (t e : TypeId) (hop : o.op = Op.call { callee := Callee.builtin Builtin.delete, args := #[m, x], argTypes := #[t, 3] })
    (ht : Tryd.prog.underlying t = some (.map 3 e)) (b n : Nat) (z : Value) (f : Int → Value) (h : MapF w b n z f) (k : Int) (hk : i64 k) (hm : a.eval m = .map (some b)) (hx : a.eval x = .int .i64 k)
    (hK : ∀ w', MapF w' b n z (fun j => if j = k then z else f j) → w.grownBy w' (some b) → wpList Tryd.prog ops Q rest (a.put o.dst (.tuple #[])) w') : wpList Tryd.prog ops Q (o :: rest) a w := by
  obtain ⟨D, hD, hf⟩ := h
  refine wpList_delete_own w hg m x t 3 hop e keyed3 ht hR b n D hm hD _ (.int .i64 k) hx (key64 hk) fun w' h1 h2 => hK w' ⟨_, h1, fun j => ?_⟩ h2.grown
  dsimp only
  by_cases e : j = k
  · rw [if_pos e, e]; exact Maps.atKey_del_same _
  · rw [if_neg e, Maps.atKey_del_other (by intro h; injection h with _ h; exact e h)]
    exact hf j
/-- The sets that wait. -/
def Wt (w : World) (b : Nat) (X : Nat → Prop) (S : List (List Int)) (k : Nat) : Prop := ∃ f : Int → Value, MapF w b S.length (.slice none 0 0) f ∧ ∀ (i : Nat) x, k ≤ i → S[i]? = some x → SlX w X x (f i)
theorem Wt.move {w w' : World} {b : Nat} {X X' : Nat → Prop} {S : List (List Int)} {k k' : Nat} (h : Wt w b X S k) (hb : w'.heap[b]? = w.heap[b]?) (hs : w.heap.size ≤ w'.heap.size) (hX : ∀ b, X b → b < w.heap.size → X' b ∧ w'.heap[b]? = w.heap[b]?) (hk : k ≤ k') : Wt w' b X' S k' := by
  obtain ⟨f, h1, h2⟩ := h
  exact ⟨f, h1.block hb, fun i x hi hx => (h2 i x (by omega) hx).move hs hX⟩
theorem Wt.made (w : World) (X : Nat → Prop) : Wt (w.alloc (.map #[] 0)) w.heap.size X [] 0 := ⟨_, MapF.made w _, fun i x _ h => by simp at h⟩
/-- Rows of a table. -/
def Rn (w : World) (base : Nat) (X : Nat → Prop) (R : List (List Int)) (v : Value) : Prop := ∃ gs, w.ownsRow base 23 1 v R.length gs ∧ ∀ (i : Nat) r, R[i]? = some r → ∃ u, gs[i]? = some u ∧ SlX w X r u
end Go.Proofs.YteamonmneoakpaaDoor

namespace Go.Proofs.YteamonmneoakpaaDoor
open Go.RowKit Go.Shelf Go.Lib Go.Great Go.Maps

def StOk (w : World) (ms mw : Nat) (S : List (List Int)) (f : Int → Value) (x : List Int) (v : Value) (r : Ending) (w' : World) : Prop :=
  (∃ i : Nat, S[i]? = some x ∧ r = .returned (.int .i64 (i : Int)) ∧ Below w.heap.size w w') ∨
  (x ∉ S ∧ r = .returned (.int .i64 (S.length : Int)) ∧ Nm w' ms (S ++ [x]) ∧ MapF w' mw (S.length + 1) (.slice none 0 0) (fun j => if j = (S.length : Int) then v else f j) ∧ Fz (fun k => k = ms ∨ k = mw) w w')
theorem zero23 (w : World) : (zeroValue 23).run Tryd.prog w = .ok (.slice none 0 0) w := by kernel_rfl
set_option maxHeartbeats 4000000 in
set_option maxRecDepth 100000 in
theorem state_any (β ms mw : Nat) (S : List (List Int)) (f : Int → Value) (x : List Int) (v : Value) (X : Nat → Prop) (w : World) (hb : Cells w β 112 #[.map (some ms), .map (some mw)]) (hN : Nm w ms S) (hS : S.length ≤ 5000)
    (hnn : ∀ x ∈ S, ∀ p ∈ x, (0 : Int) ≤ p) (hW : MapF w mw S.length (.slice none 0 0) f) (hx : SlX w X x v) (hxp : ∀ p ∈ x, 0 ≤ p ∧ p < 1024) (hxl : x.length ≤ 1024) (hP : PW w) (h1 : ms ≠ mw) (h2 : β ≠ ms) :
    Calls Tryd.prog 70 #[.pointer (some ⟨β, 0, none⟩), v] w (StOk w ms mw S f x v) := by
  obtain ⟨A, cap, rfl, his, _⟩ := hx.is
  have C := text_any x A cap w his hxp hxl hP
  have hlt : (txt x).length ≤ 10000 := by have := txt_len x hxp; omega
  have H := Lib.hid (And.intro hb (And.intro hN (And.intro hnn (And.intro hW (And.intro hxp (And.intro hlt (And.intro h1 h2)))))))
  have HC := Lib.hid C
  obtain ⟨n, hn⟩ : ∃ n, x.length = n := ⟨_, rfl⟩
  rw [hn] at HC ⊢
  clear hb hN hnn hW hx hxp hxl hP h1 h2 his C hlt hn
  go_enter Tryd.func70, Tryd.ntmps70
  go_wp2_with fail
  refine HC.out.mono ?_
  rintro r w2 ⟨rfl, hb2⟩
  have b2 : Cells w2 β 112 #[.map (some ms), .map (some mw)] := (hb2.block _ H.out.1.lt).trans H.out.1
  have c0 := b2.cell 0
  simp at c0
  have n2 : Nm w2 ms S := H.out.2.1.block (hb2.block _ H.out.2.1.lt)
  have f2 : MapF w2 mw S.length (.slice none 0 0) f := H.out.2.2.2.1.block (hb2.block _ H.out.2.2.2.1.lt)
  have H2 := Lib.hid (And.intro b2 (And.intro n2 (And.intro f2 hb2)))
  clear b2 n2 f2 hb2
  by_cases hmem : x ∈ S
  · obtain ⟨i, hi⟩ := List.getElem?_of_mem hmem
    have HI := Lib.hid hi
    clear hi hmem
    go_wp2_with (first
      | (refine wpList_lookNm_hit rfl (.tmp 14) (.tmp 15) rfl ms S H2.out.2.1 x H.out.2.2.2.2.2.1 i HI.out rfl rfl ?_)
      | fail)
    go_ret
    exact .inl ⟨i, HI.out, rfl, H2.out.2.2.2⟩
  · have HM := Lib.hid hmem
    clear hmem
    go_wp2_with (first
      | (refine wpList_lookNm_miss rfl (.tmp 14) (.tmp 15) rfl ms S H2.out.2.1 x (fun p hp => (H.out.2.2.2.2.1 p hp).1) H.out.2.2.2.2.2.1 HM.out rfl rfl ?_)
      | (refine wpList_lenNm rfl (.tmp 24) rfl ms S H2.out.2.1 rfl ?_)
      | (refine wpList_updNm rfl (.tmp 29) (.tmp 30) (.tmp 31) rfl ms S H2.out.2.1 (by omega) H.out.2.2.1 x (fun p hp => (H.out.2.2.2.2.1 p hp).1) H.out.2.2.2.2.2.1 HM.out rfl rfl rfl ?_
         intro w3 hn3 hg3
         have f3 : MapF w3 mw S.length (.slice none 0 0) f := H2.out.2.2.1.block (hg3.block _ H2.out.2.2.1.lt (by have := H.out.2.2.2.2.2.2.1; simp; omega))
         have b3 : Cells w3 β 112 #[.map (some ms), .map (some mw)] := (hg3.block _ H2.out.1.lt (by have := H.out.2.2.2.2.2.2.2; simp; omega)).trans H2.out.1
         have x3 : Fz (fun k => k = ms ∨ k = mw) w w3 := (Fz.of_below H2.out.2.2.2).trans (Fz.of_grown hg3 (fun k e => by injection e with e; exact .inl e.symm))
         have c1 := b3.cell 1
         simp at c1
         have H3 := Lib.hid (And.intro hn3 (And.intro f3 x3))
         clear hn3 hg3 f3 b3 x3)
      | (refine wpList_updateF rfl (.tmp 35) (.tmp 36) (.tmp 37) 110 23 rfl Tryd.underlying110 mw S.length (.slice none 0 0) f H3.out.2.1 (by unfold maxLen; omega) (S.length : Int) (nat64 (by omega)) (.slice A n cap) rfl rfl rfl ?_
         intro w4 hf4 hg4
         have n4 : Nm w4 ms (S ++ [x]) := H3.out.1.block (hg4.block _ H3.out.1.lt (by have := H.out.2.2.2.2.2.2.1; simp; omega))
         have x4 : Fz (fun k => k = ms ∨ k = mw) w w4 := H3.out.2.2.trans (Fz.of_grown hg4 (fun k e => by injection e with e; exact .inr e.symm))
         have H4 := Lib.hid (And.intro n4 (And.intro hf4 x4))
         clear hf4 hg4 n4 x4)
      | fail)
    go_ret
    exact .inr ⟨HM.out, rfl, H4.out⟩
end Go.Proofs.YteamonmneoakpaaDoor

namespace Go.Proofs.YteamonmneoakpaaDoor
open Go.RowKit Go.Shelf Go.Lib Go.Great Go.Maps

def u64C (l : List Nat) : List Value := l.map fun (x : Nat) => Value.int .u64 (x : Int)
theorem u64C_len (l : List Nat) : (u64C l).length = l.length := by simp [u64C]
theorem u64C_snoc (l : List Nat) (x : Nat) : u64C (l ++ [x]) = u64C l ++ [.int .u64 (x : Int)] := by simp [u64C]
/-- The blocks that rows and sets may lie in. -/
def Xo (G : Nat) (vN vT : Value) (b : Nat) : Prop := G + 5 ≤ b ∧ vN.ownBlock ≠ some b ∧ vT.ownBlock ≠ some b
structure Bd (w0 w : World) (G k : Nat) (X : Nat → Prop) (S R : List (List Int)) (T : List Nat) (vN vT : Value) : Prop where
  sz : G + 5 ≤ w.heap.size
  res : Cells w G 54 #[.slice none 0 0, .slice none 0 0]
  d : Cells w (G + 1) 54 #[vN, vT]
  b : Cells w (G + 4) 112 #[.map (some (G + 2)), .map (some (G + 3))]
  nm : Nm w (G + 2) S
  wt : Wt w (G + 3) X S k
  rn : Rn w (G + 5) X R vN
  rt : w.ownsRow (G + 5) 37 1 vT T.length (u64C T)
  ne : ∀ g, vN.ownBlock = some g → vT.ownBlock ≠ some g
  low : Below G w0 w
theorem Rn.own {w : World} {base : Nat} {X : Nat → Prop} {R : List (List Int)} {v : Value} (h : Rn w base X R v) : ∃ gs, w.ownsRow base 23 1 v R.length gs := by obtain ⟨gs, h, _⟩ := h; exact ⟨gs, h⟩
theorem Rn.lt {w : World} {base : Nat} {X : Nat → Prop} {R : List (List Int)} {v : Value} (h : Rn w base X R v) : ∀ g, v.ownBlock = some g → base ≤ g ∧ g < w.heap.size := by
  obtain ⟨gs, h, _⟩ := h; exact own_block_lt h
theorem Rn.move {w w' : World} {base : Nat} {X X' : Nat → Prop} {R : List (List Int)} {v : Value} {o : Option Nat} (h : Rn w base X R v) (hg : w.grownBy w' o) (hne : v.ownBlock = none ∨ v.ownBlock ≠ o) (hX : ∀ b, X b → b < w.heap.size → X' b ∧ o ≠ some b) : Rn w' base X' R v := by
  obtain ⟨gs, h1, h2⟩ := h
  refine ⟨gs, h1.kept hg hne, fun i r hr => ?_⟩
  obtain ⟨u, h3, h4⟩ := h2 i r hr
  exact ⟨u, h3, h4.move hg.size (fun b hb hl => ⟨(hX b hb hl).1, hg.block b hl (fun e => (hX b hb hl).2 e.symm)⟩)⟩
/-- New blocks alone. -/
theorem Bd.below {w0 w w' : World} {G k : Nat} {X : Nat → Prop} {S R : List (List Int)} {T : List Nat} {vN vT : Value} (h : Bd w0 w G k X S R T vN vT) (hb : Below w.heap.size w w') : Bd w0 w' G k X S R T vN vT :=
  have g := grown_of_below hb
  ⟨by have := hb.size; have := h.sz; omega, (hb.block _ h.res.lt).trans h.res, (hb.block _ h.d.lt).trans h.d, (hb.block _ h.b.lt).trans h.b, h.nm.block (hb.block _ h.nm.lt),
    h.wt.move (hb.block _ (by obtain ⟨f, h1, _⟩ := h.wt; exact h1.lt)) hb.size (fun b hx hl => ⟨hx, hb.block b hl⟩) (Nat.le_refl _), h.rn.move g (by cases vN.ownBlock <;> simp) (fun b hx _ => ⟨hx, by simp⟩),
    h.rt.kept g (by cases vT.ownBlock <;> simp), h.ne, h.low.trans (hb.mono (by have := h.sz; omega))⟩
theorem Bd.congr {w0 w : World} {G k : Nat} {X X' : Nat → Prop} {S R : List (List Int)} {T : List Nat} {vN vT : Value} (h : Bd w0 w G k X S R T vN vT) (hX : ∀ b, X b → b < w.heap.size → X' b) : Bd w0 w G k X' S R T vN vT :=
  ⟨h.sz, h.res, h.d, h.b, h.nm, h.wt.move rfl (Nat.le_refl _) (fun b hx hl => ⟨hX b hx hl, rfl⟩) (Nat.le_refl _), by
    obtain ⟨gs, h1, h2⟩ := h.rn
    exact ⟨gs, h1, fun i r hr => by obtain ⟨u, h3, h4⟩ := h2 i r hr; exact ⟨u, h3, h4.move (Nat.le_refl _) (fun b hx hl => ⟨hX b hx hl, rfl⟩)⟩⟩, h.rt, h.ne, h.low⟩
/-- A block of the call's own that nothing of it lies in. -/
theorem Bd.grown {w0 w w' : World} {G k c : Nat} {X : Nat → Prop} {S R : List (List Int)} {T : List Nat} {vN vT : Value} (h : Bd w0 w G k X S R T vN vT) (hg : w.grownBy w' (some c)) (hc : Xo G vN vT c) (hx : ∀ b, X b → b ≠ c) : Bd w0 w' G k X S R T vN vT :=
  have nb : ∀ b, b < G + 5 → b < w.heap.size → w'.heap[b]? = w.heap[b]? := fun b hb hl => hg.block b hl (fun e => by injection e with e; have := hc.1; omega)
  ⟨by have := hg.size; have := h.sz; omega, (nb _ (by omega) h.res.lt).trans h.res, (nb _ (by omega) h.d.lt).trans h.d, (nb _ (by omega) h.b.lt).trans h.b, h.nm.block (nb _ (by omega) h.nm.lt),
    h.wt.move (nb _ (by omega) (by obtain ⟨f, h1, _⟩ := h.wt; exact h1.lt)) hg.size (fun b hb hl => ⟨hb, hg.block b hl (fun e => by injection e with e; exact hx b hb e)⟩) (Nat.le_refl _),
    h.rn.move hg (.inr hc.2.1) (fun b hb _ => ⟨hb, fun e => by injection e with e; exact hx b hb e.symm⟩), h.rt.kept hg (.inr hc.2.2), h.ne,
    h.low.trans ⟨hg.os, hg.tape, hg.output, hg.size, fun j hj => nb j (by omega) (by have := h.sz; omega)⟩⟩
/-- The set of the state is taken out. -/
theorem Bd.deleted {w0 w w' : World} {G k : Nat} {X : Nat → Prop} {S R : List (List Int)} {T : List Nat} {vN vT : Value} (h : Bd w0 w G k X S R T vN vT) (hX : ∀ b, X b → G + 5 ≤ b) {f : Int → Value} (hf : ∀ (i : Nat) x, k ≤ i → S[i]? = some x → SlX w X x (f i))
    (hm : MapF w' (G + 3) S.length (.slice none 0 0) (fun j => if j = (k : Int) then .slice none 0 0 else f j)) (hg : w.grownBy w' (some (G + 3))) : Bd w0 w' G (k + 1) X S R T vN vT := by
  have nb : ∀ b, b ≠ G + 3 → b < w.heap.size → w'.heap[b]? = w.heap[b]? := fun b hb hl => hg.block b hl (fun e => by injection e with e; exact hb e)
  have hn : vN.ownBlock ≠ some (G + 3) := fun e => by have := (h.rn.lt _ e).1; omega
  have ht : vT.ownBlock ≠ some (G + 3) := fun e => by have := (own_block_lt h.rt _ e).1; omega
  refine ⟨by have := hg.size; have := h.sz; omega, (nb _ (by omega) h.res.lt).trans h.res, (nb _ (by omega) h.d.lt).trans h.d, (nb _ (by omega) h.b.lt).trans h.b, h.nm.block (nb _ (by omega) h.nm.lt), ⟨_, hm, fun i x hi hx => ?_⟩,
    h.rn.move hg (.inr hn) (fun b hb _ => ⟨hb, fun e => by injection e with e; have := hX b hb; omega⟩), h.rt.kept hg (.inr ht), h.ne, h.low.trans ⟨hg.os, hg.tape, hg.output, hg.size, fun j hj => nb j (by omega) (by have := h.sz; omega)⟩⟩
  rw [if_neg (by omega)]
  exact (hf i x (by omega) hx).move hg.size (fun b hb hl => ⟨hb, nb b (by have := hX b hb; omega) hl⟩)
/-- A set more. -/
theorem Bd.found {w0 w w' : World} {G k : Nat} {X : Nat → Prop} {S R : List (List Int)} {T : List Nat} {vN vT : Value} (h : Bd w0 w G k X S R T vN vT) (hX : ∀ b, X b → G + 5 ≤ b) {f : Int → Value} (hf : ∀ (i : Nat) x, k ≤ i → S[i]? = some x → SlX w X x (f i))
    {x : List Int} {v : Value} (hv : SlX w X x v) (hn : Nm w' (G + 2) (S ++ [x])) (hm : MapF w' (G + 3) (S.length + 1) (.slice none 0 0) (fun j => if j = (S.length : Int) then v else f j)) (hg : Fz (fun b => b = G + 2 ∨ b = G + 3) w w') : Bd w0 w' G k X (S ++ [x]) R T vN vT := by
  have nb : ∀ b, b ≠ G + 2 → b ≠ G + 3 → b < w.heap.size → w'.heap[b]? = w.heap[b]? := fun b h2 h3 hl => hg.block b hl (fun e => by rcases e with e | e; exact h2 e; exact h3 e)
  have nx : ∀ b, X b → b < w.heap.size → X b ∧ w'.heap[b]? = w.heap[b]? := fun b hb hl => ⟨hb, nb b (by have := hX b hb; omega) (by have := hX b hb; omega) hl⟩
  have own : ∀ {e n : Nat} {u : Value} {xs : List Value}, w.ownsRow (G + 5) e 1 u n xs → w'.ownsRow (G + 5) e 1 u n xs := fun {e n u xs} ho => by
    refine ⟨ho.1, ?_⟩
    rcases ho.2 with hn | ⟨g, cap, cur, h1, h2, h3, rest⟩
    · exact .inl hn
    · exact .inr ⟨g, cap, cur, h1, h2, (nb g (by omega) (by omega) (Array.getElem?_eq_some_iff.1 h3).1).trans h3, rest⟩
  refine ⟨by have := hg.size; have := h.sz; omega, (nb _ (by omega) (by omega) h.res.lt).trans h.res, (nb _ (by omega) (by omega) h.d.lt).trans h.d, (nb _ (by omega) (by omega) h.b.lt).trans h.b, hn, ⟨_, by simpa using hm, fun i y hi hy => ?_⟩, ?_, own h.rt, h.ne,
    h.low.trans ⟨hg.os, hg.tape, hg.output, hg.size, fun j hj => nb j (by omega) (by omega) (by have := h.sz; omega)⟩⟩
  · rcases Nat.lt_or_ge i S.length with hlt | hge
    · rw [List.getElem?_append_left hlt] at hy
      rw [if_neg (by omega)]
      exact (hf i y hi hy).move hg.size nx
    · have hl2 := (List.getElem?_eq_some_iff.1 hy).1
      simp at hl2
      obtain rfl : i = S.length := by omega
      simp at hy
      subst hy
      rw [if_pos rfl]
      exact hv.move hg.size nx
  · obtain ⟨gs, h1, h2⟩ := h.rn
    exact ⟨gs, own h1, fun i r hr => by obtain ⟨u, h3, h4⟩ := h2 i r hr; exact ⟨u, h3, h4.move hg.size nx⟩⟩
/-- A row more. -/
theorem Bd.row {w0 w w' : World} {G k g cap : Nat} {X : Nat → Prop} {S R : List (List Int)} {T : List Nat} {vN vT u : Value} {r : List Int} (h : Bd w0 w G k X S R T vN vT) (hX : ∀ b, X b → Xo G vN vT b) (hu : SlX w X r u)
    {gs : List Value} (ho : w'.ownsRow (G + 5) 23 1 (.slice (some ⟨g, 0, none⟩) (R.length + 1) cap) (R.length + 1) (gs ++ [u])) (hgs : ∀ (i : Nat) r, R[i]? = some r → ∃ u, gs[i]? = some u ∧ SlX w X r u) (hgl : gs.length = R.length)
    (hg : w.grownBy w' vN.ownBlock) (hat : vN.ownBlock = some g ∨ g = w.heap.size) :
    Bd w0 (w'.setCell ⟨G + 1, 0, none⟩ (.slice (some ⟨g, 0, none⟩) (R.length + 1) cap)) G k (Xo G (.slice (some ⟨g, 0, none⟩) (R.length + 1) cap) vT) S (R ++ [r]) T (.slice (some ⟨g, 0, none⟩) (R.length + 1) cap) vT := by
  have nb : ∀ b, vN.ownBlock ≠ some b → b ≠ G + 1 → b < w.heap.size → (w'.setCell ⟨G + 1, 0, none⟩ (.slice (some ⟨g, 0, none⟩) (R.length + 1) cap)).heap[b]? = w.heap[b]? := fun b hb h1 hl => by
    rw [Below.heap_setCell _ _ _ _ (by simp; omega)]
    exact hg.block b hl (fun e => hb e.symm)
  have hge : G + 5 ≤ g := (own_block_lt ho g rfl).1
  have low : ∀ b, b < G + 5 → vN.ownBlock ≠ some b := fun b hb e => by have := (h.rn.lt _ e).1; omega
  have hgX : ∀ b, X b → b < w.heap.size → Xo G (.slice (some ⟨g, 0, none⟩) (R.length + 1) cap) vT b := fun b hb hl => ⟨(hX b hb).1, fun e => by
    have e : g = b := by injection e
    subst e
    rcases hat with hat | hat
    · exact (hX g hb).2.1 hat
    · omega, (hX b hb).2.2⟩
  have nx : ∀ b, X b → b < w.heap.size → Xo G (.slice (some ⟨g, 0, none⟩) (R.length + 1) cap) vT b ∧ (w'.setCell ⟨G + 1, 0, none⟩ (.slice (some ⟨g, 0, none⟩) (R.length + 1) cap)).heap[b]? = w.heap[b]? := fun b hb hl =>
    ⟨hgX b hb hl, nb b (hX b hb).2.1 (by have := (hX b hb).1; omega) hl⟩
  have ss : w.heap.size ≤ (w'.setCell ⟨G + 1, 0, none⟩ (.slice (some ⟨g, 0, none⟩) (R.length + 1) cap)).heap.size := by have := hg.size; simp; omega
  have hd : Cells w' (G + 1) 54 #[vN, vT] := (hg.block _ h.d.lt (fun e => low (G + 1) (by omega) e.symm)).trans h.d
  refine ⟨by have := h.sz; omega, (nb _ (low _ (by omega)) (by omega) h.res.lt).trans h.res, hd.set 0 _, (nb _ (low _ (by omega)) (by omega) h.b.lt).trans h.b, h.nm.block (nb _ (low _ (by omega)) (by omega) h.nm.lt),
    h.wt.move (nb _ (low _ (by omega)) (by omega) (by obtain ⟨f, h1, _⟩ := h.wt; exact h1.lt)) ss nx (Nat.le_refl _), ⟨gs ++ [u], ?_, fun i q hq => ?_⟩, ?_, fun g' e => ?_, ?_⟩
  · rw [List.length_append]
    exact ho.kept (grown_setc _ _ _ _) (.inr (by show some g ≠ some (G + 1); intro e; injection e with e; omega))
  · rcases Nat.lt_or_ge i R.length with hlt | hge
    · rw [List.getElem?_append_left hlt] at hq
      obtain ⟨u', h3, h4⟩ := hgs i q hq
      exact ⟨u', by rw [List.getElem?_append_left (by omega)]; exact h3, h4.move ss nx⟩
    · have hl2 := (List.getElem?_eq_some_iff.1 hq).1
      simp at hl2
      obtain rfl : i = R.length := by omega
      simp at hq
      subst hq
      exact ⟨u, by rw [← hgl]; simp, hu.move ss nx⟩
  · refine (h.rt.kept hg ?_).kept (grown_setc _ _ _ _) ?_
    · rcases hv : vT.ownBlock with _ | t
      · exact .inl rfl
      · exact .inr (fun e => h.ne t e.symm hv)
    · rcases hv : vT.ownBlock with _ | t
      · exact .inl rfl
      · exact .inr (fun e => by injection e with e; have := (own_block_lt h.rt t hv).1; omega)
  · have e : g = g' := by injection e
    subst e
    intro hv
    rcases hat with hat | hat
    · exact h.ne g hat hv
    · have := (own_block_lt h.rt g hv).2; omega
  · refine h.low.trans ⟨hg.os, hg.tape, hg.output, ss, fun j hj => nb j (low j (by omega)) (by omega) (by have := h.sz; omega)⟩
/-- What a state more tells. -/
theorem Bd.tell {w0 w w' : World} {G k g cap t : Nat} {X : Nat → Prop} {S R : List (List Int)} {T : List Nat} {vN vT : Value} (h : Bd w0 w G k X S R T vN vT) (hX : ∀ b, X b → Xo G vN vT b)
    (ho : w'.ownsRow (G + 5) 37 1 (.slice (some ⟨g, 0, none⟩) (T.length + 1) cap) (T.length + 1) (u64C T ++ [.int .u64 (t : Int)])) (hg : w.grownBy w' vT.ownBlock) (hat : vT.ownBlock = some g ∨ g = w.heap.size) :
    Bd w0 (w'.setCell ⟨G + 1, 1, none⟩ (.slice (some ⟨g, 0, none⟩) (T.length + 1) cap)) G k (Xo G vN (.slice (some ⟨g, 0, none⟩) (T.length + 1) cap)) S R (T ++ [t]) vN (.slice (some ⟨g, 0, none⟩) (T.length + 1) cap) := by
  have nb : ∀ b, vT.ownBlock ≠ some b → b ≠ G + 1 → b < w.heap.size → (w'.setCell ⟨G + 1, 1, none⟩ (.slice (some ⟨g, 0, none⟩) (T.length + 1) cap)).heap[b]? = w.heap[b]? := fun b hb h1 hl => by
    rw [Below.heap_setCell _ _ _ _ (by simp; omega)]
    exact hg.block b hl (fun e => hb e.symm)
  have hge : G + 5 ≤ g := (own_block_lt ho g rfl).1
  have low : ∀ b, b < G + 5 → vT.ownBlock ≠ some b := fun b hb e => by have := (own_block_lt h.rt _ e).1; omega
  have hgX : ∀ b, X b → b < w.heap.size → Xo G vN (.slice (some ⟨g, 0, none⟩) (T.length + 1) cap) b := fun b hb hl => ⟨(hX b hb).1, (hX b hb).2.1, fun e => by
    have e : g = b := by injection e
    subst e
    rcases hat with hat | hat
    · exact (hX g hb).2.2 hat
    · omega⟩
  have nx : ∀ b, X b → b < w.heap.size → Xo G vN (.slice (some ⟨g, 0, none⟩) (T.length + 1) cap) b ∧ (w'.setCell ⟨G + 1, 1, none⟩ (.slice (some ⟨g, 0, none⟩) (T.length + 1) cap)).heap[b]? = w.heap[b]? := fun b hb hl =>
    ⟨hgX b hb hl, nb b (hX b hb).2.2 (by have := (hX b hb).1; omega) hl⟩
  have ss : w.heap.size ≤ (w'.setCell ⟨G + 1, 1, none⟩ (.slice (some ⟨g, 0, none⟩) (T.length + 1) cap)).heap.size := by have := hg.size; simp; omega
  have hd : Cells w' (G + 1) 54 #[vN, vT] := (hg.block _ h.d.lt (fun e => low (G + 1) (by omega) e.symm)).trans h.d
  have hNT : ∀ g', vN.ownBlock = some g' → vT.ownBlock ≠ some g' := h.ne
  refine ⟨by have := h.sz; omega, (nb _ (low _ (by omega)) (by omega) h.res.lt).trans h.res, hd.set 1 _, (nb _ (low _ (by omega)) (by omega) h.b.lt).trans h.b, h.nm.block (nb _ (low _ (by omega)) (by omega) h.nm.lt),
    h.wt.move (nb _ (low _ (by omega)) (by omega) (by obtain ⟨f, h1, _⟩ := h.wt; exact h1.lt)) ss nx (Nat.le_refl _), ?_, ?_, fun g' e => ?_, ?_⟩
  · obtain ⟨gs, h1, h2⟩ := h.rn
    refine ⟨gs, (h1.kept hg ?_).kept (grown_setc _ _ _ _) ?_, fun i q hq => ?_⟩
    · rcases hv : vN.ownBlock with _ | t
      · exact .inl rfl
      · exact .inr (fun e => h.ne t hv e.symm)
    · rcases hv : vN.ownBlock with _ | t
      · exact .inl rfl
      · exact .inr (fun e => by injection e with e; have := (own_block_lt h1 t hv).1; omega)
    · obtain ⟨u', h3, h4⟩ := h2 i q hq
      exact ⟨u', h3, h4.move ss nx⟩
  · rw [List.length_append, u64C_snoc]
    exact ho.kept (grown_setc _ _ _ _) (.inr (by show some g ≠ some (G + 1); intro e; injection e with e; omega))
  · intro hv
    have e2 : g = g' := by injection hv
    subst e2
    rcases hat with hat | hat
    · exact h.ne g e hat
    · have := (h.rn.lt g e).2; omega
  · refine h.low.trans ⟨hg.os, hg.tape, hg.output, ss, fun j hj => nb j (low j (by omega)) (by omega) (by have := h.sz; omega)⟩
end Go.Proofs.YteamonmneoakpaaDoor

namespace Go.Proofs.YteamonmneoakpaaDoor
open Go.RowKit Go.Shelf Go.Lib Go.Great Go.Maps

/-- A row's block while it is filled. -/
def rowC (r : List Int) : Array Value := ((r.map fun x => Value.int .i64 x) ++ List.replicate (37 - r.length) (Value.int .i64 0)).toArray
theorem make37 (w : World) : (Instr.makeSlice 23 (.int .i64 37) (.int .i64 37)).run Tryd.prog w = .ok (.slice (some ⟨w.heap.size, 0, none⟩) 37 37) (w.alloc (.cells (rowC []) 3)) := by kernel_rfl
theorem rowC_set (r : List Int) (v : Int) (h : r.length < 37) : (rowC r).setIfInBounds r.length (.int .i64 v) = rowC (r ++ [v]) := by
  unfold rowC
  obtain ⟨d, hd⟩ : ∃ d, 37 - r.length = d + 1 := ⟨36 - r.length, by omega⟩
  have e2 : 37 - (r ++ [v]).length = d := by simp; omega
  rw [hd, e2, List.replicate_succ]
  simp
theorem rowC_get (r : List Int) (i : Nat) (h : i < 37) : ∃ u, (rowC r)[i]? = some u := by
  have : i < (rowC r).size := by unfold rowC; simp; omega
  exact ⟨_, Array.getElem?_eq_getElem this⟩
theorem rowC_full {r : List Int} (h : r.length = 37) : rowC r = (r.map fun x => Value.int .i64 x).toArray := by
  unfold rowC
  rw [h]; simp
def Xi (G : Nat) (vN vT : Value) (ρ b : Nat) : Prop := Xo G vN vT b ∧ b ≠ ρ
def InRel (w0 : World) (se : Bool) (s : St) (S : List (List Int)) (x : List Int) (v : Value) (R : List (List Int)) (T : List Nat) (vN vT : Value) (k ρ m : Nat) (w : World) : Prop :=
  ∃ S' r, r.length = m ∧ Ext S S' ∧ Sv se s S' ∧ S'.length ≤ S.length + m ∧ RowOk se s S' x r ∧ Bd w0 w w0.heap.size (k + 1) (Xi w0.heap.size vN vT ρ) S' R T vN vT ∧ Cells w ρ 3 (rowC r) ∧ SlX w (Xi w0.heap.size vN vT ρ) x v
theorem in_start {w0 w : World} {se : Bool} {s : St} {S : List (List Int)} {x : List Int} {v : Value} {R : List (List Int)} {T : List Nat} {vN vT : Value} {k : Nat} (hs : Sv se s S) (hD : Bd w0 w w0.heap.size (k + 1) (Xo w0.heap.size vN vT) S R T vN vT)
    (hv : SlX w (Xo w0.heap.size vN vT) x v) : InRel w0 se s S x v R T vN vT k w.heap.size 0 (w.alloc (.cells (rowC []) 3)) ∧ Xo w0.heap.size vN vT w.heap.size := by
  have bb := below_new w (.cells (rowC []) 3)
  refine ⟨⟨S, [], rfl, Ext.refl S, hs, by omega, fun m v hm => by simp at hm, (hD.congr (fun b hb hl => ⟨hb, by omega⟩)).below bb, cells_new w _ _, hv.move bb.size (fun b hb hl => ⟨⟨hb, by omega⟩, bb.block b hl⟩)⟩, ?_⟩
  exact ⟨hD.sz, fun e => by have := (hD.rn.lt _ e).2; omega, fun e => by have := (own_block_lt hD.rt _ e).2; omega⟩
theorem in_step {w0 wr w3 w4 : World} {se : Bool} {s : St} {S S' : List (List Int)} {x r : List Int} {v v' : Value} {R : List (List Int)} {T : List Nat} {vN vT : Value} {k ρ i0 : Nat} {f' : Int → Value} {e : Ending} (hm : r.length < 37) (he : Ext S S') (hs : Sv se s S') (hl : S'.length ≤ S.length + r.length)
    (ho : RowOk se s S' x r) (hx : S[i0]? = some x) (hD : Bd w0 wr w0.heap.size (k + 1) (Xi w0.heap.size vN vT ρ) S' R T vN vT) (hc : Cells wr ρ 3 (rowC r)) (hv : SlX wr (Xi w0.heap.size vN vT ρ) x v) (hρ : Xo w0.heap.size vN vT ρ)
    (hb3 : Below wr.heap.size wr w3) (hv' : SlX w3 (Xi w0.heap.size vN vT ρ) (nxt se s x r.length) v') (hfs : ∀ (i : Nat) y, k + 1 ≤ i → S'[i]? = some y → SlX w3 (Xi w0.heap.size vN vT ρ) y (f' i))
    (hst : StOk w3 (w0.heap.size + 2) (w0.heap.size + 3) S' f' (nxt se s x r.length) v' e w4) :
    ∃ j : Nat, e = .returned (.int .i64 (j : Int)) ∧ (∃ old, w4.cell? ⟨ρ, r.length, none⟩ = some old) ∧ w4.frozen? ⟨ρ, r.length, none⟩ = false ∧ InRel w0 se s S x v R T vN vT k ρ (r.length + 1) (w4.setCell ⟨ρ, r.length, none⟩ (.int .i64 (j : Int))) := by
  have d3 := hD.below hb3
  have c3 : Cells w3 ρ 3 (rowC r) := (hb3.block _ hc.lt).trans hc
  have v3 := hv.move hb3.size (fun b hb hl => ⟨hb, hb3.block b hl⟩)
  have fin : ∀ (S'' : List (List Int)) (j : Nat) (w4 : World), Ext S' S'' → Sv se s S'' → S''.length ≤ S'.length + 1 → S''[j]? = some (nxt se s x r.length) → Bd w0 w4 w0.heap.size (k + 1) (Xi w0.heap.size vN vT ρ) S'' R T vN vT → Cells w4 ρ 3 (rowC r) → SlX w4 (Xi w0.heap.size vN vT ρ) x v →
      (∃ old, w4.cell? ⟨ρ, r.length, none⟩ = some old) ∧ w4.frozen? ⟨ρ, r.length, none⟩ = false ∧ InRel w0 se s S x v R T vN vT k ρ (r.length + 1) (w4.setCell ⟨ρ, r.length, none⟩ (.int .i64 (j : Int))) := by
    intro S'' j w4 e2 s2 l2 j2 d4 c4 v4
    obtain ⟨u, hu⟩ := rowC_get r r.length hm
    have hg := grown_setc w4 ρ r.length (.int .i64 (j : Int))
    refine ⟨⟨u, by rw [c4.cell]; exact hu⟩, c4.froz _, S'', r ++ [(j : Int)], by simp, he.trans e2, s2, by omega, (ho.ext e2).snoc j2, d4.grown hg hρ (fun b hb => hb.2), ?_, v4.move hg.size (fun b hb hl => ⟨hb, hg.block b hl (fun e => by injection e with e; exact hb.2 e)⟩)⟩
    have := c4.set r.length (.int .i64 (j : Int))
    rw [rowC_set r _ hm] at this
    exact this
  rcases hst with ⟨j, hj, rfl, hb4⟩ | ⟨hn, rfl, hnm, hmf, hg⟩
  · exact ⟨j, rfl, fin S' j w4 (Ext.refl _) hs (by omega) hj (d3.below hb4) ((hb4.block _ c3.lt).trans c3) (v3.move hb4.size (fun b hb hl => ⟨hb, hb4.block b hl⟩))⟩
  · have d4 := d3.found (fun b hb => hb.1.1) hfs hv' hnm hmf hg
    have hk := hρ.1
    exact ⟨S'.length, rfl, fin (S' ++ [nxt se s x r.length]) S'.length w4 ⟨_, rfl⟩ (hs.snoc (he.get hx) hm hn) (by simp) (by simp) d4 ((hg.block _ c3.lt (by omega)).trans c3)
      (v3.move hg.size (fun b hb hl => ⟨hb, hg.block b hl (by have := hb.1.1; omega)⟩))⟩
end Go.Proofs.YteamonmneoakpaaDoor

