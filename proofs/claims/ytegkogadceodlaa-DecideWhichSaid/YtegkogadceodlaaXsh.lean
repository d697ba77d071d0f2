/-
  An argument that is a meaning (two lists of classes, rules of expressions), as it lies in memory; a list of numbers.
  Contracts: a side of any expression: search, begins, closes, given how Matches answers.
  Contract: search.
  Contracts: the functions that begins and closes hand to search.
  Contracts: begins, closes.
  Contracts: which's function and slices.IndexFunc, of any patterns.
  What a reading's lists are: of each place where it begins in the marks; a reading as it lies.
  Contract: reading.which, of any reading.
  Contract: reading.breaks, of any reading.
  Contracts: decide.Breaks, decide.Which, of any meaning and any list.
-/
import Derived.Deep.Slices
import Derived.Deep.MidRow
import Derived.PinnedBridge
import Derived.ProofKit
import Derived.OpenShut
import Derived.Handed
import Derived.Test.YtegkogadceodlaaRows
import Derived.Test.YtegkogadceodlaaXsg
import Derived.BigQuiet
import Derived.Deep.CutRange
import Derived.Lib.QuietBelow
import Derived.Test.YtegkogadceodlaaXsf
namespace Go.Proofs.Ytegkogadceodlaa
open Go.ChangeShapes Go.WideShapes Go.ChangeAt Go.RowKit Go.Shelf
open Go.Lib

instance : Inhabited E := ⟨.mk 0 0 []⟩
instance : Inhabited Ru := ⟨⟨.mk 0 0 [], .mk 0 0 [], false⟩⟩
theorem own : ownKnob Try.prog.godebug = none := by kernel_rfl
theorem laidOut : laidOutB Try.prog = true := by kernel_rfl
theorem cells24 : Try.prog.cellsOf 24 = 3 := by kernel_rfl
theorem cells3 : Try.prog.cellsOf 3 = 1 := by kernel_rfl
theorem cells4 : Try.prog.cellsOf 4 = 1 := by kernel_rfl
theorem cells22 : Try.prog.cellsOf 22 = 1 := by kernel_rfl
theorem cells25 : Try.prog.cellsOf 25 = 1 := by kernel_rfl
theorem cells48 : Try.prog.cellsOf 48 = 1 := by kernel_rfl
theorem cells50 : Try.prog.cellsOf 50 = 3 := by kernel_rfl
theorem cells106 : Try.prog.cellsOf 106 = 7 := by kernel_rfl
section
variable {H : Type} {enc : TypeId × Value → H} {W : World}
set_option maxRecDepth 100000 in
theorem int_cell {n : Nat} {v : Value} {x : DataW H × List MemPlace} (h : DataW.trod enc Try.prog W 0 (fun _ => true) true n 3 [v] = some x) : ∃ a, v = .int .i64 a ∧ i64 a := by
  obtain ⟨a, e, _, w⟩ := DataW.trod_int Try.underlying3 h
  have b : -9223372036854775808 ≤ a ∧ a ≤ 9223372036854775807 := by simpa [Lit.wf, IntKind.min, IntKind.max, IntKind.signed, IntKind.bits] using w
  exact ⟨a, by simpa using e, b⟩
set_option maxRecDepth 100000 in
/-- The cells of one expression. -/
theorem nd_cells : ∀ fuel, (∀ cs (x : DataW H × List MemPlace), DataW.trod enc Try.prog W 0 (fun _ => true) true fuel 24 cs = some x → ∃ (e : E) (A : Option Addr) (cap : Nat), cs = [.int .i64 e.k, .int .i64 e.c, .slice A e.ks.length cap] ∧ i64 e.k ∧ i64 e.c ∧ KsAt W W.heap.size e.ks A cap) ∧
    (∀ cs (x : DataW H × List MemPlace), DataW.trod enc Try.prog W 0 (fun _ => true) true fuel 22 cs = some x → ∃ (ks : List E) (A : Option Addr) (cap : Nat), cs = [.slice A ks.length cap] ∧ KsAt W W.heap.size ks A cap) := by
  intro fuel
  induction fuel with
  | zero => exact ⟨fun cs x h => by simp [DataW.trod] at h, fun cs x h => by simp [DataW.trod] at h⟩
  | succ n ih =>
    constructor
    · intro cs x h
      obtain ⟨xs, m, hm, _, hlen, hxl, hf⟩ := DataW.trod_struct Try.underlying24 h
      obtain rfl : m = n := by omega
      rw [cells24] at hlen
      have hxl : xs.length = 3 := hxl
      match cs, hlen, xs, hxl with
      | [c0, c1, c2], _, [x0, x1, x2], _ =>
        have h0 := hf 0 _ rfl
        have h1 := hf 1 _ rfl
        have h2 := hf 2 _ rfl
        simp [cells3] at h0 h1
        simp [cells22] at h2
        obtain ⟨k, rfl, hk⟩ := int_cell h0
        obtain ⟨c, rfl, hc⟩ := int_cell h1
        obtain ⟨ks, A, cap, he, hks⟩ := ih.2 _ _ h2
        simp at he
        subst he
        exact ⟨.mk k c ks, A, cap, rfl, hk, hc, hks⟩
    · intro cs x h
      rcases DataW.trod_slice Try.underlying22 h with ⟨rfl, _⟩ | ⟨a, len, cap, elems, rest, m, hm, rfl, _, _, hl, hcm, hlen, hel, _, _⟩
      · exact ⟨[], none, 0, rfl, ⟨by simp, by simp, by simp, fun hn => absurd rfl hn⟩⟩
      · obtain rfl : m = n := by omega
        rw [cells24] at hel
        have each : ∀ i, i < len → ∃ e : E, ∃ (A : Option Addr) (cp : Nat), W.cell? ((a.add (i * 3)).add 0) = some (.int .i64 e.k) ∧ W.cell? ((a.add (i * 3)).add 1) = some (.int .i64 e.c) ∧ W.cell? ((a.add (i * 3)).add 2) = some (.slice A e.ks.length cp) ∧ i64 e.k ∧ i64 e.c ∧ KsAt W W.heap.size e.ks A cp := by
          intro i hi
          have key := hel i hi
          rw [List.getElem?_eq_getElem (by omega)] at key
          obtain ⟨cs', h1, h2⟩ := Option.bind_eq_some_iff.1 key
          obtain ⟨e, A, cp, rfl, hk, hc, hks⟩ := ih.1 _ _ h2
          obtain ⟨_, _, hcell⟩ := World.cells?_some h1
          exact ⟨e, A, cp, by simpa using hcell 0 (by omega), by simpa using hcell 1 (by omega), by simpa using hcell 2 (by omega), hk, hc, hks⟩
        obtain ⟨f, hf⟩ := Go.Deep.choose_lt each
        have hfl : ((List.range len).map f).length = len := by simp
        refine ⟨(List.range len).map f, some a, cap, by rw [hfl], ⟨by rw [hfl]; exact hl, hcm, fun e => (by cases e), fun hn => ?_⟩⟩
        have h0 : 0 < len := by
          rcases Nat.eq_zero_or_pos len with e | e
          · subst e; exact absurd rfl hn
          · exact e
        obtain ⟨_, _, hc0, _⟩ := hf 0 h0
        obtain ⟨b, o, spot⟩ := a
        have hspot : spot = none := by simpa [Addr.add] using World.cell?_spot hc0
        subst hspot
        have hbl := cell_lt hc0
        refine ⟨b, o, rfl, by simpa [Addr.add] using hbl, row_of fun i e he => ?_⟩
        have hi : i < len := by have := (List.getElem?_eq_some_iff.1 he).1; omega
        simp [hi] at he
        subst he
        obtain ⟨A, cp, c0, c1, c2, hk, hc, hks⟩ := hf i hi
        have ad : ∀ j, ((⟨b, o, none⟩ : Addr).add (i * 3)).add j = ⟨b, o + i * 3 + j, none⟩ := fun j => by
          rw [Addr.add_mid, Addr.add_mid]
        rw [ad] at c0 c1 c2
        exact ⟨_, _, _, c0, c1, c2, Nd_iff.2 ⟨hk, hc, A, cp, rfl, hks⟩⟩
set_option maxRecDepth 100000 in
/-- The cell of a list of numbers. -/
theorem is_cell {fuel : Nat} {v : Value} {x : DataW H × List MemPlace} (hf : DataW.trod enc Try.prog W 0 (fun _ => true) true fuel 25 [v] = some x) :
    ∃ (xs : List Int) (A : Option Addr) (cap : Nat), v = .slice A xs.length cap ∧ IS W W.heap.size xs A cap := by
  rcases open_ints Try.underlying25 Try.underlying3 (by kernel_rfl) hf with ⟨hcs, _⟩ | ⟨x, l, c, zs, hcs, _, hl, hm, hz, _, hcell, hwz⟩
  · obtain rfl : v = .slice none 0 0 := by simpa using hcs
    exact ⟨[], none, 0, rfl, ⟨by simp, by simp, fun x hx => by simp at hx, fun hn => absurd rfl hn⟩⟩
  · obtain rfl : v = .slice (some x) l c := by simpa using hcs
    have hzl : zs.length = c := by simpa using hz
    have htl : (zs.take l).length = l := by rw [List.length_take]; omega
    refine ⟨zs.take l, some x, c, by rw [htl], ⟨by rw [htl]; exact hl, hm, fun y hy => ?_, fun hn => ?_⟩⟩
    · have := hwz y (List.mem_of_mem_take hy)
      have b : -9223372036854775808 ≤ y ∧ y ≤ 9223372036854775807 := by simpa [Lit.wf, IntKind.min, IntKind.max, IntKind.signed, IntKind.bits] using this
      exact b
    · have h0 : 0 < l := by
        rcases Nat.eq_zero_or_pos l with e | e
        · subst e; simp at hn
        · exact e
      have hc0 := hcell 0 (by omega)
      obtain ⟨b, o, spot⟩ := x
      have hspot : spot = none := by simpa [Addr.add] using World.cell?_spot hc0
      subst hspot
      have hbl := cell_lt hc0
      refine ⟨b, o, rfl, by simpa [Addr.add] using hbl, fun i y hy => ?_⟩
      have hi : i < l := by have := (List.getElem?_eq_some_iff.1 hy).1; omega
      have := hcell i (by omega)
      rw [Addr.add_mid] at this
      rw [this]
      rw [List.getElem?_take, if_pos hi] at hy
      simp [List.getD, hy]
set_option maxRecDepth 100000 in
/-- An argument that is a list of numbers. -/
theorem is_of_arg {b0 : Nat} {v : Value} {d : DataW H} {p : List MemPlace} (hv : Value.okWide Try.prog W .any b0 25 v) (h : DataW.Trod enc Try.prog W 0 (fun _ => true) true 25 v d p) :
    ∃ (xs : List Int) (A : Option Addr) (cap : Nat), v = .slice A xs.length cap ∧ IS W W.heap.size xs A cap := by
  obtain ⟨a, len, cap, rfl⟩ := okWide_slice Try.underlying25 hv
  obtain ⟨fuel, hf⟩ := h
  exact is_cell hf
set_option maxRecDepth 100000 in
/-- The cells of a rule. -/
theorem ru_cells {fuel : Nat} {cs : List Value} {x : DataW H × List MemPlace} (h : DataW.trod enc Try.prog W 0 (fun _ => true) true fuel 106 cs = some x) :
    ∃ (r : Ru) (A1 : Option Addr) (c1 : Nat) (A2 : Option Addr) (c2 : Nat), cs = [.int .i64 r.l.k, .int .i64 r.l.c, .slice A1 r.l.ks.length c1, .int .i64 r.r.k, .int .i64 r.r.c, .slice A2 r.r.ks.length c2, .bool r.b] ∧
      RuV W W.heap.size r (.agg #[.int .i64 r.l.k, .int .i64 r.l.c, .slice A1 r.l.ks.length c1, .int .i64 r.r.k, .int .i64 r.r.c, .slice A2 r.r.ks.length c2, .bool r.b]) := by
  obtain ⟨xs, m, hm, _, hlen, hxl, hf⟩ := DataW.trod_struct Try.underlying106 h
  rw [cells106] at hlen
  have hxl : xs.length = 3 := hxl
  match cs, hlen, xs, hxl with
  | [a0, a1, a2, b0, b1, b2, d0], _, [x0, x1, x2], _ =>
    have h0 := hf 0 _ rfl
    have h1 := hf 1 _ rfl
    have h2 := hf 2 _ rfl
    simp [cells24] at h0 h1
    simp [cells4] at h2
    obtain ⟨e, A1, c1, he, hk, hc, hks⟩ := (nd_cells m).1 _ _ h0
    obtain ⟨f, A2, c2, hf', hk2, hc2, hks2⟩ := (nd_cells m).1 _ _ h1
    obtain ⟨b, hb, _⟩ := DataW.trod_bool Try.underlying4 h2
    simp at he hf' hb
    obtain ⟨rfl, rfl, rfl⟩ := he
    obtain ⟨rfl, rfl, rfl⟩ := hf'
    subst hb
    exact ⟨⟨e, f, b⟩, A1, c1, A2, c2, rfl, A1, c1, A2, c2, rfl, Nd_iff.2 ⟨hk, hc, A1, c1, rfl, hks⟩, Nd_iff.2 ⟨hk2, hc2, A2, c2, rfl, hks2⟩⟩
set_option maxRecDepth 100000 in
/-- The cell of a list of rules. -/
theorem rs_cell {fuel : Nat} {cs : List Value} {x : DataW H × List MemPlace} (h : DataW.trod enc Try.prog W 0 (fun _ => true) true fuel 48 cs = some x) :
    ∃ (L : List Ru) (A : Option Addr) (cap : Nat), cs = [.slice A L.length cap] ∧ RsAt W W.heap.size L A cap := by
  rcases DataW.trod_slice Try.underlying48 h with ⟨rfl, _⟩ | ⟨a, len, cap, elems, rest, m, hm, rfl, _, _, hl, hcm, hlen, hel, _, _⟩
  · exact ⟨[], none, 0, rfl, ⟨by simp, by simp, fun hn => absurd rfl hn⟩⟩
  · rw [cells106] at hel
    have each : ∀ i, i < len → ∃ r : Ru, ∃ (A1 : Option Addr) (c1 : Nat) (A2 : Option Addr) (c2 : Nat),
        (W.cell? ((a.add (i * 7)).add 0) = some (.int .i64 r.l.k) ∧ W.cell? ((a.add (i * 7)).add 1) = some (.int .i64 r.l.c) ∧ W.cell? ((a.add (i * 7)).add 2) = some (.slice A1 r.l.ks.length c1) ∧
          W.cell? ((a.add (i * 7)).add 3) = some (.int .i64 r.r.k) ∧ W.cell? ((a.add (i * 7)).add 4) = some (.int .i64 r.r.c) ∧ W.cell? ((a.add (i * 7)).add 5) = some (.slice A2 r.r.ks.length c2) ∧ W.cell? ((a.add (i * 7)).add 6) = some (.bool r.b)) ∧
        RuV W W.heap.size r (.agg #[.int .i64 r.l.k, .int .i64 r.l.c, .slice A1 r.l.ks.length c1, .int .i64 r.r.k, .int .i64 r.r.c, .slice A2 r.r.ks.length c2, .bool r.b]) := by
      intro i hi
      have key := hel i hi
      rw [List.getElem?_eq_getElem (by omega)] at key
      obtain ⟨cs', h1, h2⟩ := Option.bind_eq_some_iff.1 key
      obtain ⟨r, A1, c1, A2, c2, rfl, hr⟩ := ru_cells h2
      obtain ⟨_, _, hcell⟩ := World.cells?_some h1
      exact ⟨r, A1, c1, A2, c2, ⟨by simpa using hcell 0 (by omega), by simpa using hcell 1 (by omega), by simpa using hcell 2 (by omega), by simpa using hcell 3 (by omega), by simpa using hcell 4 (by omega), by simpa using hcell 5 (by omega), by simpa using hcell 6 (by omega)⟩, hr⟩
    obtain ⟨f, hf⟩ := Go.Deep.choose_lt each
    have hfl : ((List.range len).map f).length = len := by simp
    refine ⟨(List.range len).map f, some a, cap, by rw [hfl], ⟨by rw [hfl]; exact hl, hcm, fun hn => ?_⟩⟩
    have h0 : 0 < len := by
      rcases Nat.eq_zero_or_pos len with e | e
      · subst e; exact absurd rfl hn
      · exact e
    obtain ⟨_, _, _, _, ⟨hc0, _⟩, _⟩ := hf 0 h0
    obtain ⟨b, o, spot⟩ := a
    have hspot : spot = none := by simpa [Addr.add] using World.cell?_spot hc0
    subst hspot
    have hbl := cell_lt hc0
    refine ⟨b, o, rfl, by simpa [Addr.add] using hbl, fun i e he => ?_⟩
    have hi : i < len := by have := (List.getElem?_eq_some_iff.1 he).1; omega
    simp [hi] at he
    subst he
    obtain ⟨A1, c1, A2, c2, ⟨k0, k1, k2, k3, k4, k5, k6⟩, hr⟩ := hf i hi
    have ad : ∀ j, ((⟨b, o, none⟩ : Addr).add (i * 7)).add j = ⟨b, o + i * 7 + j, none⟩ := fun j => by
      rw [Addr.add_mid, Addr.add_mid]
    rw [ad] at k0 k1 k2 k3 k4 k5 k6
    exact ⟨A1, c1, A2, c2, ⟨k0, k1, k2, k3, k4, k5, k6⟩, hr⟩
set_option maxRecDepth 100000 in
/-- An argument that is a meaning. -/
theorem tx_of_arg {b0 : Nat} {v : Value} {d : DataW H} {p : List MemPlace} (hv : Value.okWide Try.prog W .any b0 50 v) (h : DataW.Trod enc Try.prog W 0 (fun _ => true) true 50 v d p) :
    ∃ t : Tx, TxV W W.heap.size t v := by
  obtain ⟨cs, rfl, hcs⟩ := okWide_struct Try.underlying50 hv
  obtain ⟨fuel, hf⟩ := h
  obtain ⟨xs, n, hn, _, hlen, hxl, hff⟩ := DataW.trod_struct Try.underlying50 hf
  rw [cells50] at hcs hlen
  have hxl : xs.length = 3 := hxl
  obtain ⟨l⟩ := cs
  match l, hcs, xs, hxl with
  | [c0, c1, c2], _, [x0, x1, x2], _ =>
    have h0 := hff 0 _ rfl
    have h1 := hff 1 _ rfl
    have h2 := hff 2 _ rfl
    simp [cells25, Value.cells] at h0 h1
    simp [cells48, Value.cells] at h2
    obtain ⟨i1, A1, p1, rfl, g1⟩ := is_cell h0
    obtain ⟨i2, A2, p2, rfl, g2⟩ := is_cell h1
    obtain ⟨L, A3, p3, e3, g3⟩ := rs_cell h2
    simp at e3
    subst e3
    exact ⟨⟨i1, i2, L⟩, A1, p1, A2, p2, A3, p3, rfl, g1, g2, g3⟩
end
/-- A row over a world that is shaped. -/
theorem handed_shaped {H : Type} {enc : TypeId × Value → H} {a : Assume} {C : Checked} {os : Os} {f : FuncId} {fn : Func} {s : ChangeSpec} {conds : List PathCond} {apart fresh handsOn again : Bool}
    (own : ownKnob C.prog.godebug = none) (started : os.Started) (noInit : C.prog.inits.idxOf? f = none) (hfn : C.prog.funcs[f]? = some fn)
    (witness : ∃ (w : World) (tape : Tape) (i : Input), w.os = os ∧ (w.forCall tape i).Shaped C.prog ∧ i.vars = [] ∧ Input.okWide C.prog (w.forCall tape i) .any w.heap.size f i ∧
      s.pre6 enc C.prog fn conds apart (w.forCall tape i).memory i.args ∧ a.holds C.prog (lone (Frame.enter C.prog f i.args .normal) [] (w.forCall tape i)))
    (contract : ∀ (W : World) (base : Nat) (args : Array Value) (ds gs : List (DataW H)) (before : List MemPlace), W.ShapedOpen C.prog →
      (∀ (j : Nat) t v, fn.params[j]? = some t → args[j]? = some v → Value.okWide C.prog W .any base t v) →
      DataW.Whole enc C.prog fn.params.toList s.vars apart W args.toList ds gs before →
      Calls C.prog f args W fun e W' => ∃ v, e = .returned v ∧ s.post enc C.prog fn apart fresh handsOn again W args v W') :
    ReturnsInHanded a C os f .any (s.pre6 enc C.prog fn conds apart) (s.post enc C.prog fn apart fresh handsOn again) := by
  refine returnsInHanded_of_calls own started noInit witness ?_
  intro w tape i _ hsh _ hok hpre _
  obtain ⟨_, _, _, fn', hfn', _, _, _, _, hval⟩ := hok
  cases hfn.symm.trans hfn'
  obtain ⟨⟨ds, gs, before, hw, _⟩, _⟩ := hpre
  refine (contract (w.forCall tape i) w.heap.size i.args ds gs before hsh hval (DataW.Whole.of_heap (w' := w.forCall tape i) (by rfl) hw)).mono ?_
  rintro e W' ⟨v, rfl, hp⟩
  exact ChangeSpec.post_blind hp
end Go.Proofs.Ytegkogadceodlaa

namespace Go.Proofs.Ytegkogadceodlaa
open Go.RowKit Go.Shelf Go.Lib Go.Sort

/-- How Matches answers. -/
def MatCon (mt : E → List Int → Bool) : Prop := ∀ (e : E) (v : Value) (ms : List Int) (A : Option Addr) (c : Nat) (w : World), Nd w w.heap.size e v → szE e ≤ 100000 → IS w w.heap.size ms A c →
  Calls Try.prog 15 #[v, .slice A ms.length c] w fun r w' => r = .returned (.bool (mt e ms)) ∧ Below w.heap.size w w'
theorem IS.take {w : World} {B : Nat} {xs : List Int} {A : Option Addr} {cap : Nat} (h : IS w B xs A cap) (k : Nat) : IS w B (xs.take k) A cap :=
  ⟨by have := h.l; simp; omega, h.m, fun x hx => h.i x (List.mem_of_mem_take hx), fun hne => by
    obtain ⟨b, o, e, h1, h2⟩ := h.r (by rintro rfl; simp at hne)
    refine ⟨b, o, e, h1, fun i x hx => h2 i x ?_⟩
    rw [List.getElem?_take] at hx
    split at hx
    · exact hx
    · simp at hx⟩
theorem IS.drop {w : World} {B : Nat} {xs : List Int} {b o cap : Nat} (h : IS w B xs (some ⟨b, o, none⟩) cap) (k : Nat) (hk : k ≤ cap) : IS w B (xs.drop k) (some ⟨b, o + k, none⟩) (cap - k) :=
  ⟨by have := h.l; simp; omega, by have := h.m; omega, fun x hx => h.i x (List.mem_of_mem_drop hx), fun hne => by
    obtain ⟨b', o', e, h1, h2⟩ := h.r (by rintro rfl; simp at hne)
    cases e
    refine ⟨b, _, rfl, h1, fun i x hx => ?_⟩
    rw [List.getElem?_drop] at hx
    rw [Nat.add_assoc]
    exact h2 (k + i) x hx⟩
theorem IS.none_of {w : World} {B : Nat} {A : Option Addr} {cap : Nat} (hm : cap ≤ maxLen) : IS w B [] A cap := ⟨Nat.zero_le _, hm, fun x hx => by simp at hx, fun h => absurd rfl h⟩
/-- Is there a length, from one on up to another one, that is asked for? -/
def srchF (sh lim : Nat) (p : Nat → Bool) : Bool := (List.range' sh (lim + 1 - sh)).any p
theorem srch_true {sh lim k : Nat} {p : Nat → Bool} (h1 : sh ≤ k) (h2 : k ≤ lim) (h : p k = true) : srchF sh lim p = true := by
  unfold srchF
  rw [List.any_eq_true]
  exact ⟨k, by rw [List.mem_range'_1]; omega, h⟩
theorem srch_false {sh lim : Nat} {p : Nat → Bool} (h : ∀ j, sh ≤ j → j ≤ lim → p j = false) : srchF sh lim p = false := by
  unfold srchF
  rw [List.any_eq_false]
  intro k hk
  rw [List.mem_range'_1] at hk
  rw [h k (by omega) (by omega)]
  simp
/-- How far search goes. -/
def limR (e : E) (n : Nat) : Nat := if (longR e).1 then min n (longR e).2 else n
theorem lim_le (e : E) (n : Nat) : limR e n ≤ n := by
  unfold limR
  split
  · exact Nat.min_le_left _ _
  · exact Nat.le_refl _
end Go.Proofs.Ytegkogadceodlaa

namespace Go.Proofs.Ytegkogadceodlaa
open Go.RowKit Go.Shelf Go.Lib Go.Sort

set_option maxRecDepth 100000 in
set_option maxHeartbeats 8000000 in
theorem searchG101_any (e : E) (A : Option Addr) (cap n : Nat) (hn : n ≤ 1000000) (p1 p2 : Addr) (p : Nat → Bool) (w : World)
    (CF : ∀ k, shortR e ≤ k → k ≤ n → ∀ W, Below w.heap.size w W → Calls Try.prog 101 #[.int .i64 (k : Int), .pointer (some p1), .pointer (some p2)] W fun r w' => r = .returned (.bool (p k)) ∧ Below W.heap.size W w') :
    Calls Try.prog 100 #[.agg (sdC e A cap).toArray, .int .i64 (n : Int), .func (.func 101) #[] #[.pointer (some p1), .pointer (some p2)]] w fun r w' => r = .returned (.bool (srchF (shortR e) (limR e n) p)) ∧ Below w.heap.size w w' := by
  have hlm := lim_le e n
  have hlq : limR e n = if (longR e).1 then min n (longR e).2 else n := rfl
  obtain ⟨lim, hlim⟩ : ∃ q, limR e n = q := ⟨_, rfl⟩
  rw [hlim] at hlm hlq ⊢
  obtain ⟨R, hR⟩ : ∃ q, srchF (shortR e) lim p = q := ⟨_, rfl⟩
  rw [hR]
  unfold sdC
  obtain ⟨sh, hsh⟩ : ∃ s, shortR e = s := ⟨_, rfl⟩
  obtain ⟨lg, hlg⟩ : ∃ s, (longR e).2 = s := ⟨_, rfl⟩
  obtain ⟨bd, hbd⟩ : ∃ s, (longR e).1 = s := ⟨_, rfl⟩
  rw [hsh, hlg, hbd]
  rw [hsh] at CF hR
  rw [hlg, hbd] at hlq
  clear hsh hlg hbd hlim
  generalize e.k = k0 at *
  generalize e.c = c0 at *
  generalize e.ks.length = n0 at *
  obtain ⟨W1, hW1⟩ : ∃ V, w.alloc (.cells #[.int .i64 k0, .int .i64 c0, .slice A n0 cap, .int .i64 (sh : Int), .int .i64 (lg : Int), .bool bd] 131) = V := ⟨_, rfl⟩
  have b1 : Below w.heap.size w W1 := by rw [← hW1]; exact below_new _ _
  have x1 : Cells W1 w.heap.size 131 #[.int .i64 k0, .int .i64 c0, .slice A n0 cap, .int .i64 (sh : Int), .int .i64 (lg : Int), .bool bd] := by rw [← hW1]; exact cells_new _ _ _
  have m1 := x1.cell 1
  have m2 := x1.cell 3
  have m3 := x1.cell 4
  have m4 := x1.cell 5
  simp at m2 m3 m4
  have hmin : bd = true → min (n : Int) (lg : Int) = (lim : Int) := fun e => by rw [hlq, if_pos e]; omega
  have hmin2 : bd = true → min n lg = lim := fun e => by rw [hlq, if_pos e]
  have hno : bd = false → lim = n := fun e => by rw [hlq, e]; rfl
  have HW := Lib.hid (And.intro hW1 (And.intro b1 (And.intro CF hR)))
  have HP := Lib.hid (And.intro hlm hn)
  clear hW1 b1 x1 CF hR m1 hlq


  go_enter Try.func100, Try.ntmps100
  go_upto_region 1 with fail
  rw [HW.out.1]
  cases bd
  all_goals
    first
    | (obtain rfl := hno rfl)
    | (have hmin := hmin rfl
       have hmin2 := hmin2 rfl)
    go_wp2_with fail
    go_loopw [7] (fun i wr => ∃ k : Nat, sh ≤ k ∧ (k ≤ lim + 1 ∨ k = sh) ∧ i = .int .i64 (k : Int) ∧ (∀ j, sh ≤ j → j < k → p j = false) ∧ Below w.heap.size w wr) (fun i _ => 1000002 - (RowKit.intOf i).toNat)
    case atStart => exact ⟨sh, Nat.le_refl _, .inr rfl, rfl, fun j h1 h2 => by omega, HW.out.2.1⟩
    case round =>
      obtain ⟨k, hk1, hk2, rfl, hp, hb⟩ := hrel
      by_cases hkl : k ≤ lim
      · have i1 : (k : Int) ≤ (lim : Int) := by omega
        have ik : (k : Int) ≤ 1000000 := by have := HP.out; omega
        have C := HW.out.2.2.1 k hk1 (by have := HP.out; omega) wr hb
        have HB := Lib.hid (And.intro hb hp)
        clear hb hp
        cases hpk : p k with
        | true =>
          rw [hpk] at C
          have HT := Lib.hid (srch_true hk1 hkl hpk)
          clear hpk
          go_wp2_with fail
          refine C.mono ?_
          rintro r w2 ⟨rfl, hb2⟩
          have HB2 := Lib.hid (HB.out.1.trans (hb2.mono HB.out.1.size))
          clear C hb2
          go_wp2_with fail
          go_ret
          refine ⟨?_, HB2.out⟩
          rw [← HW.out.2.2.2, HT.out]
          rfl
        | false =>
          rw [hpk] at C
          have HT := Lib.hid (show ∀ j, sh ≤ j → j < k + 1 → p j = false from fun j h1 h2 => by
            by_cases e : j = k
            · rw [e]; exact hpk
            · exact HB.out.2 j h1 (by omega))
          clear hpk
          go_wp2_with fail
          refine C.mono ?_
          rintro r w2 ⟨rfl, hb2⟩
          have hend : ∃ k' : Nat, sh ≤ k' ∧ (k' ≤ lim + 1 ∨ k' = sh) ∧ Value.int .i64 ((k : Int) + 1) = .int .i64 (k' : Int) ∧ (∀ j, sh ≤ j → j < k' → p j = false) ∧ Below w.heap.size w w2 :=
            ⟨k + 1, by omega, .inl (by omega), by simp, HT.out, HB.out.1.trans (hb2.mono HB.out.1.size)⟩
          have HEND := Lib.hid hend
          clear C hb2 hend
          go_wp2_with fail
          go_roundw
          case rel => exact HEND.out
          case measure => simp [RowKit.intOf]; omega
      · have i1 : ¬ (k : Int) ≤ (lim : Int) := by omega
        have HB := Lib.hid (And.intro hb (srch_false (lim := lim) (fun j h1 h2 => hp j h1 (by omega))))
        clear hb hp
        go_wp2_with fail
        go_ret
        refine ⟨?_, HB.out.1⟩
        rw [← HW.out.2.2.2, HB.out.2]
        rfl
set_option maxRecDepth 100000 in
set_option maxHeartbeats 8000000 in
theorem searchG102_any (e : E) (A : Option Addr) (cap n : Nat) (hn : n ≤ 1000000) (p1 p2 : Addr) (p : Nat → Bool) (w : World)
    (CF : ∀ k, shortR e ≤ k → k ≤ n → ∀ W, Below w.heap.size w W → Calls Try.prog 102 #[.int .i64 (k : Int), .pointer (some p1), .pointer (some p2)] W fun r w' => r = .returned (.bool (p k)) ∧ Below W.heap.size W w') :
    Calls Try.prog 100 #[.agg (sdC e A cap).toArray, .int .i64 (n : Int), .func (.func 102) #[] #[.pointer (some p1), .pointer (some p2)]] w fun r w' => r = .returned (.bool (srchF (shortR e) (limR e n) p)) ∧ Below w.heap.size w w' := by
  have hlm := lim_le e n
  have hlq : limR e n = if (longR e).1 then min n (longR e).2 else n := rfl
  obtain ⟨lim, hlim⟩ : ∃ q, limR e n = q := ⟨_, rfl⟩
  rw [hlim] at hlm hlq ⊢
  obtain ⟨R, hR⟩ : ∃ q, srchF (shortR e) lim p = q := ⟨_, rfl⟩
  rw [hR]
  unfold sdC
  obtain ⟨sh, hsh⟩ : ∃ s, shortR e = s := ⟨_, rfl⟩
  obtain ⟨lg, hlg⟩ : ∃ s, (longR e).2 = s := ⟨_, rfl⟩
  obtain ⟨bd, hbd⟩ : ∃ s, (longR e).1 = s := ⟨_, rfl⟩
  rw [hsh, hlg, hbd]
  rw [hsh] at CF hR
  rw [hlg, hbd] at hlq
  clear hsh hlg hbd hlim
  generalize e.k = k0 at *
  generalize e.c = c0 at *
  generalize e.ks.length = n0 at *
  obtain ⟨W1, hW1⟩ : ∃ V, w.alloc (.cells #[.int .i64 k0, .int .i64 c0, .slice A n0 cap, .int .i64 (sh : Int), .int .i64 (lg : Int), .bool bd] 131) = V := ⟨_, rfl⟩
  have b1 : Below w.heap.size w W1 := by rw [← hW1]; exact below_new _ _
  have x1 : Cells W1 w.heap.size 131 #[.int .i64 k0, .int .i64 c0, .slice A n0 cap, .int .i64 (sh : Int), .int .i64 (lg : Int), .bool bd] := by rw [← hW1]; exact cells_new _ _ _
  have m1 := x1.cell 1
  have m2 := x1.cell 3
  have m3 := x1.cell 4
  have m4 := x1.cell 5
  simp at m2 m3 m4
  have hmin : bd = true → min (n : Int) (lg : Int) = (lim : Int) := fun e => by rw [hlq, if_pos e]; omega
  have hmin2 : bd = true → min n lg = lim := fun e => by rw [hlq, if_pos e]
  have hno : bd = false → lim = n := fun e => by rw [hlq, e]; rfl
  have HW := Lib.hid (And.intro hW1 (And.intro b1 (And.intro CF hR)))
  have HP := Lib.hid (And.intro hlm hn)
  clear hW1 b1 x1 CF hR m1 hlq


  go_enter Try.func100, Try.ntmps100
  go_upto_region 1 with fail
  rw [HW.out.1]
  cases bd
  all_goals
    first
    | (obtain rfl := hno rfl)
    | (have hmin := hmin rfl
       have hmin2 := hmin2 rfl)
    go_wp2_with fail
    go_loopw [7] (fun i wr => ∃ k : Nat, sh ≤ k ∧ (k ≤ lim + 1 ∨ k = sh) ∧ i = .int .i64 (k : Int) ∧ (∀ j, sh ≤ j → j < k → p j = false) ∧ Below w.heap.size w wr) (fun i _ => 1000002 - (RowKit.intOf i).toNat)
    case atStart => exact ⟨sh, Nat.le_refl _, .inr rfl, rfl, fun j h1 h2 => by omega, HW.out.2.1⟩
    case round =>
      obtain ⟨k, hk1, hk2, rfl, hp, hb⟩ := hrel
      by_cases hkl : k ≤ lim
      · have i1 : (k : Int) ≤ (lim : Int) := by omega
        have ik : (k : Int) ≤ 1000000 := by have := HP.out; omega
        have C := HW.out.2.2.1 k hk1 (by have := HP.out; omega) wr hb
        have HB := Lib.hid (And.intro hb hp)
        clear hb hp
        cases hpk : p k with
        | true =>
          rw [hpk] at C
          have HT := Lib.hid (srch_true hk1 hkl hpk)
          clear hpk
          go_wp2_with fail
          refine C.mono ?_
          rintro r w2 ⟨rfl, hb2⟩
          have HB2 := Lib.hid (HB.out.1.trans (hb2.mono HB.out.1.size))
          clear C hb2
          go_wp2_with fail
          go_ret
          refine ⟨?_, HB2.out⟩
          rw [← HW.out.2.2.2, HT.out]
          rfl
        | false =>
          rw [hpk] at C
          have HT := Lib.hid (show ∀ j, sh ≤ j → j < k + 1 → p j = false from fun j h1 h2 => by
            by_cases e : j = k
            · rw [e]; exact hpk
            · exact HB.out.2 j h1 (by omega))
          clear hpk
          go_wp2_with fail
          refine C.mono ?_
          rintro r w2 ⟨rfl, hb2⟩
          have hend : ∃ k' : Nat, sh ≤ k' ∧ (k' ≤ lim + 1 ∨ k' = sh) ∧ Value.int .i64 ((k : Int) + 1) = .int .i64 (k' : Int) ∧ (∀ j, sh ≤ j → j < k' → p j = false) ∧ Below w.heap.size w w2 :=
            ⟨k + 1, by omega, .inl (by omega), by simp, HT.out, HB.out.1.trans (hb2.mono HB.out.1.size)⟩
          have HEND := Lib.hid hend
          clear C hb2 hend
          go_wp2_with fail
          go_roundw
          case rel => exact HEND.out
          case measure => simp [RowKit.intOf]; omega
      · have i1 : ¬ (k : Int) ≤ (lim : Int) := by omega
        have HB := Lib.hid (And.intro hb (srch_false (lim := lim) (fun j h1 h2 => hp j h1 (by omega))))
        clear hb hp
        go_wp2_with fail
        go_ret
        refine ⟨?_, HB.out.1⟩
        rw [← HW.out.2.2.2, HB.out.2]
        rfl
end Go.Proofs.Ytegkogadceodlaa

namespace Go.Proofs.Ytegkogadceodlaa
open Go.RowKit Go.Shelf Go.Lib Go.Sort

set_option maxRecDepth 100000 in
set_option maxHeartbeats 8000000 in
theorem begG1_any (mt : E → List Int → Bool) (HM : MatCon mt) (e : E) (A : Option Addr) (cap s mb g o n cp k : Nat) (ms : List Int) (w : World) (hN : Nd w w.heap.size e (.agg #[.int .i64 e.k, .int .i64 e.c, .slice A e.ks.length cap])) (hz : szE e ≤ 100000)
    (hs : Cells w s 131 (sdC e A cap).toArray) (hmb : Cells w mb 25 #[.slice (some ⟨g, o, none⟩) n cp]) (hn : n = ms.length) (hI : IS w w.heap.size ms (some ⟨g, o, none⟩) cp) (hk : k ≤ n) :
    Calls Try.prog 101 #[.int .i64 (k : Int), .pointer (some ⟨s, 0, none⟩), .pointer (some ⟨mb, 0, none⟩)] w fun r w' => r = .returned (.bool (mt e (ms.take k))) ∧ Below w.heap.size w w' := by
  have hlen : (ms.take k).length = k := by simp; omega
  have C1 : ∀ d os, Calls Try.prog 15 #[.agg #[.int .i64 e.k, .int .i64 e.c, .slice A e.ks.length cap], .slice (some ⟨g, o, none⟩) k cp] (grow (redrawn w d) os) fun r w'' => r = .returned (.bool (mt e (ms.take k))) ∧ ∃ p : Regrown, w'' = grow (redrawn w p.d) p.os :=
    fun d os => Calls.regrown_of (by
      have hb := below_regrown w d os
      have := HM e _ (ms.take k) (some ⟨g, o, none⟩) cp _ (hN.on hb) hz ((hI.on hb).take k)
      rw [hlen] at this
      exact this)
  have hcl := hI.l
  unfold sdC at hs
  generalize e.ks.length = n0 at *
  have s0 := cell_regrown (show w.cell? ⟨s, 0, none⟩ = some (.int .i64 e.k) from hs.cell 0)
  have s1 := cell_regrown (show w.cell? ⟨s, 1, none⟩ = some (.int .i64 e.c) from hs.cell 1)
  have s2 := cell_regrown (show w.cell? ⟨s, 2, none⟩ = some (.slice A n0 cap) from hs.cell 2)
  have q0 := cell_regrown (show w.cell? ⟨mb, 0, none⟩ = some (.slice (some ⟨g, o, none⟩) n cp) from hmb.cell 0)
  have i1 : (k : Int) ≤ (cp : Int) := by omega
  obtain ⟨R, hR⟩ : ∃ R, mt e (ms.take k) = R := ⟨_, rfl⟩
  simp only [hR] at C1 ⊢
  generalize e.k = k0 at *
  generalize e.c = c0 at *
  clear hs hmb hI hR hlen hn hcl hN hz hk
  go_enter Try.func101, Try.ntmps101
  go_wp2_with fail
  refine wp_region_quiet_below (by kernel_rfl) (by kernel_rfl) ?_
  repeat (go_big_quiet_step (exact C1 _ _))
  refine wpQuiet_nil ?_
  intro _ hw'
  obtain ⟨⟨dq, osq⟩, hw''⟩ := hw'
  subst hw''
  have HZ := Lib.hid (below_regrown w dq osq)
  clear s0 s1 s2 q0 C1
  go_wp2_with fail
  go_ret
  exact ⟨rfl, HZ.out⟩
set_option maxRecDepth 100000 in
set_option maxHeartbeats 8000000 in
theorem cloG1_any (mt : E → List Int → Bool) (HM : MatCon mt) (e : E) (A : Option Addr) (cap s mb g o n cp k : Nat) (ms : List Int) (w : World) (hN : Nd w w.heap.size e (.agg #[.int .i64 e.k, .int .i64 e.c, .slice A e.ks.length cap])) (hz : szE e ≤ 100000)
    (hs : Cells w s 131 (sdC e A cap).toArray) (hmb : Cells w mb 25 #[.slice (some ⟨g, o, none⟩) n cp]) (hn : n = ms.length) (hI : IS w w.heap.size ms (some ⟨g, o, none⟩) cp) (hk : k ≤ n) (hnb : n ≤ 1000000) :
    Calls Try.prog 102 #[.int .i64 (k : Int), .pointer (some ⟨s, 0, none⟩), .pointer (some ⟨mb, 0, none⟩)] w fun r w' => r = .returned (.bool (mt e (ms.drop (n - k)))) ∧ Below w.heap.size w w' := by
  have hcl := hI.l
  obtain ⟨q, hq⟩ : ∃ q, n - k = q := ⟨_, rfl⟩
  have hlen : (ms.drop q).length = n - q := by simp; omega
  rw [hq]
  have C1 : ∀ A', (A' = some ⟨g, o + q, none⟩ ∨ (cp - q = 0 ∧ n - q = 0)) → ∀ d os, Calls Try.prog 15 #[.agg #[.int .i64 e.k, .int .i64 e.c, .slice A e.ks.length cap], .slice A' (n - q) (cp - q)] (grow (redrawn w d) os) fun r w'' => r = .returned (.bool (mt e (ms.drop q))) ∧ ∃ p : Regrown, w'' = grow (redrawn w p.d) p.os :=
    fun A' hA' d os => Calls.regrown_of (by
      have hb := below_regrown w d os
      have hI' : IS (grow (redrawn w d) os) (grow (redrawn w d) os).heap.size (ms.drop q) A' (cp - q) := by
        rcases hA' with rfl | ⟨h1, h2⟩
        · exact (hI.on hb).drop q (by omega)
        · have : ms.drop q = [] := List.eq_nil_of_length_eq_zero (by omega)
          rw [this]
          exact IS.none_of (by have := hI.m; omega)
      have := HM e _ (ms.drop q) A' (cp - q) _ (hN.on hb) hz hI'
      rw [hlen] at this
      exact this)
  unfold sdC at hs
  generalize e.ks.length = n0 at *
  have s0 := cell_regrown (show w.cell? ⟨s, 0, none⟩ = some (.int .i64 e.k) from hs.cell 0)
  have s1 := cell_regrown (show w.cell? ⟨s, 1, none⟩ = some (.int .i64 e.c) from hs.cell 1)
  have s2 := cell_regrown (show w.cell? ⟨s, 2, none⟩ = some (.slice A n0 cap) from hs.cell 2)
  have q0 := cell_regrown (show w.cell? ⟨mb, 0, none⟩ = some (.slice (some ⟨g, o, none⟩) n cp) from hmb.cell 0)
  have i1 : (n : Int) - (k : Int) = (q : Int) := by omega
  have i2 : (q : Int) ≤ (n : Int) := by omega
  have i4 : (n : Int) ≤ (cp : Int) := by omega
  have i5 : (n : Int) ≤ 1000000 := by omega
  have i6 : (k : Int) ≤ (n : Int) := by omega
  obtain ⟨R, hR⟩ : ∃ R, mt e (ms.drop q) = R := ⟨_, rfl⟩
  simp only [hR] at C1 ⊢
  generalize e.k = k0 at *
  generalize e.c = c0 at *
  by_cases hcq : cp - q = 0
  · have hnq : n - q = 0 := by omega
    have CX : ∀ d os, Calls Try.prog 15 #[.agg #[.int .i64 k0, .int .i64 c0, .slice A n0 cap], .slice (some ⟨g, o, none⟩) 0 0] (grow (redrawn w d) os) fun r w'' => r = .returned (.bool R) ∧ ∃ p : Regrown, w'' = grow (redrawn w p.d) p.os := fun d os => by
      have := C1 (some ⟨g, o, none⟩) (.inr ⟨hcq, hnq⟩) d os
      rwa [hcq, hnq] at this
    clear hs hmb hI hR hlen hn hN hz hk hq hcl C1
    go_enter Try.func102, Try.ntmps102
    go_wp2_with fail
    refine wp_region_quiet_below (by kernel_rfl) (by kernel_rfl) ?_
    repeat (go_big_quiet_step (exact CX _ _))
    refine wpQuiet_nil ?_
    intro _ hw'
    obtain ⟨⟨dq, osq⟩, hw''⟩ := hw'
    subst hw''
    have HZ := Lib.hid (below_regrown w dq osq)
    clear s0 s1 s2 q0 CX
    go_wp2_with fail
    go_ret
    exact ⟨rfl, HZ.out⟩
  · have CX := fun d os => C1 _ (.inl rfl) d os
    clear hs hmb hI hR hlen hn hN hz hk hq hcl C1
    go_enter Try.func102, Try.ntmps102
    go_wp2_with fail
    refine wp_region_quiet_below (by kernel_rfl) (by kernel_rfl) ?_
    repeat (go_big_quiet_step (exact CX _ _))
    refine wpQuiet_nil ?_
    intro _ hw'
    obtain ⟨⟨dq, osq⟩, hw''⟩ := hw'
    subst hw''
    have HZ := Lib.hid (below_regrown w dq osq)
    clear s0 s1 s2 q0 CX
    go_wp2_with fail
    go_ret
    exact ⟨rfl, HZ.out⟩
end Go.Proofs.Ytegkogadceodlaa

namespace Go.Proofs.Ytegkogadceodlaa
open Go.RowKit Go.Shelf Go.Lib Go.Sort

/-- Does a side match a beginning, an end? -/
def begF (mt : E → List Int → Bool) (e : E) (ms : List Int) : Bool := srchF (shortR e) (limR e ms.length) (fun k => mt e (ms.take k))
def cloF (mt : E → List Int → Bool) (e : E) (ms : List Int) : Bool := srchF (shortR e) (limR e ms.length) (fun k => mt e (ms.drop (ms.length - k)))
set_option maxRecDepth 100000 in
set_option maxHeartbeats 8000000 in
theorem beginsG_any (mt : E → List Int → Bool) (HM : MatCon mt) (e : E) (A : Option Addr) (cap g o n cp : Nat) (ms : List Int) (w : World) (hN : Nd w w.heap.size e (.agg #[.int .i64 e.k, .int .i64 e.c, .slice A e.ks.length cap])) (hz : szE e ≤ 100000)
    (hn : n = ms.length) (hI : IS w w.heap.size ms (some ⟨g, o, none⟩) cp) (hnb : n ≤ 1000000) :
    Calls Try.prog 83 #[.agg (sdC e A cap).toArray, .slice (some ⟨g, o, none⟩) n cp] w fun r w' => r = .returned (.bool (begF mt e ms)) ∧ Below w.heap.size w w' := by
  obtain ⟨W1, hW1⟩ : ∃ V, w.alloc (.cells (sdC e A cap).toArray 131) = V := ⟨_, rfl⟩
  have b1 : Below w.heap.size w W1 := by rw [← hW1]; exact below_new _ _
  have x1 : Cells W1 w.heap.size 131 (sdC e A cap).toArray := by rw [← hW1]; exact cells_new _ _ _
  have s1 : W1.heap.size = w.heap.size + 1 := by rw [← hW1]; simp
  obtain ⟨W2, hW2⟩ : ∃ V, W1.alloc (.cells #[.slice (some ⟨g, o, none⟩) n cp] 25) = V := ⟨_, rfl⟩
  have b2 : Below W1.heap.size W1 W2 := by rw [← hW2]; exact below_new _ _
  have x2 : Cells W2 (w.heap.size + 1) 25 #[.slice (some ⟨g, o, none⟩) n cp] := by rw [← hW2, ← s1]; exact cells_new _ _ _
  have b12 := b1.trans (b2.mono b1.size)
  have x12 := x1.on b2
  have CS := searchG101_any e A cap n hnb ⟨w.heap.size, 0, none⟩ ⟨w.heap.size + 1, 0, none⟩ (fun k => mt e (ms.take k)) W2
    (fun k _ hk W hW => begG1_any mt HM e A cap w.heap.size (w.heap.size + 1) g o n cp k ms W ((hN.on b12).on hW) hz (x12.on hW) (x2.on hW) hn ((hI.on b12).on hW) hk)
  have hF : begF mt e ms = srchF (shortR e) (limR e n) (fun k => mt e (ms.take k)) := by unfold begF; rw [hn]
  rw [hF]
  obtain ⟨R, hR⟩ : ∃ R, srchF (shortR e) (limR e n) (fun k => mt e (ms.take k)) = R := ⟨_, rfl⟩
  rw [hR] at CS ⊢
  have t2 : W2.cell? ⟨w.heap.size + 1, 0, none⟩ = some (.slice (some ⟨g, o, none⟩) n cp) := x2.cell 0
  have t0 := x12.cell 0
  have t1 := x12.cell 1
  have t3 := x12.cell 2
  have t4 := x12.cell 3
  have t5 := x12.cell 4
  have t6 := x12.cell 5
  unfold sdC at CS hW1 t0 t1 t3 t4 t5 t6 ⊢
  simp at t0 t1 t3 t4 t5 t6
  have HW := Lib.hid (And.intro hW1 (And.intro hW2 b12))
  clear hN hI hW1 hW2 b1 b2 b12 x1 x2 x12 hR hF HM
  generalize e.k = k0 at *
  generalize e.c = c0 at *
  generalize e.ks.length = n0 at *
  generalize shortR e = sh at *
  generalize (longR e).2 = lg at *
  generalize (longR e).1 = bd at *
  clear hn hz
  go_enter Try.func83, Try.ntmps83
  go_upto_region 1 with fail
  rw [HW.out.1, HW.out.2.1]
  go_wp2_with fail
  refine CS.mono ?_
  rintro r w3 ⟨rfl, hb3⟩
  have HZ := Lib.hid (HW.out.2.2.trans (hb3.mono HW.out.2.2.size))
  clear hb3 CS t0 t1 t2 t3 t4 t5 t6
  go_wp2_with fail
  go_ret
  exact ⟨rfl, HZ.out⟩
set_option maxRecDepth 100000 in
set_option maxHeartbeats 8000000 in
theorem closesG_any (mt : E → List Int → Bool) (HM : MatCon mt) (e : E) (A : Option Addr) (cap g o n cp : Nat) (ms : List Int) (w : World) (hN : Nd w w.heap.size e (.agg #[.int .i64 e.k, .int .i64 e.c, .slice A e.ks.length cap])) (hz : szE e ≤ 100000)
    (hn : n = ms.length) (hI : IS w w.heap.size ms (some ⟨g, o, none⟩) cp) (hnb : n ≤ 1000000) :
    Calls Try.prog 84 #[.agg (sdC e A cap).toArray, .slice (some ⟨g, o, none⟩) n cp] w fun r w' => r = .returned (.bool (cloF mt e ms)) ∧ Below w.heap.size w w' := by
  obtain ⟨W1, hW1⟩ : ∃ V, w.alloc (.cells (sdC e A cap).toArray 131) = V := ⟨_, rfl⟩
  have b1 : Below w.heap.size w W1 := by rw [← hW1]; exact below_new _ _
  have x1 : Cells W1 w.heap.size 131 (sdC e A cap).toArray := by rw [← hW1]; exact cells_new _ _ _
  have s1 : W1.heap.size = w.heap.size + 1 := by rw [← hW1]; simp
  obtain ⟨W2, hW2⟩ : ∃ V, W1.alloc (.cells #[.slice (some ⟨g, o, none⟩) n cp] 25) = V := ⟨_, rfl⟩
  have b2 : Below W1.heap.size W1 W2 := by rw [← hW2]; exact below_new _ _
  have x2 : Cells W2 (w.heap.size + 1) 25 #[.slice (some ⟨g, o, none⟩) n cp] := by rw [← hW2, ← s1]; exact cells_new _ _ _
  have b12 := b1.trans (b2.mono b1.size)
  have x12 := x1.on b2
  have CS := searchG102_any e A cap n hnb ⟨w.heap.size, 0, none⟩ ⟨w.heap.size + 1, 0, none⟩ (fun k => mt e (ms.drop (n - k))) W2
    (fun k _ hk W hW => cloG1_any mt HM e A cap w.heap.size (w.heap.size + 1) g o n cp k ms W ((hN.on b12).on hW) hz (x12.on hW) (x2.on hW) hn ((hI.on b12).on hW) hk hnb)
  have hF : cloF mt e ms = srchF (shortR e) (limR e n) (fun k => mt e (ms.drop (n - k))) := by unfold cloF; rw [hn]
  rw [hF]
  obtain ⟨R, hR⟩ : ∃ R, srchF (shortR e) (limR e n) (fun k => mt e (ms.drop (n - k))) = R := ⟨_, rfl⟩
  rw [hR] at CS ⊢
  have t2 : W2.cell? ⟨w.heap.size + 1, 0, none⟩ = some (.slice (some ⟨g, o, none⟩) n cp) := x2.cell 0
  have t0 := x12.cell 0
  have t1 := x12.cell 1
  have t3 := x12.cell 2
  have t4 := x12.cell 3
  have t5 := x12.cell 4
  have t6 := x12.cell 5
  unfold sdC at CS hW1 t0 t1 t3 t4 t5 t6 ⊢
  simp at t0 t1 t3 t4 t5 t6
  have HW := Lib.hid (And.intro hW1 (And.intro hW2 b12))
  clear hN hI hW1 hW2 b1 b2 b12 x1 x2 x12 hR hF HM
  generalize e.k = k0 at *
  generalize e.c = c0 at *
  generalize e.ks.length = n0 at *
  generalize shortR e = sh at *
  generalize (longR e).2 = lg at *
  generalize (longR e).1 = bd at *
  clear hn hz
  go_enter Try.func84, Try.ntmps84
  go_upto_region 1 with fail
  rw [HW.out.1, HW.out.2.1]
  go_wp2_with fail
  refine CS.mono ?_
  rintro r w3 ⟨rfl, hb3⟩
  have HZ := Lib.hid (HW.out.2.2.trans (hb3.mono HW.out.2.2.size))
  clear hb3 CS t0 t1 t2 t3 t4 t5 t6
  go_wp2_with fail
  go_ret
  exact ⟨rfl, HZ.out⟩
end Go.Proofs.Ytegkogadceodlaa

namespace Go.Proofs.Ytegkogadceodlaa
open Go.RowKit Go.Shelf Go.Lib Go.Sort

/-- The cells of a pattern. -/
def ptC (x : Ru) (A1 : Option Addr) (c1 : Nat) (A2 : Option Addr) (c2 : Nat) : List Value := sdC x.l A1 c1 ++ sdC x.r A2 c2 ++ [.bool x.b]
/-- Does a rule apply between two lists? -/
def ruleF (mt : E → List Int → Bool) (x : Ru) (m1 m2 : List Int) : Bool := begF mt x.r m2 && cloF mt x.l m1
/-- A list that lies, of one mark and more. -/
structure ML (w : World) (B p : Nat) (ms : List Int) : Prop where
  c : ∃ g o n cp, Cells w p 25 #[.slice (some ⟨g, o, none⟩) n cp] ∧ n = ms.length ∧ IS w B ms (some ⟨g, o, none⟩) cp ∧ n ≤ 1000000
theorem ML.on {w w' : World} {p : Nat} {ms : List Int} (h : ML w w.heap.size p ms) (hb : Below w.heap.size w w') : ML w' w'.heap.size p ms := by
  obtain ⟨g, o, n, cp, h1, h2, h3, h4⟩ := h.c
  exact ⟨g, o, n, cp, h1.on hb, h2, h3.on hb, h4⟩
set_option maxRecDepth 100000 in
set_option maxHeartbeats 8000000 in
theorem whG_any (mt : E → List Int → Bool) (HM : MatCon mt) (x : Ru) (A1 A2 : Option Addr) (c1 c2 ma mb : Nat) (m1 m2 : List Int) (w : World)
    (n1 : Nd w w.heap.size x.l (.agg #[.int .i64 x.l.k, .int .i64 x.l.c, .slice A1 x.l.ks.length c1])) (n2 : Nd w w.heap.size x.r (.agg #[.int .i64 x.r.k, .int .i64 x.r.c, .slice A2 x.r.ks.length c2])) (z1 : szE x.l ≤ 100000) (z2 : szE x.r ≤ 100000)
    (ha : ML w w.heap.size ma m2) (hb : ML w w.heap.size mb m1) :
    Calls Try.prog 82 #[.agg (ptC x A1 c1 A2 c2).toArray, .pointer (some ⟨ma, 0, none⟩), .pointer (some ⟨mb, 0, none⟩)] w fun e w' => e = .returned (.bool (ruleF mt x m1 m2)) ∧ Below w.heap.size w w' := by
  obtain ⟨W1, hW1⟩ : ∃ V, w.alloc (.cells (ptC x A1 c1 A2 c2).toArray 134) = V := ⟨_, rfl⟩
  have b1 : Below w.heap.size w W1 := by rw [← hW1]; exact below_new _ _
  have x1 : Cells W1 w.heap.size 134 (ptC x A1 c1 A2 c2).toArray := by rw [← hW1]; exact cells_new _ _ _
  obtain ⟨ga, oa, na, pa, xa, la, ia, qa⟩ := (ha.on b1).c
  obtain ⟨gb, ob, nb, pb, xb, lb, ib, qb⟩ := (hb.on b1).c
  have CB := beginsG_any mt HM x.r A2 c2 ga oa na pa m2 W1 (n2.on b1) z2 la ia qa
  have CC := fun W (hW : Below W1.heap.size W1 W) => closesG_any mt HM x.l A1 c1 gb ob nb pb m1 W ((n1.on b1).on hW) z1 lb (ib.on hW) qb
  unfold ruleF
  obtain ⟨R2, hR2⟩ : ∃ R, begF mt x.r m2 = R := ⟨_, rfl⟩
  obtain ⟨R1, hR1⟩ : ∃ R, cloF mt x.l m1 = R := ⟨_, rfl⟩
  rw [hR2] at CB ⊢
  simp only [hR1] at CC
  rw [hR1]
  have p0 : W1.cell? ⟨ma, 0, none⟩ = some (.slice (some ⟨ga, oa, none⟩) na pa) := xa.cell 0
  have t6 := x1.cell 6
  have t7 := x1.cell 7
  have t8 := x1.cell 8
  have t9 := x1.cell 9
  have t10 := x1.cell 10
  have t11 := x1.cell 11
  unfold ptC sdC at x1 hW1 t6 t7 t8 t9 t10 t11 ⊢
  unfold sdC at CB CC
  simp at t6 t7 t8 t9 t10 t11
  simp only [List.cons_append, List.nil_append] at x1 hW1 ⊢
  have HB := Lib.hid (And.intro b1 (And.intro x1 xb))
  have HC := Lib.hid CC
  have HW := Lib.hid hW1
  clear ha hb n1 n2 b1 x1 CC hR1 hR2 hW1 xa xb la lb ia ib qa qb z1 z2 HM
  generalize x.l.k = lk at *
  generalize x.l.c = lc at *
  generalize x.l.ks.length = ln at *
  generalize shortR x.l = s1 at *
  generalize (longR x.l).2 = o1 at *
  generalize (longR x.l).1 = d1 at *
  generalize x.r.k = rk at *
  generalize x.r.c = rc at *
  generalize x.r.ks.length = rn at *
  generalize shortR x.r = s2 at *
  generalize (longR x.r).2 = o2 at *
  generalize (longR x.r).1 = d2 at *
  generalize x.b = xbb at *
  go_enter Try.func82, Try.ntmps82
  go_upto_region 1 with fail
  rw [HW.out]
  go_wp2_with fail
  refine CB.mono ?_
  rintro r w2 ⟨rfl, hb2⟩
  clear CB t6 t7 t8 t9 t10 t11 p0
  cases R2 with
  | false =>
    have HZ := Lib.hid (HB.out.1.trans (hb2.mono HB.out.1.size))
    clear hb2
    go_wp2_with fail
    go_ret
    exact ⟨rfl, HZ.out⟩
  | true =>
    have x2 := HB.out.2.1.on hb2
    have t0 := x2.cell 0
    have t1 := x2.cell 1
    have t2 := x2.cell 2
    have t3 := x2.cell 3
    have t4 := x2.cell 4
    have t5 := x2.cell 5
    simp at t0 t1 t2 t3 t4 t5
    have p1 : w2.cell? ⟨mb, 0, none⟩ = some (.slice (some ⟨gb, ob, none⟩) nb pb) := (HB.out.2.2.on hb2).cell 0
    have CC := HC.out w2 hb2
    have HZ := Lib.hid (HB.out.1.trans (hb2.mono HB.out.1.size))
    clear hb2 x2
    go_wp2_with fail
    refine CC.mono ?_
    rintro r w3 ⟨rfl, hb3⟩
    have HZ3 := Lib.hid (HZ.out.trans (hb3.mono HZ.out.size))
    clear hb3 CC
    go_wp2_with fail
    go_ret
    exact ⟨by simp, HZ3.out⟩
/-- The first of some rules that has a property; -1: none has. -/
def whF (p : Ru → Bool) : List Ru → Nat → Int
  | [], _ => -1
  | x :: r, i => if p x then (i : Int) else whF p r (i + 1)
theorem whF_hit (p : Ru → Bool) : ∀ (rs : List Ru) (i k : Nat) (x : Ru), rs[k]? = some x → p x = true → (∀ j y, j < k → rs[j]? = some y → p y = false) → whF p rs i = ((i + k : Nat) : Int)
  | [], i, k, x, h, _, _ => by simp at h
  | y :: r, i, 0, x, h, hp, _ => by
    simp at h
    subst h
    unfold whF
    rw [if_pos hp]
    rfl
  | y :: r, i, k + 1, x, h, hp, hf => by
    unfold whF
    rw [if_neg (by rw [hf 0 y (by omega) rfl]; simp), whF_hit p r (i + 1) k x (by simpa using h) hp (fun j z hj hz => hf (j + 1) z (by omega) (by simpa using hz))]
    omega
theorem whF_none (p : Ru → Bool) : ∀ (rs : List Ru) (i : Nat), (∀ y ∈ rs, p y = false) → whF p rs i = -1
  | [], _, _ => rfl
  | y :: r, i, h => by
    unfold whF
    rw [if_neg (by rw [h y (List.mem_cons_self ..)]; simp)]
    exact whF_none p r (i + 1) (fun z hz => h z (List.mem_cons_of_mem _ hz))
theorem ptV_len {w : World} {B : Nat} {x : Ru} {cs : List Value} (h : PtV w B x cs) : cs.length = 13 := by
  obtain ⟨A1, c1, A2, c2, rfl, _⟩ := h
  rfl
theorem flat13 : ∀ (L : List (List Value)) (i : Nat) (cs : List Value), (∀ c ∈ L, c.length = 13) → L[i]? = some cs → ∀ j u, cs[j]? = some u → L.flatten[i * 13 + j]? = some u
  | [], i, cs, _, h, _, _, _ => by simp at h
  | c :: r, 0, cs, hl, h, j, u, hu => by
    simp at h
    subst h
    have := (List.getElem?_eq_some_iff.1 hu).1
    rw [List.flatten_cons, Nat.zero_mul, Nat.zero_add, List.getElem?_append_left this]
    exact hu
  | c :: r, i + 1, cs, hl, h, j, u, hu => by
    have hc := hl c (List.mem_cons_self ..)
    rw [List.flatten_cons, List.getElem?_append_right (by omega), hc, show (i + 1) * 13 + j - 13 = i * 13 + j by omega]
    exact flat13 r i cs (fun d hd => hl d (List.mem_cons_of_mem _ hd)) (by simpa using h) j u hu
theorem ptsV_13 {w : World} {B : Nat} {rs : List Ru} {L : List (List Value)} (h : PtsV w B rs L) : ∀ c ∈ L, c.length = 13 := fun c hc => by
  obtain ⟨i, hi, he⟩ := List.mem_iff_getElem.1 hc
  have h1 : L[i]? = some c := by rw [List.getElem?_eq_getElem hi, he]
  exact ptV_len (h.p i (rs[i]'(by rw [← h.l]; exact hi)) c (List.getElem?_eq_getElem (by rw [← h.l]; exact hi)) h1)
set_option maxRecDepth 100000 in
set_option maxHeartbeats 8000000 in
theorem ixG_any (mt : E → List Int → Bool) (HM : MatCon mt) (rs : List Ru) (L : List (List Value)) (Ar : Option Addr) (cr ma mb : Nat) (m1 m2 : List Int) (w : World) (hrs : rs.length ≤ 100000) (hz : ∀ x ∈ rs, szE x.l ≤ 100000 ∧ szE x.r ≤ 100000)
    (hp : PtsV w w.heap.size rs L) (hr : rs ≠ [] → ∃ r, Ar = some ⟨r, 0, none⟩ ∧ r < w.heap.size ∧ ∀ (i : Nat) (u : Value), L.flatten[i]? = some u → w.cell? ⟨r, i, none⟩ = some u) (_hcr : rs.length ≤ cr) (ha : ML w w.heap.size ma m2) (hb : ML w w.heap.size mb m1) :
    Calls Try.prog 81 #[.slice Ar rs.length cr, .func (.func 82) #[] #[.pointer (some ⟨ma, 0, none⟩), .pointer (some ⟨mb, 0, none⟩)]] w fun e w' => e = .returned (.int .i64 (whF (fun x => ruleF mt x m1 m2) rs 0)) ∧ Below w.heap.size w w' := by
  obtain ⟨R, hR⟩ : ∃ R, whF (fun x => ruleF mt x m1 m2) rs 0 = R := ⟨_, rfl⟩
  obtain ⟨n, hn⟩ : ∃ n, rs.length = n := ⟨_, rfl⟩
  rw [hR]
  rw [hn] at hrs _hcr ⊢
  have HH := Lib.hid (And.intro hz (And.intro hp (And.intro hr (And.intro ha (And.intro hb (And.intro hR (And.intro hn HM)))))))
  clear hz hp hr ha hb hR hn
  go_enter Try.func81, Try.ntmps81
  go_wp2_with fail
  go_loopw [5, 8] (fun _ i wr => ∃ k : Nat, k ≤ n ∧ i = .int .i64 (k : Int) ∧ (∀ j y, j < k → rs[j]? = some y → ruleF mt y m1 m2 = false) ∧ Below w.heap.size w wr) (fun _ i _ => n - (RowKit.intOf i).toNat)
  case atStart => exact ⟨0, Nat.zero_le _, rfl, fun j y hj => by omega, Below.refl _ _⟩
  case round =>
    obtain ⟨k, hk, rfl, hf, hbw⟩ := hrel
    by_cases hkn : k < n
    · have i1 : (k : Int) < (n : Int) := by omega
      have ik : (k : Int) ≤ 100000 := by omega
      obtain ⟨x, hx⟩ : ∃ x, rs[k]? = some x := ⟨_, List.getElem?_eq_getElem (by rw [HH.out.2.2.2.2.2.2.1]; exact hkn)⟩
      obtain ⟨r, rfl, hrl, hcell⟩ := HH.out.2.2.1 (by rintro rfl; simp at hx)
      have hp := HH.out.2.1
      obtain ⟨cs, hcs⟩ : ∃ cs, L[k]? = some cs := ⟨_, List.getElem?_eq_getElem (by rw [hp.l, HH.out.2.2.2.2.2.2.1]; exact hkn)⟩
      have hat := flat13 L k cs (ptsV_13 hp) hcs
      obtain ⟨A1, c1, A2, c2, rfl, n1, n2⟩ := hp.p k x cs hx hcs
      have hzx := HH.out.1 x (List.mem_of_getElem? hx)
      have CW := whG_any mt HH.out.2.2.2.2.2.2.2 x A1 A2 c1 c2 ma mb m1 m2 wr (n1.on hbw) (n2.on hbw) hzx.1 hzx.2 (HH.out.2.2.2.1.on hbw) (HH.out.2.2.2.2.1.on hbw)
      have cc : ∀ j u, (sdC x.l A1 c1 ++ sdC x.r A2 c2 ++ [.bool x.b])[j]? = some u → wr.cell? ⟨r, k * 13 + j, none⟩ = some u := fun j u hu => (hbw.cell (p := ⟨r, k * 13 + j, none⟩) hrl).trans (hcell _ u (hat j u hu))
      have hstep : ∀ v, ruleF mt x m1 m2 = v → v = false → ∀ j y, j < k + 1 → rs[j]? = some y → ruleF mt y m1 m2 = false := fun v h1 h2 j y hj hy => by
        by_cases e : j = k
        · subst e
          rw [hx] at hy
          cases hy
          rw [h1, h2]
        · exact hf j y (by omega) hy
      have hhit : ruleF mt x m1 m2 = true → R = (k : Int) := fun h => by
        rw [← HH.out.2.2.2.2.2.1, whF_hit _ rs 0 k x hx h hf]
        omega
      obtain ⟨V, hV⟩ : ∃ V, ruleF mt x m1 m2 = V := ⟨_, rfl⟩
      rw [hV] at CW
      have HX := Lib.hid (And.intro (hstep V hV) (And.intro (fun h : V = true => hhit (hV.trans h)) hbw))
      have e0 := cc 0 _ rfl
      have e1 := cc 1 _ rfl
      have e2 := cc 2 _ rfl
      have e3 := cc 3 _ rfl
      have e4 := cc 4 _ rfl
      have e5 := cc 5 _ rfl
      have e6 := cc 6 _ rfl
      have e7 := cc 7 _ rfl
      have e8 := cc 8 _ rfl
      have e9 := cc 9 _ rfl
      have e10 := cc 10 _ rfl
      have e11 := cc 11 _ rfl
      have e12 := cc 12 _ rfl
      unfold ptC sdC at CW
      simp only [List.cons_append, List.nil_append] at CW
      clear hf hbw hx hrl hcell hp hcs hat n1 n2 hzx cc hstep hhit hV
      generalize x.l.k = lk at *
      generalize x.l.c = lc at *
      generalize x.l.ks.length = ln at *
      generalize shortR x.l = s1 at *
      generalize (longR x.l).2 = o1 at *
      generalize (longR x.l).1 = d1 at *
      generalize x.r.k = rk at *
      generalize x.r.c = rc at *
      generalize x.r.ks.length = rn at *
      generalize shortR x.r = s2 at *
      generalize (longR x.r).2 = o2 at *
      generalize (longR x.r).1 = d2 at *
      generalize x.b = xbb at *
      simp only [Nat.add_zero] at e0
      go_wp2_with fail
      refine CW.mono ?_
      rintro e w2 ⟨rfl, hb2⟩
      clear CW e0 e1 e2 e3 e4 e5 e6 e7 e8 e9 e10 e11 e12
      have HB := Lib.hid (HX.out.2.2.trans (hb2.mono HX.out.2.2.size))
      clear hb2
      cases V with
      | true =>
        go_wp2_with fail
        go_ret
        have hRR := HX.out.2.1 (by trivial)
        refine ⟨?_, HB.out⟩
        rw [hRR]
        rfl
      | false =>
        have hend : ∃ j : Nat, j ≤ n ∧ Value.int .i64 ((k : Int) + 1) = .int .i64 (j : Int) ∧ (∀ i y, i < j → rs[i]? = some y → ruleF mt y m1 m2 = false) ∧ Below w.heap.size w w2 := ⟨k + 1, by omega, by simp, HX.out.1 rfl, HB.out⟩
        have HEND := Lib.hid hend
        clear hend
        go_wp2_with fail
        go_roundw
        case rel => exact HEND.out
        case measure => simp [RowKit.intOf]; omega
    · have i1 : ¬ (k : Int) < (n : Int) := by omega
      have hN : R = -1 := by
        rw [← HH.out.2.2.2.2.2.1]
        refine whF_none _ _ _ (fun y hy => ?_)
        obtain ⟨i, hi, he⟩ := List.mem_iff_getElem.1 hy
        exact hf i y (by rw [HH.out.2.2.2.2.2.2.1] at hi; omega) (by rw [List.getElem?_eq_getElem hi, he])
      have HB := Lib.hid (And.intro hbw hN)
      clear hf hbw hN
      go_wp2_with fail
      go_ret
      refine ⟨?_, HB.out.1⟩
      rw [HB.out.2]
      rfl
end Go.Proofs.Ytegkogadceodlaa

namespace Go.Proofs.Ytegkogadceodlaa
open Go.RowKit Go.Shelf Go.Lib Go.Sort

theorem rdF_snoc (ig kp ids : List Int) (id : Int) : rdF ig kp (ids ++ [id]) = rdS ig kp (rdF ig kp ids) id := by
  unfold rdF
  rw [List.foldl_append]
  rfl
/-- Of each place: whether it is hidden, and where it begins. -/
structure RdI (s : List Bool × List Int × List Int) (n : Nat) : Prop where
  h : s.1.length = n
  p : s.2.2.length = n
  m : 1 ≤ s.2.1.length
  b : s.2.1.length ≤ n + 1
  a : ∀ (i : Nat) (h : Bool), s.1[i]? = some h → ∃ P : Nat, s.2.2[i]? = some (P : Int) ∧ 1 ≤ P ∧ P ≤ s.2.1.length ∧ (h = false → P < s.2.1.length)
theorem rdI_step {ig kp : List Int} {s : List Bool × List Int × List Int} {n : Nat} (h : RdI s n) (id : Int) : RdI (rdS ig kp s id) (n + 1) := by
  unfold rdS
  dsimp only
  obtain ⟨H, hH⟩ : ∃ H, (ig.contains (clsI id) && (decide (0 < s.1.length) && !kp.contains (s.2.1.getLast?.getD 0))) = H := ⟨_, rfl⟩
  rw [hH]
  refine ⟨by simp [h.h], by simp [h.p], ?_, ?_, fun i hd hi => ?_⟩
  · have := h.m
    cases H <;> simp <;> omega
  · have := h.b
    cases H <;> simp <;> omega
  · have hm := h.m
    by_cases e : i < s.1.length
    · rw [List.getElem?_append_left e] at hi
      obtain ⟨P, h1, h2, h3, h4⟩ := h.a i hd hi
      refine ⟨P, ?_, h2, ?_, fun hf => ?_⟩
      · rw [List.getElem?_append_left (by rw [h.p, ← h.h]; exact e)]
        exact h1
      · cases H <;> simp <;> omega
      · have := h4 hf
        cases H <;> simp <;> omega
    · rw [List.getElem?_append_right (by omega)] at hi
      have h0 : i - s.1.length = 0 := by
        have := (List.getElem?_eq_some_iff.1 hi).1
        simp at this
        omega
      rw [h0] at hi
      simp at hi
      subst hi
      refine ⟨s.2.1.length, ?_, hm, ?_, fun hf => ?_⟩
      · rw [List.getElem?_append_right (by rw [h.p, ← h.h]; omega), h.p, ← h.h, h0]
        rfl
      · cases H <;> simp
      · subst hf
        simp
theorem rdI_all (ig kp : List Int) : ∀ (ids : List Int) (s : List Bool × List Int × List Int) (n : Nat), RdI s n → RdI (ids.foldl (rdS ig kp) s) (n + ids.length)
  | [], s, n, h => h
  | id :: r, s, n, h => by
    have := rdI_all ig kp r (rdS ig kp s id) (n + 1) (rdI_step h id)
    rw [List.foldl_cons, List.length_cons, show n + (r.length + 1) = n + 1 + r.length by omega]
    exact this
theorem rdI (ig kp ids : List Int) : RdI (rdF ig kp ids) ids.length := by
  have := rdI_all ig kp ids ([], [36], []) 0 ⟨rfl, rfl, by simp, by simp, fun i h hi => by simp at hi⟩
  rwa [Nat.zero_add] at this
theorem PtsV.mono {w : World} {B B' : Nat} {rs : List Ru} {L : List (List Value)} (h : PtsV w B rs L) (hB : B ≤ B') : PtsV w B' rs L :=
  ⟨h.l, fun i x cs h1 h2 => by
    obtain ⟨A1, c1, A2, c2, e, n1, n2⟩ := h.p i x cs h1 h2
    exact ⟨A1, c1, A2, c2, e, n1.mono hB, n2.mono hB⟩⟩
theorem RdO.on {w w' : World} {B : Nat} {t : Tx} {ids : List Int} {L : List (List Value)} {vr vh vm vp : Value} (h : RdO w B t ids L vr vh vm vp) (hb : Below w.heap.size w w') (hB : B ≤ w.heap.size) : RdO w' B t ids L vr vh vm vp :=
  ⟨ownsRow_below h.r hb, h.p.below (hb.mono hB), ownsRow_below h.h hb, ownsRow_below h.m hb, ownsRow_below h.s hb, h.i⟩
theorem own_cells {w : World} {B e z n : Nat} {v : Value} {xs : List Value} (ho : w.ownsRow B e z v n xs) (hn : 0 < n) : ∃ g c, v = .slice (some ⟨g, 0, none⟩) n c ∧ n ≤ c ∧ c ≤ maxLen ∧ g < w.heap.size ∧ ∀ (j : Nat) (u : Value), xs[j]? = some u → w.cell? ⟨g, j, none⟩ = some u := by
  rcases ho.2 with ⟨_, h0⟩ | ⟨g, cap, cur, h1, h2, h3, h4, h5, _⟩
  · omega
  · refine ⟨g, cap, h1, h4, h5, (Array.getElem?_eq_some_iff.1 h3).1, fun j u hj => ?_⟩
    have := World.ownsRow.cells ho (g := g) (by rw [h1]; rfl) j u hj
    rwa [add0] at this
theorem own_any {w : World} {B e z n : Nat} {v : Value} {xs : List Value} (ho : w.ownsRow B e z v n xs) : ∃ A c, v = .slice A n c ∧ n ≤ c ∧ (0 < n → ∃ g, A = some ⟨g, 0, none⟩ ∧ g < w.heap.size ∧ ∀ (j : Nat) (u : Value), xs[j]? = some u → w.cell? ⟨g, j, none⟩ = some u) := by
  by_cases hn : 0 < n
  · obtain ⟨g, c, h1, h2, _, h4, h5⟩ := own_cells ho hn
    exact ⟨_, c, h1, h2, fun _ => ⟨g, rfl, h4, h5⟩⟩
  · rcases ho.2 with ⟨h1, h0⟩ | ⟨g, cap, cur, h1, h2, h3, h4, h5, _⟩
    · exact ⟨none, 0, by rw [h1, h0], by omega, fun h => absurd h hn⟩
    · exact ⟨_, cap, h1, h4, fun h => absurd h hn⟩
theorem bL_at {xs : List Bool} {i : Nat} {b : Bool} (h : xs[i]? = some b) : (bL xs)[i]? = some (.bool b) := by simp [bL, h]
theorem iL_at {xs : List Int} {i : Nat} {z : Int} (h : xs[i]? = some z) : (iL xs)[i]? = some (.int .i64 z) := by simp [iL, h]
/-- Which rule decides at a place; -1: none. -/
def whichR (mt : E → List Int → Bool) (t : Tx) (ids : List Int) (a : Int) : Int :=
  if 0 < a ∧ (rdF t.ig t.kp ids).1[a.toNat]? = some false then whF (fun x => ruleF mt x ((rdF t.ig t.kp ids).2.1.take (((rdF t.ig t.kp ids).2.2[a.toNat]?).getD 0).toNat) ((rdF t.ig t.kp ids).2.1.drop (((rdF t.ig t.kp ids).2.2[a.toNat]?).getD 0).toNat)) t.rs 0 else -1
theorem whichR_at (mt : E → List Int → Bool) (t : Tx) (ids : List Int) {i P : Nat} (hi : 0 < i) (h : (rdF t.ig t.kp ids).1[i]? = some false) (hp : (rdF t.ig t.kp ids).2.2[i]? = some (P : Int)) :
    whichR mt t ids (i : Int) = whF (fun x => ruleF mt x ((rdF t.ig t.kp ids).2.1.take P) ((rdF t.ig t.kp ids).2.1.drop P)) t.rs 0 := by
  unfold whichR
  rw [if_pos ⟨by omega, by rw [Int.toNat_natCast]; exact h⟩, Int.toNat_natCast, hp]
  simp
theorem whichR_no (mt : E → List Int → Bool) (t : Tx) (ids : List Int) {a : Int} (h : ¬ (0 < a ∧ (rdF t.ig t.kp ids).1[a.toNat]? = some false)) : whichR mt t ids a = -1 := if_neg h
end Go.Proofs.Ytegkogadceodlaa

namespace Go.Proofs.Ytegkogadceodlaa
open Go.RowKit Go.Shelf Go.Lib Go.Sort

set_option maxRecDepth 100000 in
set_option maxHeartbeats 8000000 in
/-- At a place that isn't hidden, behind the first one. -/
theorem whichM_any (x nr cr gh nh ch gm nm cm gp np cp i P : Nat) (Ar : Option Addr) (N : Int) (w : World)
    (x0 : w.cell? ⟨x, 0, none⟩ = some (.slice Ar nr cr)) (x1 : w.cell? ⟨x, 1, none⟩ = some (.slice (some ⟨gh, 0, none⟩) nh ch)) (x2 : w.cell? ⟨x, 2, none⟩ = some (.slice (some ⟨gm, 0, none⟩) nm cm)) (x3 : w.cell? ⟨x, 3, none⟩ = some (.slice (some ⟨gp, 0, none⟩) np cp))
    (hcm : nm ≤ cm) (_hzm : nm ≤ 1000000) (hi : 1 ≤ i) (hih : i < nh) (hip : i < np) (_hP : 1 ≤ P) (hPm : P < nm) (eh : w.cell? ⟨gh, i, none⟩ = some (.bool false)) (ep : w.cell? ⟨gp, i, none⟩ = some (.int .i64 (P : Int)))
    (IX : ∀ W a b, Below w.heap.size w W → Cells W a 25 #[.slice (some ⟨gm, P, none⟩) (nm - P) (cm - P)] → Cells W b 25 #[.slice (some ⟨gm, 0, none⟩) P cm] →
      Calls Try.prog 81 #[.slice Ar nr cr, .func (.func 82) #[] #[.pointer (some ⟨a, 0, none⟩), .pointer (some ⟨b, 0, none⟩)]] W fun e w' => e = .returned (.int .i64 N) ∧ Below W.heap.size W w') :
    Calls Try.prog 51 #[.pointer (some ⟨x, 0, none⟩), .int .i64 (i : Int)] w fun e w' => e = .returned (.int .i64 N) ∧ Below w.heap.size w w' := by
  have i1 : ¬ (i : Int) ≤ 0 := by omega
  have i2 : ¬ (nh : Int) ≤ (i : Int) := by omega
  have i3 : (i : Int) < (nh : Int) := by omega
  have i4 : (i : Int) < (np : Int) := by omega
  have i5 : (P : Int) ≤ (cm : Int) := by omega
  have i6 : (P : Int) ≤ (nm : Int) := by omega
  have i7 : (nm : Int) ≤ (cm : Int) := by omega
  have X2 : ∀ p : Later (fun _ => False) w, p.W.cell? ⟨x, 2, none⟩ = some (.slice (some ⟨gm, 0, none⟩) nm cm) := fun p => cell_later x2 (fun hf => hf) p
  have X3 : ∀ p : Later (fun _ => False) w, p.W.cell? ⟨x, 3, none⟩ = some (.slice (some ⟨gp, 0, none⟩) np cp) := fun p => cell_later x3 (fun hf => hf) p
  have EP : ∀ p : Later (fun _ => False) w, p.W.cell? ⟨gp, i, none⟩ = some (.int .i64 (P : Int)) := fun p => cell_later ep (fun hf => hf) p
  have HX := Lib.hid x0
  have HH := Lib.hid IX
  clear x0 IX
  go_enter Try.func51, Try.ntmps51
  go_wp2_with fail
  clear x1 x2 x3 eh ep
  refine wp_region_mixF (fun i => if 24 ≤ i then 2 else 0) [0, 1, 2, 3, 4, 5, 6, 7, 8, 9, 10, 11, 12, 13, 14, 15, 16, 17, 18, 19, 20, 21, 22, 23] 4 (fun w' => ∃ p : Later (fun _ => False) w, w' = p.W) (by kernel_rfl) (by kernel_rfl) ⟨⟨_, Fz.drew w⟩, rfl⟩ ?_
  simp only [opsAt, List.filterMap_cons, List.filterMap_nil, List.getElem?_toArray, List.getElem?_cons_zero, List.getElem?_cons_succ]
  change wpQuiet _ _ _ _ [_, _, _, _, _, _, _, _, _, _, _, _, _, _, _, _, _, _, _, _, _, _, _, _] _
  repeat (go_big_quiet_step (fail))
  refine wpQuiet_nil ?_
  clear X2 X3 EP
  have zz := Fz.drew (X := fun _ => False) w
  have bd := zz.below (B := w.heap.size) (Nat.le_refl _) (fun _ _ h => h)
  obtain ⟨W4, hW4⟩ : ∃ V, ({ w with drawn := w.drawn + 1 } : World) = V := ⟨_, rfl⟩
  rw [hW4] at zz bd ⊢
  clear hW4
  have HZ := Lib.hid (And.intro zz bd)
  clear zz bd
  refine wpFreeM_step [24, 25] (by kernel_rfl) ⟨?_, ?_, trivial⟩
  · refine wpOp_of_list rfl ?_
    go_wp2_with fail
    have bq1 := below_new W4 (.cells #[.slice none 0 0] 25)
    have z1 : Cells (W4.alloc (.cells #[.slice none 0 0] 25)) W4.heap.size 25 #[.slice none 0 0] := cells_new _ _ _
    have s1 : (W4.alloc (.cells #[.slice none 0 0] 25)).heap.size = W4.heap.size + 1 := by simp
    obtain ⟨W5, hW5⟩ : ∃ V, W4.alloc (.cells #[.slice none 0 0] 25) = V := ⟨_, rfl⟩
    rw [hW5] at bq1 z1 s1 ⊢
    clear hW5
    have H5 := Lib.hid (And.intro bq1 (And.intro z1 (HZ.out.1.trans (Fz.of_below bq1))))
    clear bq1 z1
    refine ⟨⟨⟨_, H5.out.2.2⟩, rfl⟩, ?_⟩
    refine wpFreeM_step [25] (by kernel_rfl) ⟨?_, trivial⟩
    refine wpOp_of_list rfl ?_
    go_wp2_with fail
    have bq2 := below_new W5 (.cells #[.slice none 0 0] 25)
    have z2 : Cells (W5.alloc (.cells #[.slice none 0 0] 25)) (W4.heap.size + 1) 25 #[.slice none 0 0] := by rw [← s1]; exact cells_new _ _ _
    obtain ⟨W6, hW6⟩ : ∃ V, W5.alloc (.cells #[.slice none 0 0] 25) = V := ⟨_, rfl⟩
    rw [hW6] at bq2 z2 ⊢
    clear hW6
    have z1 := H5.out.2.1.on bq2
    have H6 := Lib.hid (And.intro (H5.out.1.trans (bq2.mono H5.out.1.size)) (And.intro z1 (And.intro z2 (H5.out.2.2.trans (Fz.of_below bq2)))))
    have v1 := z1.cell 0
    have v2 := z2.cell 0
    have f1 := z1.froz 0
    have f2 := z2.froz 0
    simp at v1 v2
    clear bq2 z1 z2
    refine ⟨⟨⟨_, H6.out.2.2.2⟩, rfl⟩, ?_⟩
    refine wpFreeM_step [26] (by kernel_rfl) ⟨?_, trivial⟩
    refine wpOp_of_list rfl ?_
    go_wp2_with fail
    have y1 := H6.out.2.1.set 0 (.slice (some ⟨gm, 0, none⟩) P cm)
    have g1 := Fz.set (X := fun k => k = W4.heap.size) W6 (W4.heap.size) 0 (.slice (some ⟨gm, 0, none⟩) P cm) rfl
    obtain ⟨W7, hW7⟩ : ∃ V, W6.setCell ⟨W4.heap.size, 0, none⟩ (.slice (some ⟨gm, 0, none⟩) P cm) = V := ⟨_, rfl⟩
    rw [hW7] at y1 g1 ⊢
    clear hW7
    have g2 := Fz.set (X := fun k => k = W4.heap.size + 1) W7 (W4.heap.size + 1) 0 (.slice (some ⟨gm, P, none⟩) (nm - P) (cm - P)) rfl
    have y2' := (g1.cells (by omega) H6.out.2.2.1).set 0 (.slice (some ⟨gm, P, none⟩) (nm - P) (cm - P))
    have y1' := g2.cells (by omega) y1
    have v3 := (g1.cells (by omega) H6.out.2.2.1).cell 0
    have f3 := (g1.cells (by omega) H6.out.2.2.1).froz 0
    simp at v3
    have hws := HZ.out.2.size
    have g1' := g1.mono (Y := fun k => w.heap.size ≤ k) (fun k hk => by omega)
    have fz7 := (H6.out.2.2.2.mono (Y := fun k => w.heap.size ≤ k) (fun k hk => hk.elim)).trans g1'
    have h7 : ∃ p : Later (fun _ => False) w, W7 = p.W := ⟨⟨W7, ⟨fz7.os, fz7.tape, fz7.output, fz7.size, fun k hk _ => fz7.block k hk (by omega)⟩⟩, rfl⟩
    have b8 := (fz7.trans (g2.mono (Y := fun k => w.heap.size ≤ k) (fun k hk => by omega))).below (B := w.heap.size) (Nat.le_refl _) (fun k hk e => by omega)
    have IX := HH.out _ (W4.heap.size + 1) (W4.heap.size) b8 y2' y1'
    have x08 : (W7.setCell ⟨W4.heap.size + 1, 0, none⟩ (.slice (some ⟨gm, P, none⟩) (nm - P) (cm - P))).cell? ⟨x, 0, none⟩ = some (.slice Ar nr cr) := (b8.cell (p := ⟨x, 0, none⟩) (block_lt_of_cell HX.out)).trans HX.out
    have H8 := Lib.hid b8
    clear y1 y1' y2' g1 g2 g1' fz7 b8 v1 v2 f1 f2
    refine ⟨h7, ?_⟩
    clear h7
    refine wpFreeM_step [27] (by kernel_rfl) ⟨?_, trivial⟩
    refine wpOp_of_list rfl ?_
    go_wp2_with fail
    refine ⟨⟨⟨_, ⟨H8.out.os, H8.out.tape, H8.out.output, H8.out.size, fun k hk _ => H8.out.block k hk⟩⟩, rfl⟩, ?_⟩
    unfold wpFreeM
    go_wp2_with fail
    refine IX.mono ?_
    rintro e w9 ⟨rfl, hb9⟩
    have H9 := Lib.hid (H8.out.trans (hb9.mono H8.out.size))
    clear hb9 IX
    go_wp2_with fail
    go_ret
    exact ⟨rfl, H9.out⟩
  · refine wpOp_of_list rfl ?_
    go_wp2_with fail
    have bq1 := below_new W4 (.cells #[.slice none 0 0] 25)
    have z1 : Cells (W4.alloc (.cells #[.slice none 0 0] 25)) W4.heap.size 25 #[.slice none 0 0] := cells_new _ _ _
    have s1 : (W4.alloc (.cells #[.slice none 0 0] 25)).heap.size = W4.heap.size + 1 := by simp
    obtain ⟨W5, hW5⟩ : ∃ V, W4.alloc (.cells #[.slice none 0 0] 25) = V := ⟨_, rfl⟩
    rw [hW5] at bq1 z1 s1 ⊢
    clear hW5
    have H5 := Lib.hid (And.intro bq1 (And.intro z1 (HZ.out.1.trans (Fz.of_below bq1))))
    clear bq1 z1
    refine ⟨⟨⟨_, H5.out.2.2⟩, rfl⟩, ?_⟩
    refine wpFreeM_step [24] (by kernel_rfl) ⟨?_, trivial⟩
    refine wpOp_of_list rfl ?_
    go_wp2_with fail
    have bq2 := below_new W5 (.cells #[.slice none 0 0] 25)
    have z2 : Cells (W5.alloc (.cells #[.slice none 0 0] 25)) (W4.heap.size + 1) 25 #[.slice none 0 0] := by rw [← s1]; exact cells_new _ _ _
    obtain ⟨W6, hW6⟩ : ∃ V, W5.alloc (.cells #[.slice none 0 0] 25) = V := ⟨_, rfl⟩
    rw [hW6] at bq2 z2 ⊢
    clear hW6
    have z1 := H5.out.2.1.on bq2
    have H6 := Lib.hid (And.intro (H5.out.1.trans (bq2.mono H5.out.1.size)) (And.intro z1 (And.intro z2 (H5.out.2.2.trans (Fz.of_below bq2)))))
    have v1 := z1.cell 0
    have v2 := z2.cell 0
    have f1 := z1.froz 0
    have f2 := z2.froz 0
    simp at v1 v2
    clear bq2 z1 z2
    refine ⟨⟨⟨_, H6.out.2.2.2⟩, rfl⟩, ?_⟩
    refine wpFreeM_step [26] (by kernel_rfl) ⟨?_, trivial⟩
    refine wpOp_of_list rfl ?_
    go_wp2_with fail
    have y1 := H6.out.2.2.1.set 0 (.slice (some ⟨gm, 0, none⟩) P cm)
    have g1 := Fz.set (X := fun k => k = W4.heap.size + 1) W6 (W4.heap.size + 1) 0 (.slice (some ⟨gm, 0, none⟩) P cm) rfl
    obtain ⟨W7, hW7⟩ : ∃ V, W6.setCell ⟨W4.heap.size + 1, 0, none⟩ (.slice (some ⟨gm, 0, none⟩) P cm) = V := ⟨_, rfl⟩
    rw [hW7] at y1 g1 ⊢
    clear hW7
    have g2 := Fz.set (X := fun k => k = W4.heap.size) W7 (W4.heap.size) 0 (.slice (some ⟨gm, P, none⟩) (nm - P) (cm - P)) rfl
    have y2' := (g1.cells (by omega) H6.out.2.1).set 0 (.slice (some ⟨gm, P, none⟩) (nm - P) (cm - P))
    have y1' := g2.cells (by omega) y1
    have v3 := (g1.cells (by omega) H6.out.2.1).cell 0
    have f3 := (g1.cells (by omega) H6.out.2.1).froz 0
    simp at v3
    have hws := HZ.out.2.size
    have g1' := g1.mono (Y := fun k => w.heap.size ≤ k) (fun k hk => by omega)
    have fz7 := (H6.out.2.2.2.mono (Y := fun k => w.heap.size ≤ k) (fun k hk => hk.elim)).trans g1'
    have h7 : ∃ p : Later (fun _ => False) w, W7 = p.W := ⟨⟨W7, ⟨fz7.os, fz7.tape, fz7.output, fz7.size, fun k hk _ => fz7.block k hk (by omega)⟩⟩, rfl⟩
    have b8 := (fz7.trans (g2.mono (Y := fun k => w.heap.size ≤ k) (fun k hk => by omega))).below (B := w.heap.size) (Nat.le_refl _) (fun k hk e => by omega)
    have IX := HH.out _ (W4.heap.size) (W4.heap.size + 1) b8 y2' y1'
    have x08 : (W7.setCell ⟨W4.heap.size, 0, none⟩ (.slice (some ⟨gm, P, none⟩) (nm - P) (cm - P))).cell? ⟨x, 0, none⟩ = some (.slice Ar nr cr) := (b8.cell (p := ⟨x, 0, none⟩) (block_lt_of_cell HX.out)).trans HX.out
    have H8 := Lib.hid b8
    clear y1 y1' y2' g1 g2 g1' fz7 b8 v1 v2 f1 f2
    refine ⟨h7, ?_⟩
    clear h7
    refine wpFreeM_step [27] (by kernel_rfl) ⟨?_, trivial⟩
    refine wpOp_of_list rfl ?_
    go_wp2_with fail
    refine ⟨⟨⟨_, ⟨H8.out.os, H8.out.tape, H8.out.output, H8.out.size, fun k hk _ => H8.out.block k hk⟩⟩, rfl⟩, ?_⟩
    unfold wpFreeM
    go_wp2_with fail
    refine IX.mono ?_
    rintro e w9 ⟨rfl, hb9⟩
    have H9 := Lib.hid (H8.out.trans (hb9.mono H8.out.size))
    clear hb9 IX
    go_wp2_with fail
    go_ret
    exact ⟨rfl, H9.out⟩
set_option maxRecDepth 100000 in
set_option maxHeartbeats 8000000 in
theorem whichG_any (mt : E → List Int → Bool) (HM : MatCon mt) (t : Tx) (ids : List Int) (L : List (List Value)) (vr vh vm vp : Value) (x B : Nat) (w : World) (hB : B ≤ w.heap.size) (ro : RdO w B t ids L vr vh vm vp) (hx : Cells w x 109 #[vr, vh, vm, vp])
    (hrs : t.rs.length ≤ 100000) (hz : ∀ r ∈ t.rs, szE r.l ≤ 100000 ∧ szE r.r ≤ 100000) (hids : ids.length ≤ 100000) (a : Int) :
    Calls Try.prog 51 #[.pointer (some ⟨x, 0, none⟩), .int .i64 a] w fun e w' => e = .returned (.int .i64 (whichR mt t ids a)) ∧ Below w.heap.size w w' := by
  have rd := rdI t.ig t.kp ids
  obtain ⟨Ar, cr, rfl, lr, er⟩ := own_any ro.r
  obtain ⟨Ah, ch, rfl, lh, eh⟩ := own_any ro.h
  obtain ⟨gm, cm, rfl, lm, mm, gml, em⟩ := own_cells ro.m (by have := rd.m; omega)
  obtain ⟨Ap, cp, rfl, lp, ep⟩ := own_any ro.s
  have x0 := hx.cell 0
  have x1 := hx.cell 1
  have x2 := hx.cell 2
  have x3 := hx.cell 3
  simp at x0 x1 x2 x3
  have hrh := rd.h
  have hrp := rd.p
  have hrm := rd.m
  have hrb := rd.b
  by_cases h0 : 0 < a
  case neg =>
    rw [whichR_no mt t ids (fun h => h0 h.1)]
    have i1 : a ≤ 0 := by omega
    clear hx ro rd em ep er eh h0
    go_enter Try.func51, Try.ntmps51
    go_wp2_with fail
    go_ret
    exact ⟨rfl, Below.refl _ _⟩
  obtain ⟨i, rfl⟩ : ∃ i : Nat, a = (i : Int) := ⟨a.toNat, by omega⟩
  by_cases h1 : i < ids.length
  case neg =>
    rw [whichR_no mt t ids (fun h => by
      have := (List.getElem?_eq_some_iff.1 h.2).1
      rw [hrh] at this
      omega)]
    obtain ⟨nh, hnh⟩ : ∃ n, (rdF t.ig t.kp ids).1.length = n := ⟨_, rfl⟩
    rw [hnh] at x1 hrh
    have i1 : ¬ (i : Int) ≤ 0 := by omega
    have i2 : (nh : Int) ≤ (i : Int) := by omega
    clear hx ro rd em ep er eh h0 h1 hrh hnh
    go_enter Try.func51, Try.ntmps51
    go_wp2_with fail
    go_ret
    exact ⟨rfl, Below.refl _ _⟩
  obtain ⟨gh, rfl, _, eh⟩ := eh (by omega)
  obtain ⟨gp, rfl, _, ep⟩ := ep (by omega)
  obtain ⟨hd, hhd⟩ : ∃ h, (rdF t.ig t.kp ids).1[i]? = some h := ⟨_, List.getElem?_eq_getElem (by omega)⟩
  have eh := eh i _ (bL_at hhd)
  obtain ⟨P, hP, hP1, hP2, hP3⟩ := rd.a i hd hhd
  have ep := ep i _ (iL_at hP)
  cases hd with
  | true =>
    rw [whichR_no mt t ids (fun h => by rw [Int.toNat_natCast, hhd] at h; cases h.2)]
    obtain ⟨nh, hnh⟩ : ∃ n, (rdF t.ig t.kp ids).1.length = n := ⟨_, rfl⟩
    rw [hnh] at x1 hrh
    have i1 : ¬ (i : Int) ≤ 0 := by omega
    have i2 : ¬ (nh : Int) ≤ (i : Int) := by omega
    have i3 : (i : Int) < (nh : Int) := by omega
    clear hx ro rd em er h0 h1 hrh hnh hhd hP hP1 hP2 hP3
    go_enter Try.func51, Try.ntmps51
    go_wp2_with fail
    go_ret
    exact ⟨rfl, Below.refl _ _⟩
  | false =>
    have hPm := hP3 rfl
    rw [whichR_at mt t ids (by omega) hhd hP]
    have hI : IS w w.heap.size (rdF t.ig t.kp ids).2.1 (some ⟨gm, 0, none⟩) cm := ⟨lm, mm, ro.i, fun _ => ⟨gm, 0, rfl, gml, fun j z hj => by rw [Nat.zero_add]; exact em j _ (iL_at hj)⟩⟩
    refine whichM_any x t.rs.length cr gh _ ch gm _ cm gp _ cp i P Ar _ w x0 x1 x2 x3 lm (by omega) (by omega) (by omega) (by omega) hP1 hPm eh ep (fun W a b hb ha' hb' => ?_)
    refine ixG_any mt HM t.rs L Ar cr a b _ _ W hrs hz (ro.p.below (hb.mono hB) |>.mono (Nat.le_trans hB hb.size)) (fun hne => ?_) lr ⟨gm, P, _, cm - P, ha', by simp, ?_, by omega⟩ ⟨gm, 0, P, cm, hb', by simp; omega, (hI.on hb).take P, by omega⟩
    · obtain ⟨g, e1, e2, e3⟩ := er (by cases hh : t.rs with
        | nil => exact absurd hh hne
        | cons _ _ => simp)
      exact ⟨g, e1, Nat.lt_of_lt_of_le e2 hb.size, fun j u hu => (hb.cell (p := ⟨g, j, none⟩) e2).trans (e3 j u hu)⟩
    · have := (hI.on hb).drop P (by omega)
      rw [Nat.zero_add] at this
      exact this
end Go.Proofs.Ytegkogadceodlaa

namespace Go.Proofs.Ytegkogadceodlaa
open Go.RowKit Go.Shelf Go.Lib Go.Sort

theorem whF_rng (p : Ru → Bool) : ∀ (rs : List Ru) (i : Nat), whF p rs i = -1 ∨ ∃ k x, rs[k]? = some x ∧ whF p rs i = ((i + k : Nat) : Int) ∧ p x = true ∧ ∀ j y, j < k → rs[j]? = some y → p y = false
  | [], _ => .inl rfl
  | y :: r, i => by
    unfold whF
    by_cases h : p y = true
    · rw [if_pos h]
      exact .inr ⟨0, y, rfl, rfl, h, fun j z hj => by omega⟩
    · rw [if_neg h]
      rcases whF_rng p r (i + 1) with h1 | ⟨k, x, h1, h2, h3, h4⟩
      · exact .inl h1
      · refine .inr ⟨k + 1, x, by simpa using h1, by rw [h2]; omega, h3, fun j z hj hz => ?_⟩
        cases j with
        | zero =>
          simp at hz
          subst hz
          simpa using h
        | succ j => exact h4 j z (by omega) (by simpa using hz)
theorem whichR_rng (mt : E → List Int → Bool) (t : Tx) (ids : List Int) (a : Int) : whichR mt t ids a = -1 ∨ ∃ (k : Nat) (x : Ru), t.rs[k]? = some x ∧ whichR mt t ids a = (k : Int) := by
  unfold whichR
  split
  · rcases whF_rng (fun x => ruleF mt x ((rdF t.ig t.kp ids).2.1.take (((rdF t.ig t.kp ids).2.2[a.toNat]?).getD 0).toNat) ((rdF t.ig t.kp ids).2.1.drop (((rdF t.ig t.kp ids).2.2[a.toNat]?).getD 0).toNat)) t.rs 0 with h | ⟨k, x, h1, h2, _⟩
    · exact .inl h
    · exact .inr ⟨k, x, h1, by rw [h2]; omega⟩
  · exact .inl rfl
/-- Is there a break at a place? -/
def breakR (mt : E → List Int → Bool) (t : Tx) (ids : List Int) (i : Nat) : Bool :=
  if (rdF t.ig t.kp ids).1[i]? = some true then false else if whichR mt t ids (i : Int) < 0 then true else ((t.rs[(whichR mt t ids (i : Int)).toNat]?).map (·.b)).getD true
set_option maxRecDepth 100000 in
set_option maxHeartbeats 8000000 in
theorem breaksG_any (mt : E → List Int → Bool) (HM : MatCon mt) (t : Tx) (ids : List Int) (L : List (List Value)) (vr vh vm vp : Value) (x B : Nat) (w : World) (hB : B ≤ w.heap.size) (ro : RdO w B t ids L vr vh vm vp) (hx : Cells w x 109 #[vr, vh, vm, vp])
    (hrs : t.rs.length ≤ 100000) (hz : ∀ r ∈ t.rs, szE r.l ≤ 100000 ∧ szE r.r ≤ 100000) (hids : ids.length ≤ 100000) (i : Nat) (hi : i < ids.length) :
    Calls Try.prog 49 #[.pointer (some ⟨x, 0, none⟩), .int .i64 (i : Int)] w fun e w' => e = .returned (.bool (breakR mt t ids i)) ∧ Below w.heap.size w w' := by
  have CW := whichG_any mt HM t ids L vr vh vm vp x B w hB ro hx hrs hz hids (i : Int)
  have rng := whichR_rng mt t ids (i : Int)
  have rd := rdI t.ig t.kp ids
  have hrh := rd.h
  obtain ⟨hd, hhd⟩ : ∃ h, (rdF t.ig t.kp ids).1[i]? = some h := ⟨_, List.getElem?_eq_getElem (by omega)⟩
  have er := fun W (hb : Below w.heap.size w W) => own_any (ro.on hb hB).r
  have ep := ro.p
  obtain ⟨Ah, ch, rfl, lh, eh⟩ := own_any ro.h
  obtain ⟨gh, rfl, _, eh⟩ := eh (by omega)
  have eh := eh i _ (bL_at hhd)
  have x1 : w.cell? ⟨x, 1, none⟩ = some (.slice (some ⟨gh, 0, none⟩) (rdF t.ig t.kp ids).1.length ch) := hx.cell 1
  obtain ⟨nh, hnh⟩ : ∃ n, (rdF t.ig t.kp ids).1.length = n := ⟨_, rfl⟩
  rw [hnh] at x1 hrh
  have i3 : (i : Int) < (nh : Int) := by omega
  have HX := Lib.hid (And.intro hx (And.intro er ep))
  cases hd with
  | true =>
    rw [show breakR mt t ids i = false from by unfold breakR; rw [if_pos hhd]]
    clear CW rng rd hrh hhd er hx ro hnh lh ep
    go_enter Try.func49, Try.ntmps49
    go_wp2_with fail
    go_ret
    exact ⟨rfl, Below.refl _ _⟩
  | false =>
    have hbr : breakR mt t ids i = if whichR mt t ids (i : Int) < 0 then true else ((t.rs[(whichR mt t ids (i : Int)).toNat]?).map (·.b)).getD true := by
      unfold breakR
      rw [if_neg (by rw [hhd]; simp)]
    rw [hbr]
    rcases rng with h | ⟨k, r, h1, h2⟩
    · rw [h] at CW ⊢
      rw [if_pos (by decide)]
      clear rd hrh hhd er hx ro hnh lh ep hbr h
      go_enter Try.func49, Try.ntmps49
      go_wp2_with fail
      refine CW.mono ?_
      rintro e w2 ⟨rfl, hb2⟩
      have HB := Lib.hid hb2
      clear hb2 CW
      go_wp2_with fail
      go_ret
      exact ⟨rfl, HB.out⟩
    · rw [h2] at CW ⊢
      rw [if_neg (by omega), Int.toNat_natCast, h1]
      have hk : k < t.rs.length := (List.getElem?_eq_some_iff.1 h1).1
      obtain ⟨nr, hnr⟩ : ∃ n, t.rs.length = n := ⟨_, rfl⟩
      have i5 : (k : Int) < (nr : Int) := by omega
      have i6 : ¬ (k : Int) < 0 := by omega
      have hlast : ∀ cs, L[k]? = some cs → cs[12]? = some (.bool r.b) := fun cs hcs => by
        obtain ⟨A1, c1, A2, c2, rfl, _, _⟩ := ep.p k r cs h1 hcs
        rfl
      obtain ⟨cs, hcs⟩ : ∃ cs, L[k]? = some cs := ⟨_, List.getElem?_eq_getElem (by rw [ep.l]; exact hk)⟩
      have hfl := flat13 L k cs (ptsV_13 ep) hcs 12 _ (hlast cs hcs)
      have HR := Lib.hid (And.intro h1 (And.intro hk (And.intro hnr hfl)))
      show Calls Try.prog 49 #[.pointer (some ⟨x, 0, none⟩), .int .i64 (i : Int)] w fun e w' => e = .returned (.bool r.b) ∧ Below w.heap.size w w'
      clear rd hrh hhd er ro hnh lh ep hbr h2 hk hnr hlast hcs hfl h1
      go_enter Try.func49, Try.ntmps49
      go_wp2_with fail
      refine CW.mono ?_
      rintro e w2 ⟨rfl, hb2⟩
      obtain ⟨Ar, cr, rfl, lr, er⟩ := HX.out.2.1 w2 hb2
      obtain ⟨g, rfl, _, er⟩ := er (by have := HR.out.2.1; omega)
      have x0 : w2.cell? ⟨x, 0, none⟩ = some (.slice (some ⟨g, 0, none⟩) nr cr) := by rw [← HR.out.2.2.1]; exact (HX.out.1.on hb2).cell 0
      have e12 : w2.cell? ⟨g, k * 13 + 12, none⟩ = some (.bool r.b) := er _ _ HR.out.2.2.2
      have HB := Lib.hid hb2
      clear hb2 CW er lr hx
      go_wp2_with fail
      go_ret
      exact ⟨rfl, HB.out⟩
end Go.Proofs.Ytegkogadceodlaa

namespace Go.Proofs.Ytegkogadceodlaa
open Go.RowKit Go.Shelf Go.Lib Go.Sort

theorem known_size (t : Tx) : (knownT t).rs.length ≤ 40 ∧ ∀ r ∈ (knownT t).rs, szE r.l ≤ 100000 ∧ szE r.r ≤ 100000 := by
  unfold knownT
  split
  · rename_i h
    unfold rightT at h
    simp only [Bool.and_eq_true, decide_eq_true_eq, List.all_eq_true] at h
    refine ⟨h.1, fun r hr => ?_⟩
    have := h.2.2.2 r hr
    unfold rightR at this
    simp only [Bool.and_eq_true] at this
    have h1 := right_size this.1
    have h2 := right_size this.2.1
    omega
  · exact ⟨Nat.zero_le _, fun r hr => by simp at hr⟩
/-- The breaks at the first places. -/
def brL (mt : E → List Int → Bool) (t : Tx) (ids : List Int) (k : Nat) : List Bool := true :: (List.range' 1 (k - 1)).map (breakR mt t ids)
theorem brL_len (mt : E → List Int → Bool) (t : Tx) (ids : List Int) {k : Nat} (hk : 1 ≤ k) : (brL mt t ids k).length = k := by
  unfold brL
  simp
  omega
theorem brL_next (mt : E → List Int → Bool) (t : Tx) (ids : List Int) {k : Nat} (hk : 1 ≤ k) : brL mt t ids (k + 1) = brL mt t ids k ++ [breakR mt t ids k] := by
  unfold brL
  rw [show k + 1 - 1 = (k - 1) + 1 by omega, List.range'_concat, List.map_append, show 1 + 1 * (k - 1) = k by omega]
  rfl
/-- What Breaks answers. -/
def breaksR (mt : E → List Int → Bool) (t : Tx) (ids : List Int) : List Bool := if ids.length = 0 then [true] else brL mt (knownT t) ids ids.length ++ [true]
theorem breaksR_len (mt : E → List Int → Bool) (t : Tx) (ids : List Int) : (breaksR mt t ids).length = ids.length + 1 := by
  unfold breaksR
  split
  · rename_i h
    rw [h]
    rfl
  · rename_i h
    rw [List.length_append, brL_len _ _ _ (by omega)]
    rfl
theorem bL_snoc (l : List Bool) (b : Bool) : bL (l ++ [b]) = bL l ++ [.bool b] := by simp [bL]
set_option maxRecDepth 100000 in
set_option maxHeartbeats 8000000 in
theorem BreaksG_any (mt : E → List Int → Bool) (HM : MatCon mt) (t : Tx) (v : Value) (ids : List Int) (A : Option Addr) (cap : Nat) (w : World) (h : TxV w w.heap.size t v) (hi : IS w w.heap.size ids A cap) (hn : ids.length ≤ 900) :
    Calls Try.prog 26 #[v, .slice A ids.length cap] w fun e w' => ∃ u, e = .returned u ∧ w'.ownsRow w.heap.size 4 1 u (breaksR mt t ids).length (bL (breaksR mt t ids)) ∧ Below w.heap.size w w' := by
  have h' := h
  obtain ⟨B1, e1, B2, e2, B3, e3, rfl, _, _, _⟩ := h'
  obtain ⟨W0, hW0⟩ : ∃ W0, w.alloc (.cells #[.slice B1 t.ig.length e1, .slice B2 t.kp.length e2, .slice B3 t.rs.length e3] 57) = W0 := ⟨_, rfl⟩
  have hb0 : Below w.heap.size w W0 := by rw [← hW0]; exact below_new _ _
  have CR := read_any t _ ids A cap W0 (h.on hb0) (hi.on hb0) hn
  have hks := known_size t
  obtain ⟨K, hK⟩ : ∃ K, knownT t = K := ⟨_, rfl⟩
  rw [hK] at CR hks
  have hbr : ids.length ≠ 0 → breaksR mt t ids = brL mt K ids ids.length ++ [true] := fun h => by unfold breaksR; rw [if_neg h, hK]
  have hb00 : ids.length = 0 → breaksR mt t ids = [true] := fun h => by unfold breaksR; rw [if_pos h]
  obtain ⟨BR, hBR⟩ : ∃ q, breaksR mt t ids = q := ⟨_, rfl⟩
  rw [hBR] at hbr hb00 ⊢
  obtain ⟨N, hN⟩ : ∃ N, ids.length = N := ⟨_, rfl⟩
  rw [hN] at CR hbr hb00 hn ⊢
  have HW := Lib.hid (And.intro hW0 (And.intro hb0 (And.intro hks (And.intro hN (And.intro hbr (And.intro hb00 HM))))))
  clear h hi hW0 hb0 hks hK hBR hbr hb00 hN HM
  obtain ⟨n1, hn1⟩ : ∃ n, t.ig.length = n := ⟨_, rfl⟩
  obtain ⟨n2, hn2⟩ : ∃ n, t.kp.length = n := ⟨_, rfl⟩
  obtain ⟨n3, hn3⟩ : ∃ n, t.rs.length = n := ⟨_, rfl⟩
  rw [hn1, hn2, hn3] at HW CR ⊢
  clear hn1 hn2 hn3
  go_enter Try.func26, Try.ntmps26
  go_wp2_with fail
  rw [HW.out.1]
  refine CR.mono ?_
  rintro e w1 ⟨L, vr, vh, vm, vp, rfl, ro, hb1⟩
  clear CR
  have b1 := HW.out.2.1.trans (hb1.mono HW.out.2.1.size)
  obtain ⟨W2, hW2⟩ : ∃ V, w1.alloc (.cells #[vr, vh, vm, vp] 109) = V := ⟨_, rfl⟩
  have b2 : Below w1.heap.size w1 W2 := by rw [← hW2]; exact below_new _ _
  have x2 : Cells W2 w1.heap.size 109 #[vr, vh, vm, vp] := by rw [← hW2]; exact cells_new _ _ _
  have s2 : W2.heap.size = w1.heap.size + 1 := by rw [← hW2]; simp
  have hb1s := hb1.size
  have ro2 := ro.on b2 hb1s
  have CB := fun W (hb : Below W2.heap.size W2 W) i (hi : i < N) => breaksG_any mt HW.out.2.2.2.2.2.2 K ids L vr vh vm vp w1.heap.size W0.heap.size W (by have := hb.size; have := b2.size; omega) (ro2.on hb (by have := b2.size; omega)) (x2.on hb) (by have := HW.out.2.2.1.1; omega) HW.out.2.2.1.2 (by have := HW.out.2.2.2.1; omega) i (by rw [HW.out.2.2.2.1]; exact hi)
  obtain ⟨Ar, qr, rfl⟩ := own_formN ro.r
  obtain ⟨Ah, qh, rfl⟩ := own_formN ro.h
  obtain ⟨Am, qm, rfl⟩ := own_formN ro.m
  obtain ⟨Ap, qp, rfl⟩ := own_formN ro.s
  obtain ⟨l0, hl0⟩ : ∃ n, K.rs.length = n := ⟨_, rfl⟩
  obtain ⟨l1, hl1⟩ : ∃ n, (rdF K.ig K.kp ids).1.length = n := ⟨_, rfl⟩
  obtain ⟨l2, hl2⟩ : ∃ n, (rdF K.ig K.kp ids).2.1.length = n := ⟨_, rfl⟩
  obtain ⟨l3, hl3⟩ : ∃ n, (rdF K.ig K.kp ids).2.2.length = n := ⟨_, rfl⟩
  rw [hl0, hl1, hl2, hl3] at hW2 ⊢
  have HR := Lib.hid CB
  have H2 := Lib.hid (And.intro (b1.trans (b2.mono b1.size)) hW2)
  clear ro ro2 x2 b1 b2 hb1 hW2 hl0 hl1 hl2 hl3 CB hb1s
  go_wp2_with fail
  rw [H2.out.2]
  have hst : ((W2.alloc (.cells #[.bool true] 4)).ownsRow W2.heap.size 4 1 (.slice (some ⟨W2.heap.size, 0, none⟩) 1 1) 1 (bL [true])) ∧ Below W2.heap.size W2 (W2.alloc (.cells #[.bool true] 4)) := ⟨⟨rfl, .inr ⟨W2.heap.size, 1, #[.bool true], rfl, Nat.le_refl _, cells_new _ _ _, Nat.le_refl _, by unfold maxLen; omega, rfl, rfl⟩⟩, below_new _ _⟩
  have HST := Lib.hid hst
  clear hst
  rw [s2] at HST
  go_loopw [6, 7] (fun u i wr => ∃ k : Nat, 1 ≤ k ∧ (k ≤ N ∨ k = 1) ∧ i = .int .i64 (k : Int) ∧ wr.ownsRow W2.heap.size 4 1 u k (bL (brL mt K ids k)) ∧ Below W2.heap.size W2 wr) (fun _ i _ => N + 1 - (RowKit.intOf i).toNat)
  case atStart => rw [s2]; exact ⟨1, Nat.le_refl _, .inr rfl, rfl, HST.out.1, HST.out.2⟩
  case round =>
    obtain ⟨k, hk1, hk2, rfl, ho, hb⟩ := hrel
    by_cases hkn : k < N
    · have i1 : (k : Int) < (N : Int) := by omega
      have ik : (k : Int) ≤ 100000 := by omega
      have CB := HR.out wr hb k hkn
      have hnx := brL_next mt K ids hk1
      obtain ⟨BB, hBB⟩ : ∃ q, breakR mt K ids k = q := ⟨_, rfl⟩
      rw [hBB] at CB hnx
      obtain ⟨Au, cu, rfl⟩ := own_formN ho
      have HO := Lib.hid (And.intro ho (And.intro hb hnx))
      clear ho hb hnx hBB
      go_wp2_with fail
      refine CB.mono ?_
      rintro e w5 ⟨rfl, hb5⟩
      clear CB
      have ho5 := ownsRow_below HO.out.1 hb5
      have s5 := HO.out.2.1.size
      have b5 := HO.out.2.1.trans (hb5.mono s5)
      have s55 := b5.size
      have H5 := Lib.hid (And.intro ho5 b5)
      clear ho5 b5 hb5
      go_wp2_with (first
        | (at_builtin; refine wpList_app1 Try.underlying52 info4 (by omega) rfl (.tmp 18) (.tmp 21) rfl W2.heap.size _ k (bL (brL mt K ids k)) (.bool BB) rfl rfl w5 H5.out.1 rfl rfl (by omega) (by omega) ?_)
        | fail)
      intro g7 cp7 w7 ho7 hg7 hn7 hl7
      rw [← s2] at ho7
      have b7 : Below W2.heap.size W2 w7 := H5.out.2.trans ⟨hg7.os, hg7.tape, hg7.output, hg7.size, fun k hk => hg7.block k (by omega) (fun e' => by have := (own_block_lt H5.out.1 k e'.symm).1; omega)⟩
      have hend : ∃ j : Nat, 1 ≤ j ∧ (j ≤ N ∨ j = 1) ∧ Value.int .i64 ((k : Int) + 1) = .int .i64 (j : Int) ∧ w7.ownsRow W2.heap.size 4 1 (.slice (some ⟨g7, 0, none⟩) (k + 1) cp7) j (bL (brL mt K ids j)) ∧ Below W2.heap.size W2 w7 :=
        ⟨k + 1, by omega, .inl (by omega), by simp, by rw [HO.out.2.2, bL_snoc]; exact ho7, b7⟩
      have HEND := Lib.hid hend
      clear ho7 hg7 hn7 b7 hend
      go_wp2_with fail
      go_roundw
      case rel => exact HEND.out
      case measure => simp [RowKit.intOf]; omega
    · have i1 : ¬ (k : Int) < (N : Int) := by omega
      obtain ⟨Au, cu, rfl⟩ := own_formN ho
      have hws := hb.size
      have s02 := HW.out.2.1.size
      by_cases h0 : N = 0
      · obtain rfl : k = 1 := by omega
        have i2 : ¬ (0 : Int) < (N : Int) := by omega
        have hBR := HW.out.2.2.2.2.2.1 h0
        have HO := Lib.hid (And.intro ho (And.intro hb hBR))
        clear ho hb h0 hBR
        go_wp2_with fail
        go_ret
        refine ⟨_, rfl, ?_, H2.out.1.trans (HO.out.2.1.mono H2.out.1.size)⟩
        rw [HO.out.2.2]
        exact own_base HO.out.1 H2.out.1.size
      · obtain rfl : k = N := by omega
        have i2 : (0 : Int) < (k : Int) := by omega
        have hBR := HW.out.2.2.2.2.1 h0
        have hbl : BR.length = k + 1 := by rw [hBR, List.length_append, brL_len _ _ _ hk1]; rfl
        have HO := Lib.hid (And.intro ho (And.intro hb (And.intro hBR hbl)))
        clear ho hb h0 hBR hbl
        go_wp2_with (first
          | (at_builtin; refine wpList_app1 Try.underlying52 info4 (by omega) rfl (.tmp 26) (.tmp 28) rfl W2.heap.size _ k (bL (brL mt K ids k)) (.bool true) rfl rfl wr HO.out.1 rfl rfl (by omega) (by omega) ?_)
          | (at_builtin; refine wpList_app1 Try.underlying52 info4 (by omega) rfl (.tmp 26) (.tmp 27) rfl W2.heap.size _ k (bL (brL mt K ids k)) (.bool true) rfl rfl wr HO.out.1 rfl rfl (by omega) (by omega) ?_)
          | fail)
        intro g7 cp7 w7 ho7 hg7 hn7 hl7
        rw [← s2] at ho7
        have b7 : Below W2.heap.size W2 w7 := HO.out.2.1.trans ⟨hg7.os, hg7.tape, hg7.output, hg7.size, fun k hk => hg7.block k (by omega) (fun e' => by have := (own_block_lt HO.out.1 k e'.symm).1; omega)⟩
        have H7 := Lib.hid (And.intro (own_base ho7 H2.out.1.size) (H2.out.1.trans (b7.mono H2.out.1.size)))
        clear ho7 hg7 hn7 b7
        go_wp2_with fail
        go_ret
        refine ⟨_, rfl, ?_, H7.out.2⟩
        rw [HO.out.2.2.2, HO.out.2.2.1, bL_snoc]
        exact H7.out.1
set_option maxRecDepth 100000 in
set_option maxHeartbeats 8000000 in
theorem WhichG_any (mt : E → List Int → Bool) (HM : MatCon mt) (t : Tx) (v : Value) (ids : List Int) (A : Option Addr) (cap : Nat) (a : Int) (w : World) (h : TxV w w.heap.size t v) (hi : IS w w.heap.size ids A cap) (hn : ids.length ≤ 900) :
    Calls Try.prog 31 #[v, .slice A ids.length cap, .int .i64 a] w fun e w' => e = .returned (.int .i64 (whichR mt (knownT t) ids a)) ∧ Below w.heap.size w w' := by
  have h' := h
  obtain ⟨B1, e1, B2, e2, B3, e3, rfl, _, _, _⟩ := h'
  obtain ⟨W0, hW0⟩ : ∃ W0, w.alloc (.cells #[.slice B1 t.ig.length e1, .slice B2 t.kp.length e2, .slice B3 t.rs.length e3] 57) = W0 := ⟨_, rfl⟩
  have hb0 : Below w.heap.size w W0 := by rw [← hW0]; exact below_new _ _
  have CR := read_any t _ ids A cap W0 (h.on hb0) (hi.on hb0) hn
  have hks := known_size t
  obtain ⟨K, hK⟩ : ∃ K, knownT t = K := ⟨_, rfl⟩
  rw [hK] at CR hks ⊢
  obtain ⟨n1, hn1⟩ : ∃ n, t.ig.length = n := ⟨_, rfl⟩
  obtain ⟨n2, hn2⟩ : ∃ n, t.kp.length = n := ⟨_, rfl⟩
  obtain ⟨n3, hn3⟩ : ∃ n, t.rs.length = n := ⟨_, rfl⟩
  rw [hn1, hn2, hn3] at hW0 CR ⊢
  obtain ⟨RR, hRR⟩ : ∃ q, whichR mt K ids a = q := ⟨_, rfl⟩
  obtain ⟨N, hN⟩ : ∃ N, ids.length = N := ⟨_, rfl⟩
  rw [hN] at CR hn ⊢
  rw [hRR]
  have HW := Lib.hid (And.intro hks (And.intro hN (And.intro hRR HM)))
  have H0 := Lib.hid (And.intro hW0 hb0)
  clear hi hks hK hN hRR HM h hW0 hb0 hn1 hn2 hn3
  go_enter Try.func31, Try.ntmps31
  go_wp2_with fail
  rw [H0.out.1]
  refine CR.mono ?_
  rintro e w1 ⟨L, vr, vh, vm, vp, rfl, ro, hb1⟩
  clear CR
  obtain ⟨W2, hW2⟩ : ∃ V, w1.alloc (.cells #[vr, vh, vm, vp] 109) = V := ⟨_, rfl⟩
  have b2 : Below w1.heap.size w1 W2 := by rw [← hW2]; exact below_new _ _
  have x2 : Cells W2 w1.heap.size 109 #[vr, vh, vm, vp] := by rw [← hW2]; exact cells_new _ _ _
  have hb1s := hb1.size
  have ro2 := ro.on b2 hb1s
  have CW := whichG_any mt HW.out.2.2.2 K ids L vr vh vm vp w1.heap.size W0.heap.size W2 (by have := b2.size; omega) ro2 x2 (by have := HW.out.1.1; omega) HW.out.1.2 (by have := HW.out.2.1; omega) a
  rw [HW.out.2.2.1] at CW
  obtain ⟨Ar, qr, rfl⟩ := own_formN ro.r
  obtain ⟨Ah, qh, rfl⟩ := own_formN ro.h
  obtain ⟨Am, qm, rfl⟩ := own_formN ro.m
  obtain ⟨Ap, qp, rfl⟩ := own_formN ro.s
  obtain ⟨l0, hl0⟩ : ∃ n, K.rs.length = n := ⟨_, rfl⟩
  obtain ⟨l1, hl1⟩ : ∃ n, (rdF K.ig K.kp ids).1.length = n := ⟨_, rfl⟩
  obtain ⟨l2, hl2⟩ : ∃ n, (rdF K.ig K.kp ids).2.1.length = n := ⟨_, rfl⟩
  obtain ⟨l3, hl3⟩ : ∃ n, (rdF K.ig K.kp ids).2.2.length = n := ⟨_, rfl⟩
  rw [hl0, hl1, hl2, hl3] at hW2 ⊢
  have b01 := H0.out.2.trans (hb1.mono H0.out.2.size)
  have H2 := Lib.hid (And.intro (b01.trans (b2.mono b01.size)) hW2)
  clear ro ro2 x2 b2 hb1 b01 hW2 hl0 hl1 hl2 hl3
  go_wp2_with fail
  rw [H2.out.2]
  refine CW.mono ?_
  rintro e w3 ⟨rfl, b3⟩
  have H3 := Lib.hid (H2.out.1.trans (b3.mono H2.out.1.size))
  clear b3 CW
  go_wp2_with fail
  go_ret
  exact ⟨rfl, H3.out⟩
end Go.Proofs.Ytegkogadceodlaa

