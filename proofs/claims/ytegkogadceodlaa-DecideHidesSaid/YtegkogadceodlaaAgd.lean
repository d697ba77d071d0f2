/-
  An argument that is a meaning (two lists of classes, rules of expressions), as it lies in memory; a list of numbers.
-/
import Derived.Deep.Slices
import Derived.Deep.MidRow
import Derived.PinnedBridge
import Derived.ProofKit
import Derived.OpenShut
import Derived.Handed
import Derived.Test.YtegkogadceodlaaRows
import Derived.Test.YtegkogadceodlaaAwk
namespace Go.Proofs.Ytegkogadceodlaa
open Go.ChangeShapes Go.WideShapes Go.ChangeAt Go.RowKit Go.Shelf
open Go.Lib

instance : Inhabited E := ⟨.mk 0 0 []⟩
instance : Inhabited Ru := ⟨⟨.mk 0 0 [], .mk 0 0 [], false⟩⟩
theorem own : ownKnob Try.prog.godebug = none := by kernel_rfl
theorem laidOut : laidOutB Try.prog = true := by kernel_rfl
theorem cells24 : Try.prog.cellsOf 24 = 3 := by kernel_rfl
theorem cells3 : Try.prog.cellsOf 3 = 1 := by kernel_rfl
theorem cells4 : Try.prog.cellsOf 4 = 1 := by kernel_rfl
theorem cells22 : Try.prog.cellsOf 22 = 1 := by kernel_rfl
theorem cells25 : Try.prog.cellsOf 25 = 1 := by kernel_rfl
theorem cells48 : Try.prog.cellsOf 48 = 1 := by kernel_rfl
theorem cells50 : Try.prog.cellsOf 50 = 3 := by kernel_rfl
theorem cells106 : Try.prog.cellsOf 106 = 7 := by kernel_rfl
section
variable {H : Type} {enc : TypeId × Value → H} {W : World}
set_option maxRecDepth 100000 in
theorem int_cell {n : Nat} {v : Value} {x : DataW H × List MemPlace} (h : DataW.trod enc Try.prog W 0 (fun _ => true) true n 3 [v] = some x) : ∃ a, v = .int .i64 a ∧ i64 a := by
  obtain ⟨a, e, _, w⟩ := DataW.trod_int Try.underlying3 h
  have b : -9223372036854775808 ≤ a ∧ a ≤ 9223372036854775807 := by simpa [Lit.wf, IntKind.min, IntKind.max, IntKind.signed, IntKind.bits] using w
  exact ⟨a, by simpa using e, b⟩
set_option maxRecDepth 100000 in
/-- The cells of one expression. -/
theorem nd_cells : ∀ fuel, (∀ cs (x : DataW H × List MemPlace), DataW.trod enc Try.prog W 0 (fun _ => true) true fuel 24 cs = some x → ∃ (e : E) (A : Option Addr) (cap : Nat), cs = [.int .i64 e.k, .int .i64 e.c, .slice A e.ks.length cap] ∧ i64 e.k ∧ i64 e.c ∧ KsAt W W.heap.size e.ks A cap) ∧
    (∀ cs (x : DataW H × List MemPlace), DataW.trod enc Try.prog W 0 (fun _ => true) true fuel 22 cs = some x → ∃ (ks : List E) (A : Option Addr) (cap : Nat), cs = [.slice A ks.length cap] ∧ KsAt W W.heap.size ks A cap) := by
  intro fuel
  induction fuel with
  | zero => exact ⟨fun cs x h => by simp [DataW.trod] at h, fun cs x h => by simp [DataW.trod] at h⟩
  | succ n ih =>
    constructor
    · intro cs x h
      obtain ⟨xs, m, hm, _, hlen, hxl, hf⟩ := DataW.trod_struct Try.underlying24 h
      obtain rfl : m = n := by omega
      rw [cells24] at hlen
      have hxl : xs.length = 3 := hxl
      match cs, hlen, xs, hxl with
      | [c0, c1, c2], _, [x0, x1, x2], _ =>
        have h0 := hf 0 _ rfl
        have h1 := hf 1 _ rfl
        have h2 := hf 2 _ rfl
        simp [cells3] at h0 h1
        simp [cells22] at h2
        obtain ⟨k, rfl, hk⟩ := int_cell h0
        obtain ⟨c, rfl, hc⟩ := int_cell h1
        obtain ⟨ks, A, cap, he, hks⟩ := ih.2 _ _ h2
        simp at he
        subst he
        exact ⟨.mk k c ks, A, cap, rfl, hk, hc, hks⟩
    · intro cs x h
      rcases DataW.trod_slice Try.underlying22 h with ⟨rfl, _⟩ | ⟨a, len, cap, elems, rest, m, hm, rfl, _, _, hl, hcm, hlen, hel, _, _⟩
      · exact ⟨[], none, 0, rfl, ⟨by simp, by simp, by simp, fun hn => absurd rfl hn⟩⟩
      · obtain rfl : m = n := by omega
        rw [cells24] at hel
        have each : ∀ i, i < len → ∃ e : E, ∃ (A : Option Addr) (cp : Nat), W.cell? ((a.add (i * 3)).add 0) = some (.int .i64 e.k) ∧ W.cell? ((a.add (i * 3)).add 1) = some (.int .i64 e.c) ∧ W.cell? ((a.add (i * 3)).add 2) = some (.slice A e.ks.length cp) ∧ i64 e.k ∧ i64 e.c ∧ KsAt W W.heap.size e.ks A cp := by
          intro i hi
          have key := hel i hi
          rw [List.getElem?_eq_getElem (by omega)] at key
          obtain ⟨cs', h1, h2⟩ := Option.bind_eq_some_iff.1 key
          obtain ⟨e, A, cp, rfl, hk, hc, hks⟩ := ih.1 _ _ h2
          obtain ⟨_, _, hcell⟩ := World.cells?_some h1
          exact ⟨e, A, cp, by simpa using hcell 0 (by omega), by simpa using hcell 1 (by omega), by simpa using hcell 2 (by omega), hk, hc, hks⟩
        obtain ⟨f, hf⟩ := Go.Deep.choose_lt each
        have hfl : ((List.range len).map f).length = len := by simp
        refine ⟨(List.range len).map f, some a, cap, by rw [hfl], ⟨by rw [hfl]; exact hl, hcm, fun e => (by cases e), fun hn => ?_⟩⟩
        have h0 : 0 < len := by
          rcases Nat.eq_zero_or_pos len with e | e
          · subst e; exact absurd rfl hn
          · exact e
        obtain ⟨_, _, hc0, _⟩ := hf 0 h0
        obtain ⟨b, o, spot⟩ := a
        have hspot : spot = none := by simpa [Addr.add] using World.cell?_spot hc0
        subst hspot
        have hbl := cell_lt hc0
        refine ⟨b, o, rfl, by simpa [Addr.add] using hbl, row_of fun i e he => ?_⟩
        have hi : i < len := by have := (List.getElem?_eq_some_iff.1 he).1; omega
        simp [hi] at he
        subst he
        obtain ⟨A, cp, c0, c1, c2, hk, hc, hks⟩ := hf i hi
        have ad : ∀ j, ((⟨b, o, none⟩ : Addr).add (i * 3)).add j = ⟨b, o + i * 3 + j, none⟩ := fun j => by
          rw [Addr.add_mid, Addr.add_mid]
        rw [ad] at c0 c1 c2
        exact ⟨_, _, _, c0, c1, c2, Nd_iff.2 ⟨hk, hc, A, cp, rfl, hks⟩⟩
set_option maxRecDepth 100000 in
/-- The cell of a list of numbers. -/
theorem is_cell {fuel : Nat} {v : Value} {x : DataW H × List MemPlace} (hf : DataW.trod enc Try.prog W 0 (fun _ => true) true fuel 25 [v] = some x) :
    ∃ (xs : List Int) (A : Option Addr) (cap : Nat), v = .slice A xs.length cap ∧ IS W W.heap.size xs A cap := by
  rcases open_ints Try.underlying25 Try.underlying3 (by kernel_rfl) hf with ⟨hcs, _⟩ | ⟨x, l, c, zs, hcs, _, hl, hm, hz, _, hcell, hwz⟩
  · obtain rfl : v = .slice none 0 0 := by simpa using hcs
    exact ⟨[], none, 0, rfl, ⟨by simp, by simp, fun x hx => by simp at hx, fun hn => absurd rfl hn⟩⟩
  · obtain rfl : v = .slice (some x) l c := by simpa using hcs
    have hzl : zs.length = c := by simpa using hz
    have htl : (zs.take l).length = l := by rw [List.length_take]; omega
    refine ⟨zs.take l, some x, c, by rw [htl], ⟨by rw [htl]; exact hl, hm, fun y hy => ?_, fun hn => ?_⟩⟩
    · have := hwz y (List.mem_of_mem_take hy)
      have b : -9223372036854775808 ≤ y ∧ y ≤ 9223372036854775807 := by simpa [Lit.wf, IntKind.min, IntKind.max, IntKind.signed, IntKind.bits] using this
      exact b
    · have h0 : 0 < l := by
        rcases Nat.eq_zero_or_pos l with e | e
        · subst e; simp at hn
        · exact e
      have hc0 := hcell 0 (by omega)
      obtain ⟨b, o, spot⟩ := x
      have hspot : spot = none := by simpa [Addr.add] using World.cell?_spot hc0
      subst hspot
      have hbl := cell_lt hc0
      refine ⟨b, o, rfl, by simpa [Addr.add] using hbl, fun i y hy => ?_⟩
      have hi : i < l := by have := (List.getElem?_eq_some_iff.1 hy).1; omega
      have := hcell i (by omega)
      rw [Addr.add_mid] at this
      rw [this]
      rw [List.getElem?_take, if_pos hi] at hy
      simp [List.getD, hy]
set_option maxRecDepth 100000 in
/-- An argument that is a list of numbers. -/
theorem is_of_arg {b0 : Nat} {v : Value} {d : DataW H} {p : List MemPlace} (hv : Value.okWide Try.prog W .any b0 25 v) (h : DataW.Trod enc Try.prog W 0 (fun _ => true) true 25 v d p) :
    ∃ (xs : List Int) (A : Option Addr) (cap : Nat), v = .slice A xs.length cap ∧ IS W W.heap.size xs A cap := by
  obtain ⟨a, len, cap, rfl⟩ := okWide_slice Try.underlying25 hv
  obtain ⟨fuel, hf⟩ := h
  exact is_cell hf
set_option maxRecDepth 100000 in
/-- The cells of a rule. -/
theorem ru_cells {fuel : Nat} {cs : List Value} {x : DataW H × List MemPlace} (h : DataW.trod enc Try.prog W 0 (fun _ => true) true fuel 106 cs = some x) :
    ∃ (r : Ru) (A1 : Option Addr) (c1 : Nat) (A2 : Option Addr) (c2 : Nat), cs = [.int .i64 r.l.k, .int .i64 r.l.c, .slice A1 r.l.ks.length c1, .int .i64 r.r.k, .int .i64 r.r.c, .slice A2 r.r.ks.length c2, .bool r.b] ∧
      RuV W W.heap.size r (.agg #[.int .i64 r.l.k, .int .i64 r.l.c, .slice A1 r.l.ks.length c1, .int .i64 r.r.k, .int .i64 r.r.c, .slice A2 r.r.ks.length c2, .bool r.b]) := by
  obtain ⟨xs, m, hm, _, hlen, hxl, hf⟩ := DataW.trod_struct Try.underlying106 h
  rw [cells106] at hlen
  have hxl : xs.length = 3 := hxl
  match cs, hlen, xs, hxl with
  | [a0, a1, a2, b0, b1, b2, d0], _, [x0, x1, x2], _ =>
    have h0 := hf 0 _ rfl
    have h1 := hf 1 _ rfl
    have h2 := hf 2 _ rfl
    simp [cells24] at h0 h1
    simp [cells24, cells4] at h2
    obtain ⟨e, A1, c1, he, hk, hc, hks⟩ := (nd_cells m).1 _ _ h0
    obtain ⟨f, A2, c2, hf', hk2, hc2, hks2⟩ := (nd_cells m).1 _ _ h1
    obtain ⟨b, hb, _⟩ := DataW.trod_bool Try.underlying4 h2
    simp at he hf' hb
    obtain ⟨rfl, rfl, rfl⟩ := he
    obtain ⟨rfl, rfl, rfl⟩ := hf'
    subst hb
    exact ⟨⟨e, f, b⟩, A1, c1, A2, c2, rfl, A1, c1, A2, c2, rfl, Nd_iff.2 ⟨hk, hc, A1, c1, rfl, hks⟩, Nd_iff.2 ⟨hk2, hc2, A2, c2, rfl, hks2⟩⟩
set_option maxRecDepth 100000 in
/-- The cell of a list of rules. -/
theorem rs_cell {fuel : Nat} {cs : List Value} {x : DataW H × List MemPlace} (h : DataW.trod enc Try.prog W 0 (fun _ => true) true fuel 48 cs = some x) :
    ∃ (L : List Ru) (A : Option Addr) (cap : Nat), cs = [.slice A L.length cap] ∧ RsAt W W.heap.size L A cap := by
  rcases DataW.trod_slice Try.underlying48 h with ⟨rfl, _⟩ | ⟨a, len, cap, elems, rest, m, hm, rfl, _, _, hl, hcm, hlen, hel, _, _⟩
  · exact ⟨[], none, 0, rfl, ⟨by simp, by simp, fun hn => absurd rfl hn⟩⟩
  · rw [cells106] at hel
    have each : ∀ i, i < len → ∃ r : Ru, ∃ (A1 : Option Addr) (c1 : Nat) (A2 : Option Addr) (c2 : Nat),
        (W.cell? ((a.add (i * 7)).add 0) = some (.int .i64 r.l.k) ∧ W.cell? ((a.add (i * 7)).add 1) = some (.int .i64 r.l.c) ∧ W.cell? ((a.add (i * 7)).add 2) = some (.slice A1 r.l.ks.length c1) ∧
          W.cell? ((a.add (i * 7)).add 3) = some (.int .i64 r.r.k) ∧ W.cell? ((a.add (i * 7)).add 4) = some (.int .i64 r.r.c) ∧ W.cell? ((a.add (i * 7)).add 5) = some (.slice A2 r.r.ks.length c2) ∧ W.cell? ((a.add (i * 7)).add 6) = some (.bool r.b)) ∧
        RuV W W.heap.size r (.agg #[.int .i64 r.l.k, .int .i64 r.l.c, .slice A1 r.l.ks.length c1, .int .i64 r.r.k, .int .i64 r.r.c, .slice A2 r.r.ks.length c2, .bool r.b]) := by
      intro i hi
      have key := hel i hi
      rw [List.getElem?_eq_getElem (by omega)] at key
      obtain ⟨cs', h1, h2⟩ := Option.bind_eq_some_iff.1 key
      obtain ⟨r, A1, c1, A2, c2, rfl, hr⟩ := ru_cells h2
      obtain ⟨_, _, hcell⟩ := World.cells?_some h1
      exact ⟨r, A1, c1, A2, c2, ⟨by simpa using hcell 0 (by omega), by simpa using hcell 1 (by omega), by simpa using hcell 2 (by omega), by simpa using hcell 3 (by omega), by simpa using hcell 4 (by omega), by simpa using hcell 5 (by omega), by simpa using hcell 6 (by omega)⟩, hr⟩
    obtain ⟨f, hf⟩ := Go.Deep.choose_lt each
    have hfl : ((List.range len).map f).length = len := by simp
    refine ⟨(List.range len).map f, some a, cap, by rw [hfl], ⟨by rw [hfl]; exact hl, hcm, fun hn => ?_⟩⟩
    have h0 : 0 < len := by
      rcases Nat.eq_zero_or_pos len with e | e
      · subst e; exact absurd rfl hn
      · exact e
    obtain ⟨_, _, _, _, ⟨hc0, _⟩, _⟩ := hf 0 h0
    obtain ⟨b, o, spot⟩ := a
    have hspot : spot = none := by simpa [Addr.add] using World.cell?_spot hc0
    subst hspot
    have hbl := cell_lt hc0
    refine ⟨b, o, rfl, by simpa [Addr.add] using hbl, fun i e he => ?_⟩
    have hi : i < len := by have := (List.getElem?_eq_some_iff.1 he).1; omega
    simp [hi] at he
    subst he
    obtain ⟨A1, c1, A2, c2, ⟨k0, k1, k2, k3, k4, k5, k6⟩, hr⟩ := hf i hi
    have ad : ∀ j, ((⟨b, o, none⟩ : Addr).add (i * 7)).add j = ⟨b, o + i * 7 + j, none⟩ := fun j => by
      rw [Addr.add_mid, Addr.add_mid]
    rw [ad] at k0 k1 k2 k3 k4 k5 k6
    exact ⟨A1, c1, A2, c2, ⟨k0, k1, k2, k3, k4, k5, k6⟩, hr⟩
set_option maxRecDepth 100000 in
/-- An argument that is a meaning. -/
theorem tx_of_arg {b0 : Nat} {v : Value} {d : DataW H} {p : List MemPlace} (hv : Value.okWide Try.prog W .any b0 50 v) (h : DataW.Trod enc Try.prog W 0 (fun _ => true) true 50 v d p) :
    ∃ t : Tx, TxV W W.heap.size t v := by
  obtain ⟨cs, rfl, hcs⟩ := okWide_struct Try.underlying50 hv
  obtain ⟨fuel, hf⟩ := h
  obtain ⟨xs, n, hn, _, hlen, hxl, hff⟩ := DataW.trod_struct Try.underlying50 hf
  rw [cells50] at hcs hlen
  have hxl : xs.length = 3 := hxl
  obtain ⟨l⟩ := cs
  match l, hcs, xs, hxl with
  | [c0, c1, c2], _, [x0, x1, x2], _ =>
    have h0 := hff 0 _ rfl
    have h1 := hff 1 _ rfl
    have h2 := hff 2 _ rfl
    simp [cells25, Value.cells] at h0 h1
    simp [cells25, cells48, Value.cells] at h2
    obtain ⟨i1, A1, p1, rfl, g1⟩ := is_cell h0
    obtain ⟨i2, A2, p2, rfl, g2⟩ := is_cell h1
    obtain ⟨L, A3, p3, e3, g3⟩ := rs_cell h2
    simp at e3
    subst e3
    exact ⟨⟨i1, i2, L⟩, A1, p1, A2, p2, A3, p3, rfl, g1, g2, g3⟩
end
/-- A row over a world that is shaped. -/
theorem handed_shaped {H : Type} {enc : TypeId × Value → H} {a : Assume} {C : Checked} {os : Os} {f : FuncId} {fn : Func} {s : ChangeSpec} {conds : List PathCond} {apart fresh handsOn again : Bool}
    (own : ownKnob C.prog.godebug = none) (started : os.Started) (noInit : C.prog.inits.idxOf? f = none) (hfn : C.prog.funcs[f]? = some fn)
    (witness : ∃ (w : World) (tape : Tape) (i : Input), w.os = os ∧ (w.forCall tape i).Shaped C.prog ∧ i.vars = [] ∧ Input.okWide C.prog (w.forCall tape i) .any w.heap.size f i ∧
      s.pre6 enc C.prog fn conds apart (w.forCall tape i).memory i.args ∧ a.holds C.prog (lone (Frame.enter C.prog f i.args .normal) [] (w.forCall tape i)))
    (contract : ∀ (W : World) (base : Nat) (args : Array Value) (ds gs : List (DataW H)) (before : List MemPlace), W.ShapedOpen C.prog →
      (∀ (j : Nat) t v, fn.params[j]? = some t → args[j]? = some v → Value.okWide C.prog W .any base t v) →
      DataW.Whole enc C.prog fn.params.toList s.vars apart W args.toList ds gs before →
      Calls C.prog f args W fun e W' => ∃ v, e = .returned v ∧ s.post enc C.prog fn apart fresh handsOn again W args v W') :
    ReturnsInHanded a C os f .any (s.pre6 enc C.prog fn conds apart) (s.post enc C.prog fn apart fresh handsOn again) := by
  refine returnsInHanded_of_calls own started noInit witness ?_
  intro w tape i _ hsh _ hok hpre _
  obtain ⟨_, _, _, fn', hfn', _, _, _, _, hval⟩ := hok
  cases hfn.symm.trans hfn'
  obtain ⟨⟨ds, gs, before, hw, _⟩, _⟩ := hpre
  refine (contract (w.forCall tape i) w.heap.size i.args ds gs before hsh hval (DataW.Whole.of_heap (w' := w.forCall tape i) (by rfl) hw)).mono ?_
  rintro e W' ⟨v, rfl, hp⟩
  exact ChangeSpec.post_blind hp
end Go.Proofs.Ytegkogadceodlaa
