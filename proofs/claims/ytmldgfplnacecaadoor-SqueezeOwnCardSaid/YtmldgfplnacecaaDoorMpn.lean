/-
  Maps that tell numbers of keys; contract: numbered of numbers.
-/
import Derived.Test.YtmldgfplnacecaaDoorNml
namespace Go.Proofs.YtmldgfplnacecaaDoor
open Go.RowKit Go.Shelf Go.Lib Go.Maps Go.Sort

/-- An element as it stands. -/
def hR (v : Value) : Option (DataW Value × List MemPlace) := some (.held v, [])
/-- A map that tells the numbers of keys. -/
def Nmg {α : Type} (kt : TypeId) (enc : α → Lit) (dom : α → Prop) (w : World) (b : Nat) (S : List α) : Prop :=
  ∃ D : DataW Value, w.ownsMap Tryd.prog kt hR b S.length D ∧ Maps.size D = S.length ∧ (∀ (i : Nat) x, S[i]? = some x → Maps.has D (enc x) = true ∧ ∀ z, D.atKey (enc x) z = .held (.int .i64 (i : Int))) ∧
    (∀ x, dom x → x ∉ S → Maps.has D (enc x) = false)
theorem Nmg.lt {α : Type} {kt : TypeId} {enc : α → Lit} {dom : α → Prop} {w : World} {b : Nat} {S : List α} (h : Nmg kt enc dom w b S) : b < w.heap.size := by obtain ⟨D, h, _⟩ := h; exact h.lt
theorem Nmg.block {α : Type} {kt : TypeId} {enc : α → Lit} {dom : α → Prop} {w w' : World} {b : Nat} {S : List α} (h : Nmg kt enc dom w b S) (hb : w'.heap[b]? = w.heap[b]?) : Nmg kt enc dom w' b S := by
  obtain ⟨D, ⟨es, clock, h1, h2, h3, h4⟩, hf⟩ := h
  exact ⟨D, ⟨es, clock, hb.trans h1, h2, h3, h4⟩, hf⟩
theorem Nmg.made {α : Type} (kt : TypeId) (enc : α → Lit) (dom : α → Prop) (w : World) : Nmg kt enc dom (w.alloc (.map #[] 0)) w.heap.size [] := ⟨_, World.ownsMap_made _ _ _ _, rfl, fun i x h => by simp at h, fun x _ _ => rfl⟩
theorem wpList_look_hit {α : Type} {ops : Array Oper} {rest : List Oper} {o : Oper} {a : Act} {w : World} {Q : Exit → Act → World → Prop} (hg : o.guard = none) (m x : Operand) (mt kt : TypeId) (hop : o.op = Op.lookup mt m x true) (hkd : Keyed Tryd.prog kt)
    (hu : Tryd.prog.underlying mt = some (.map kt 3)) {enc : α → Lit} {dom : α → Prop} (b : Nat) (S : List α) (h : Nmg kt enc dom w b S) (y : α) (val : Value) (hk : keyOf Tryd.prog kt val = some (enc y)) (i : Nat) (hi' : S[i]? = some y)
    (hm : a.eval m = .map (some b)) (hx : a.eval x = val) (h1 : wpList Tryd.prog ops Q rest (a.put o.dst (.tuple #[.int .i64 (i : Int), .bool true])) w) : wpList Tryd.prog ops Q (o :: rest) a w := by
  obtain ⟨D, hD, _, hi, hn⟩ := h
  refine wpList_lookup_own_ok w hg m x mt hop kt 3 hkd hu hR (z := .int .i64 0) (by kernel_rfl) (.held (.int .i64 0)) [] rfl b S.length D hm hD val (enc y) hx hk fun v ps hv => ?_
  simp only [hR, Option.some.injEq, Prod.mk.injEq] at hv
  obtain ⟨e1, e2⟩ := hi i y hi'
  rw [e1]
  have e3 := hv.1.trans (e2 _)
  injection e3 with e3
  rw [e3]
  exact h1
theorem wpList_look_miss {α : Type} {ops : Array Oper} {rest : List Oper} {o : Oper} {a : Act} {w : World} {Q : Exit → Act → World → Prop} (hg : o.guard = none) (m x : Operand) (mt kt : TypeId) (hop : o.op = Op.lookup mt m x true) (hkd : Keyed Tryd.prog kt)
    (hu : Tryd.prog.underlying mt = some (.map kt 3)) {enc : α → Lit} {dom : α → Prop} (b : Nat) (S : List α) (h : Nmg kt enc dom w b S) (y : α) (val : Value) (hk : keyOf Tryd.prog kt val = some (enc y)) (hy : dom y) (hnot : y ∉ S)
    (hm : a.eval m = .map (some b)) (hx : a.eval x = val) (h1 : wpList Tryd.prog ops Q rest (a.put o.dst (.tuple #[.int .i64 0, .bool false])) w) : wpList Tryd.prog ops Q (o :: rest) a w := by
  obtain ⟨D, hD, _, hi, hn⟩ := h
  refine wpList_lookup_own_ok w hg m x mt hop kt 3 hkd hu hR (z := .int .i64 0) (by kernel_rfl) (.held (.int .i64 0)) [] rfl b S.length D hm hD val (enc y) hx hk fun v ps hv => ?_
  simp only [hR, Option.some.injEq, Prod.mk.injEq] at hv
  have e1 := hn y hy hnot
  rw [e1]
  have e3 := hv.1.trans (Maps.atKey_of_not_has e1 _)
  injection e3 with e3
  rw [e3]
  exact h1
theorem wpList_lenN {α : Type} {ops : Array Oper} {rest : List Oper} {o : Oper} {a : Act} {w : World} {Q : Exit → Act → World → Prop} (hg : o.guard = none) (m : Operand) (mt kt : TypeId) (hop : o.op = Op.call { callee := Callee.builtin Builtin.len, args := #[m], argTypes := #[mt] })
    (hu : Tryd.prog.underlying mt = some (.map kt 3)) {enc : α → Lit} {dom : α → Prop} (b : Nat) (S : List α) (h : Nmg kt enc dom w b S)
    (hm : a.eval m = .map (some b)) (hK : wpList Tryd.prog ops Q rest (a.put o.dst (.int .i64 (S.length : Int))) w) : wpList Tryd.prog ops Q (o :: rest) a w := by
  obtain ⟨D, hD, hz, _⟩ := h
  refine wpList_len_own w hg m mt hop kt 3 hu hR b S.length D hm hD ?_
  rw [hz]; exact hK
theorem wpList_updN {α : Type} {ops : Array Oper} {rest : List Oper} {o : Oper} {a : Act} {w : World} {Q : Exit → Act → World → Prop} (hg : o.guard = none) (m x v : Operand) (mt kt : TypeId) (hop : o.op = Op.mapUpdate mt m x v) (hkd : Keyed Tryd.prog kt)
    (hu : Tryd.prog.underlying mt = some (.map kt 3)) {enc : α → Lit} {dom : α → Prop} (hlit : ∀ x, WideAt.IsKeyLit (enc x)) (hinj : ∀ x y, dom x → dom y → enc x = enc y → x = y) (b : Nat) (S : List α) (h : Nmg kt enc dom w b S) (hS : S.length ≤ 100000)
    (hdom : ∀ x ∈ S, dom x) (y : α) (val : Value) (hk : keyOf Tryd.prog kt val = some (enc y)) (hy : dom y) (hnot : y ∉ S) (hm : a.eval m = .map (some b)) (hx : a.eval x = val) (hv : a.eval v = .int .i64 (S.length : Int))
    (hK : ∀ w', Nmg kt enc dom w' b (S ++ [y]) → w.grownBy w' (some b) → wpList Tryd.prog ops Q rest (a.put o.dst undef) w') : wpList Tryd.prog ops Q (o :: rest) a w := by
  obtain ⟨D, hD, hz, hi, hn⟩ := h
  refine wpList_mapUpdate_in w hg m x v mt hop kt 3 hkd hu hR b S.length D hm hD (by unfold maxLen; omega) _ (.int .i64 (S.length : Int)) (enc y) hx hv hk (.held (.int .i64 (S.length : Int))) [] rfl fun w' h1 h2 => ?_
  have hne : ∀ x, dom x → x ≠ y → enc x ≠ enc y := fun x hx e h => e (hinj x y hx hy h)
  refine hK w' ⟨D.put (enc y) (.held (.int .i64 (S.length : Int))), by simpa using h1, ?_, ?_, ?_⟩ h2.grown
  · rw [Maps.size_put (hD.tidy hkd), hn y hy hnot, hz]; simp
  · intro i x hix
    rcases Nat.lt_or_ge i S.length with hlt | hge
    · rw [List.getElem?_append_left hlt] at hix
      have hmem := List.mem_of_getElem? hix
      have hk := hne x (hdom x hmem) (fun e => hnot (e ▸ hmem))
      obtain ⟨e1, e2⟩ := hi i x hix
      exact ⟨by rw [Maps.has_put_other hk]; exact e1, fun z => by rw [Maps.atKey_put_other hk]; exact e2 z⟩
    · have hl2 := (List.getElem?_eq_some_iff.1 hix).1
      simp at hl2
      obtain rfl : i = S.length := by omega
      simp at hix
      subst hix
      exact ⟨Maps.has_put_same hD.isMap (hlit _) _, fun z => Maps.atKey_put_same hD.isMap (hlit _) _ _⟩
  · intro x hx hxn
    simp at hxn
    rw [Maps.has_put_other (hne x hx hxn.2)]
    exact hn x hx hxn.1
theorem keyed3 : Keyed Tryd.prog 3 := int_keyed Tryd.underlying3
theorem wf64 {k : Int} (h : i64 k) : (Lit.int .i64 k).wf = true := by simpa [Lit.wf, IntKind.min, IntKind.max, IntKind.signed, IntKind.bits, i64] using h
theorem key64 {k : Int} (h : i64 k) : keyOf Tryd.prog 3 (.int .i64 k) = some (.int .i64 k) := keyOf_int_mk Tryd.underlying3 (wf64 h)
def encI (x : Int) : Lit := .int .i64 x
theorem encI_inj (x y : Int) (h : encI x = encI y) : x = y := by unfold encI at h; injection h
/-- What holds while keys are numbered. -/
structure Nu {α : Type} [DecidableEq α] (kt : TypeId) (enc : α → Lit) (dom : α → Prop) (w wr : World) (l : List α) (k n mb ob : Nat) : Prop where
  b : Below w.heap.size w wr
  m : Nmg kt enc dom wr mb (seenL (l.take k))
  o : Cells wr ob 3 (arr n fun j => .int .i64 (if j < k then (numL l).getD j 0 else 0))
  h1 : w.heap.size ≤ mb
  h2 : mb < ob
theorem Nu.store {α : Type} [DecidableEq α] {kt : TypeId} {enc : α → Lit} {dom : α → Prop} {w wr : World} {l : List α} {k n mb ob : Nat} (hb : Below w.heap.size w wr) (hm : Nmg kt enc dom wr mb (seenL (l.take (k + 1))))
    (ho : Cells wr ob 3 (arr n fun j => .int .i64 (if j < k then (numL l).getD j 0 else 0))) (h1 : w.heap.size ≤ mb) (h2 : mb < ob) {v : Int} (hv : (numL l)[k]? = some v) : Nu kt enc dom w (wr.setCell ⟨ob, k, none⟩ (.int .i64 v)) l (k + 1) n mb ob := by
  have gr := grown_setc wr ob k (.int .i64 v)
  refine ⟨hb.setCell (by show w.heap.size ≤ ob; omega) _, hm.block (gr.block mb hm.lt (by simp; omega)), ?_, h1, h2⟩
  have := ho.set k (.int .i64 v)
  rw [arr_set] at this
  have e : arr n (fun j => .int .i64 (if j < k + 1 then (numL l).getD j 0 else 0)) = arr n (fun j => if j = k then .int .i64 v else .int .i64 (if j < k then (numL l).getD j 0 else 0)) := arr_congr fun j _ => by
    by_cases e1 : j = k
    · subst e1; rw [if_pos (by omega), if_pos rfl, getD_get hv]
    · rw [if_neg e1]
      by_cases e2 : j < k
      · rw [if_pos e2, if_pos (by omega)]
      · rw [if_neg e2, if_neg (by omega)]
  rw [e]; exact this
theorem numL_step {α : Type} [DecidableEq α] {l : List α} {k : Nat} {x : α} (hx : l[k]? = some x) : (numL l)[k]? = some (numT (seenL (l.take (k + 1))) x) := numL_get hx (by omega) (by have := (List.getElem?_eq_some_iff.1 hx).1; omega)
set_option maxHeartbeats 8000000 in
set_option maxRecDepth 100000 in
theorem num69_any (l : List Int) (A : Option Addr) (cap : Nat) (hl : l.length ≤ 1000) (w : World) (h : IS w w.heap.size l A cap) :
    Calls Tryd.prog 69 #[.slice A l.length cap] w fun r w' => Below w.heap.size w w' ∧ ∃ v, r = .returned v ∧ FrL w w' (numL l) v := by
  obtain ⟨N, hN⟩ : ∃ N, l.length = N := ⟨_, rfl⟩
  have mk1 : ∀ t (W : World), (Instr.makeMap t none).run Tryd.prog W = .ok (.map (some W.heap.size)) (W.alloc (.map #[] 0)) := fun t W => run_makeMap t W
  have mk2 := make_ints N (by omega)
  obtain ⟨W0, hW0⟩ : ∃ W, (w.alloc (.map #[] 0)).alloc (.cells (arr N fun _ => .int .i64 0) 3) = W := ⟨_, rfl⟩
  have S0 : Nu 3 encI i64 w W0 l 0 N w.heap.size (w.heap.size + 1) := by
    refine ⟨by rw [← hW0]; exact ((Below.refl _ _).alloc (Nat.le_refl _) _).alloc (by simp) _, ?_, ?_, Nat.le_refl _, by omega⟩
    · rw [← hW0]; exact (Nmg.made 3 encI i64 w).block ((below_new _ _).block _ (by simp))
    · have := cells_new (w.alloc (.map #[] 0)) (arr N fun _ => .int .i64 0) 3
      rw [World.size_alloc] at this
      rw [← hW0]
      have e : arr N (fun j => .int .i64 (if j < 0 then (numL l).getD j 0 else 0)) = arr N fun _ => .int .i64 0 := arr_congr fun j _ => by simp
      rw [e]; exact this
  have H := Lib.hid (And.intro h (And.intro hN S0))
  have HW := Lib.hid hW0
  rw [hN] at hl ⊢
  clear h hN S0 hW0
  go_enter Tryd.func69, Tryd.ntmps69
  go_wp2_with fail
  rw [HW.out]
  go_loopw [15] (fun i wr => ∃ k : Nat, i = .int .i64 (k : Int) ∧ k ≤ N ∧ Nu 3 encI i64 w wr l k N w.heap.size (w.heap.size + 1)) (fun i _ => N - (RowKit.intOf i).toNat)
  case atStart => exact ⟨0, rfl, by omega, H.out.2.2⟩
  case round =>
    obtain ⟨k, rfl, hk, hNu⟩ := hrel
    by_cases hlt : k < N
    · have i1 : (k : Int) < (N : Int) := by omega
      obtain ⟨x, hx⟩ := list_at (xs := l) (i := k) (by rw [H.out.2.1]; exact hlt)
      obtain ⟨b, o, rfl, hbl, hc⟩ := H.out.1.r (by rintro rfl; simp at hx)
      have d0 := (hNu.b.cell (p := ⟨b, o + k, none⟩) hbl).trans (hc k x hx)
      have hxi := H.out.1.i x (List.mem_of_getElem? hx)
      have hst := numL_step hx
      have hseen := seenL_take hx
      have hdom : ∀ y ∈ seenL (l.take k), i64 y := fun y hy => H.out.1.i y (List.mem_of_mem_take ((mem_seenT l k (by rw [H.out.2.1]; exact hk) y).1 hy))
      have hsl := seenT_length l k (by rw [H.out.2.1]; exact hk)
      obtain ⟨S, hS⟩ : ∃ S, seenL (l.take k) = S := ⟨_, rfl⟩
      have hM := hNu.m
      rw [hS] at hM hseen hdom hsl
      have o1 := hNu.o.cell k
      have f1 := hNu.o.froz k
      have z1 := hNu.o.lt
      rw [arr_get _ hlt] at o1
      by_cases hmem : x ∈ S
      · rw [if_pos hmem] at hseen
        obtain ⟨i, hi1, hi2, hi3⟩ := numT_hit hmem
        rw [hseen, hi1] at hst
        have HK := Lib.hid (And.intro hM (And.intro hi2 (And.intro hxi (Nu.store (w := w) (v := (i : Int)) hNu.b (by rw [hseen]; exact hM) hNu.o hNu.h1 hNu.h2 hst))))
        have hi0 : i ≤ 1000 := by omega
        clear hx hbl hc hxi hst hseen hdom hS hM hmem hi1 hi2 hi3 hNu
        go_wp2_with (first
          | (refine wpList_look_hit rfl (.tmp 21) (.tmp 22) 140 3 rfl keyed3 Tryd.underlying140 w.heap.size S HK.out.1 x (.int .i64 x) (key64 HK.out.2.2.1) i HK.out.2.1 rfl rfl ?_)
          | fail)
        go_roundw
        case rel => exact ⟨k + 1, by go_num, by omega, HK.out.2.2.2⟩
        case measure => simp [RowKit.intOf]; omega
      · rw [if_neg hmem] at hseen
        rw [hseen, numT_new hmem] at hst
        have HK := Lib.hid (And.intro hM (And.intro hmem (And.intro hxi (And.intro hdom (And.intro hNu (And.intro hst hseen))))))
        clear hx hbl hc hxi hst hseen hdom hS hM hmem hNu
        go_wp2_with (first
          | (refine wpList_look_miss rfl (.tmp 21) (.tmp 22) 140 3 rfl keyed3 Tryd.underlying140 w.heap.size S HK.out.1 x (.int .i64 x) (key64 HK.out.2.2.1) HK.out.2.2.1 HK.out.2.1 rfl rfl ?_)
          | (refine wpList_lenN rfl (.tmp 28) 140 3 rfl Tryd.underlying140 w.heap.size S HK.out.1 rfl ?_)
          | (refine wpList_updN rfl (.tmp 30) (.tmp 31) (.tmp 32) 140 3 rfl keyed3 Tryd.underlying140 (fun _ => show WideAt.IsKeyLit (Lit.int .i64 _) from trivial) (fun x y _ _ => encI_inj x y) w.heap.size S HK.out.1 (by omega) HK.out.2.2.2.1 x (.int .i64 x) (key64 HK.out.2.2.1) HK.out.2.2.1 HK.out.2.1 rfl rfl rfl ?_
             intro w2 hM2 hg2
             have b2 := HK.out.2.2.2.2.1.b.grown hg2 HK.out.2.2.2.2.1.b.size (fun q hq => by injection hq with hq; omega)
             have o2 : Cells w2 (w.heap.size + 1) 3 _ := (hg2.block _ HK.out.2.2.2.2.1.o.lt (by simp)).trans HK.out.2.2.2.2.1.o
             have g1 := o2.cell k
             have g2 := o2.froz k
             rw [arr_get _ hlt] at g1
             have zz := o2.lt
             have HE := Lib.hid (Nu.store (w := w) (l := l) (k := k) (v := (S.length : Int)) b2 (by rw [HK.out.2.2.2.2.2.2]; exact hM2) o2 (Nat.le_refl _) (by omega) HK.out.2.2.2.2.2.1)
             clear hM2 hg2 b2 o2)
          | fail)
        go_roundw
        case rel => exact ⟨k + 1, by go_num, by omega, HE.out⟩
        case measure => simp [RowKit.intOf]; omega
    · obtain rfl : k = N := by omega
      have i1 : ¬ (k : Int) < (k : Int) := by omega
      have hfin : FrL w wr (numL l) (.slice (some ⟨w.heap.size + 1, 0, none⟩) k k) := by
        refine ⟨w.heap.size + 1, by rw [numL_len, H.out.2.1], by omega, ?_⟩
        have e : arr k (fun j => .int .i64 (if j < k then (numL l).getD j 0 else 0)) = (intsC (numL l)).toArray := by
          rw [← arr_ints, numL_len, H.out.2.1]
          exact arr_congr fun j hj => by rw [if_pos hj]
        rw [← e]; exact hNu.o
      have HF := Lib.hid (And.intro hNu.b hfin)
      clear hNu hfin
      go_wp2_with fail
      go_ret
      exact ⟨HF.out.1, _, rfl, HF.out.2⟩
end Go.Proofs.YtmldgfplnacecaaDoor
