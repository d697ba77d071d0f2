/-
  Contracts: usualOf, columnsOf.
-/
import Derived.Test.YtadipgkgllcicaaWrd
namespace Go.Proofs.Ytadipgkgllcicaa
open Go.RowKit Go.Shelf Go.Lib Go.Maps

/-- An element as it stands. -/
def hR (v : Value) : Option (DataW Value × List MemPlace) := some (.held v, [])
/-- A map of ints, as a function. -/
def MapF (w : World) (b n : Nat) (z : Value) (f : Int → Value) : Prop := ∃ D : DataW Value, w.ownsMap Try.prog 3 hR b n D ∧ ∀ k : Int, D.atKey (.int .i64 k) (.held z) = .held (f k)
theorem MapF.lt {w : World} {b n : Nat} {z : Value} {f : Int → Value} (h : MapF w b n z f) : b < w.heap.size := by obtain ⟨D, h, _⟩ := h; exact h.lt
theorem MapF.block {w w' : World} {b n : Nat} {z : Value} {f : Int → Value} (h : MapF w b n z f) (hb : w'.heap[b]? = w.heap[b]?) : MapF w' b n z f := by
  obtain ⟨D, ⟨es, clock, h1, h2, h3, h4⟩, hf⟩ := h
  exact ⟨D, ⟨es, clock, hb.trans h1, h2, h3, h4⟩, hf⟩
theorem MapF.congr {w : World} {b n : Nat} {z : Value} {f g : Int → Value} (h : MapF w b n z f) (hfg : ∀ k, f k = g k) : MapF w b n z g := by
  obtain ⟨D, h1, hf⟩ := h
  exact ⟨D, h1, fun k => by rw [hf, hfg]⟩
theorem MapF.mono {w : World} {b n n' : Nat} {z : Value} {f : Int → Value} (h : MapF w b n z f) (hn : n ≤ n') : MapF w b n' z f := by
  obtain ⟨D, h1, hf⟩ := h
  exact ⟨D, h1.mono hn, hf⟩
theorem MapF.made (w : World) (z : Value) : MapF (w.alloc (.map #[] 0)) w.heap.size 0 z (fun _ => z) := ⟨_, World.ownsMap_made _ _ _ _, fun _ => rfl⟩
theorem keyed3 : Keyed Try.prog 3 := int_keyed Try.underlying3
theorem wf64 {k : Int} (h : i64 k) : (Lit.int .i64 k).wf = true := by simpa [Lit.wf, IntKind.min, IntKind.max, IntKind.signed, IntKind.bits, i64] using h
theorem key64 {k : Int} (h : i64 k) : keyOf Try.prog 3 (.int .i64 k) = some (.int .i64 k) := keyOf_int_mk Try.underlying3 (wf64 h)
theorem MapF.lookup {w : World} {b n : Nat} {z : Value} {f : Int → Value} (h : MapF w b n z f) {t e : TypeId} (ht : Try.prog.underlying t = some (.map 3 e)) (hz : (zeroValue e).run Try.prog w = .ok z w) {k : Int} (hk : i64 k) :
    (Instr.lookup t (.map (some b)) (.int .i64 k) false).run Try.prog w = .ok (f k) w := by
  obtain ⟨D, h1, hf⟩ := h
  obtain ⟨v, ps, hrun, hv⟩ := h1.lookup keyed3 ht hz (zd := .held z) (zp := []) rfl (key64 hk)
  simp only [hR, Option.some.injEq, Prod.mk.injEq] at hv
  have e : v = f k := by have := hv.1.trans (hf k); injection this
  rw [hrun, e]
theorem MapF.update {w : World} {b n : Nat} {z : Value} {f : Int → Value} (h : MapF w b n z f) {t e : TypeId} (ht : Try.prog.underlying t = some (.map 3 e)) (hn : n < maxLen) {k : Int} (hk : i64 k) (v : Value) :
    ∃ w', (Instr.mapUpdate t (.map (some b)) (.int .i64 k) v).run Try.prog w = .ok () w' ∧ MapF w' b (n + 1) z (fun j => if j = k then v else f j) ∧ w.grownBy w' (some b) := by
  obtain ⟨D, h1, hf⟩ := h
  obtain ⟨w', hrun, h2, h3⟩ := h1.update keyed3 ht hn (key64 hk) (show hR v = some (.held v, []) from rfl)
  refine ⟨w', hrun, ⟨_, h2, fun j => ?_⟩, h3⟩
  dsimp only
  by_cases e : j = k
  · rw [if_pos e, e]
    exact atKey_put_same h1.isMap (show WideAt.IsKeyLit (.int .i64 k) from trivial) _ _
  · rw [if_neg e, atKey_put_other (by intro h; injection h with _ h; exact e h)]
    exact hf j
theorem wpList_lookupF {ops : Array Oper} {rest : List Oper} {o : Oper} {a : Act} {w : World} {Q : Exit → Act → World → Prop} (hg : o.guard = none) (m x : Operand) (t e : TypeId) (hop : o.op = Op.lookup t m x false)
    (ht : Try.prog.underlying t = some (.map 3 e)) (b n : Nat) (z : Value) (f : Int → Value) (h : MapF w b n z f) (hz : (zeroValue e).run Try.prog w = .ok z w) (k : Int) (hk : i64 k)
    (hm : a.eval m = .map (some b)) (hx : a.eval x = .int .i64 k)
    (hK : wpList Try.prog ops Q rest (a.put o.dst (f k)) w) : wpList Try.prog ops Q (o :: rest) a w := by
  refine wpList_plain hg fun K' hK' => ?_
  unfold Oper.wp
  simp [execOp, hop, hm, hx, h.lookup ht hz hk, Result.andThen]
  exact hK' _ _ hK
theorem wpList_updateF {ops : Array Oper} {rest : List Oper} {o : Oper} {a : Act} {w : World} {Q : Exit → Act → World → Prop} (hg : o.guard = none) (m x y : Operand) (t e : TypeId) (hop : o.op = Op.mapUpdate t m x y)
    (ht : Try.prog.underlying t = some (.map 3 e)) (b n : Nat) (z : Value) (f : Int → Value) (h : MapF w b n z f) (hn : n < maxLen) (k : Int) (hk : i64 k) (v : Value)
    (hm : a.eval m = .map (some b)) (hx : a.eval x = .int .i64 k) (hy : a.eval y = v)
    (hK : ∀ w', MapF w' b (n + 1) z (fun j => if j = k then v else f j) → w.grownBy w' (some b) → wpList Try.prog ops Q rest (a.put o.dst undef) w') : wpList Try.prog ops Q (o :: rest) a w := by
  refine wpList_plain hg fun K' hK' => ?_
  obtain ⟨w', hrun, r1, r2⟩ := h.update ht hn hk v
  unfold Oper.wp
  simp [execOp, hop, hm, hx, hy, hrun, Result.andThen]
  exact hK' _ _ (hK w' r1 r2)
theorem wpList_lookupV {ops : Array Oper} {rest : List Oper} {o : Oper} {a : Act} {w : World} {Q : Exit → Act → World → Prop} (hg : o.guard = none) (m x : Operand) (t e : TypeId) (hop : o.op = Op.lookup t m x false)
    (ht : Try.prog.underlying t = some (.map 3 e)) (b n : Nat) (z : Value) (f : Int → Value) (h : MapF w b n z f) (hz : (zeroValue e).run Try.prog w = .ok z w) (k : Int) (hk : i64 k) (v : Value) (hv : f k = v)
    (hm : a.eval m = .map (some b)) (hx : a.eval x = .int .i64 k)
    (hK : wpList Try.prog ops Q rest (a.put o.dst v) w) : wpList Try.prog ops Q (o :: rest) a w :=
  wpList_lookupF hg m x t e hop ht b n z f h hz k hk hm hx (by rw [hv]; exact hK)
def cntF (l : List Int) (k : Int) : Value := .int .i64 ((l.count k : Nat) : Int)
theorem cnt_take {l : List Int} {k : Nat} {x : Int} (h : l[k]? = some x) (j : Int) : (if j = x then Value.int .i64 (((l.take k).count x : Nat) + 1 : Int) else cntF (l.take k) j) = cntF (l.take (k + 1)) j := by
  unfold cntF
  rw [List.take_add_one, h, Option.toList_some, List.count_append]
  by_cases e : j = x
  · subst e; simp
  · rw [if_neg e]
    have : List.count j [x] = 0 := by rw [List.count_eq_zero]; simpa using e
    rw [this]; rfl
theorem zero3 (w : World) : (zeroValue 3).run Try.prog w = .ok (.int .i64 0) w := by kernel_rfl
theorem usual_take {row : List Int} {k : Nat} {x : Int} (h : row[k]? = some x) (u : Int) : (row.take (k + 1)).foldl (pickR row) u = pickR row ((row.take k).foldl (pickR row) u) x := by
  rw [List.take_add_one, h, Option.toList_some, List.foldl_append]
  rfl
theorem pick_mem {row : List Int} (u : Int) (hu : i64 u) : ∀ l : List Int, (∀ x ∈ l, i64 x) → i64 (l.foldl (pickR row) u) := by
  intro l
  induction l generalizing u with
  | nil => intro _; exact hu
  | cons x r ih =>
    intro h
    refine ih _ ?_ (fun y hy => h y (by simp [hy]))
    unfold pickR
    split
    · exact h x (by simp)
    · exact hu
set_option maxHeartbeats 4000000 in
set_option maxRecDepth 100000 in
theorem usual_any (row : List Int) (A : Option Addr) (cap : Nat) (h1 : 1 ≤ row.length) (h64 : row.length ≤ 64) (w : World) (h : IS w w.heap.size row A cap) :
    Calls Try.prog 33 #[.slice A row.length cap] w fun r w' => r = .returned (.int .i64 (usualR row)) ∧ Below w.heap.size w w' := by
  obtain ⟨N, hN⟩ : ∃ N, row.length = N := ⟨_, rfl⟩
  obtain ⟨R, hR⟩ : ∃ R, usualR row = R := ⟨_, rfl⟩
  have hcnt : ∀ x, row.count x ≤ N := fun x => by rw [← hN]; exact List.count_le_length
  have mk1 : ∀ t (W : World), (Instr.makeMap t none).run Try.prog W = .ok (.map (some W.heap.size)) (W.alloc (.map #[] 0)) := fun t W => run_makeMap t W
  have M0 : MapF (w.alloc (.map #[] 0)) w.heap.size 0 (.int .i64 0) (cntF (row.take 0)) := (MapF.made w (.int .i64 0)).congr (fun k => by simp [cntF])
  have B0 := below_new w (.map #[] 0)
  have H := Lib.hid (And.intro h (And.intro hN (And.intro hR (And.intro M0 (And.intro B0 hcnt)))))
  rw [hN] at h1 h64
  rw [hN, hR]
  clear h hN hR M0 B0 hcnt
  obtain ⟨x0, hx0⟩ := list_at (xs := row) (i := 0) (by rw [H.out.2.1]; omega)
  obtain ⟨b, o, rfl, hbl, hc⟩ := H.out.1.r (by rintro rfl; simp at hx0)
  have HX0 := Lib.hid hx0
  have HBC := Lib.hid (And.intro hbl hc)
  clear hx0 hbl hc
  go_enter Try.func33, Try.ntmps33
  go_wp2_with fail
  go_loopw [14] (fun i wr => ∃ k : Nat, i = .int .i64 (k : Int) ∧ k ≤ N ∧ MapF wr w.heap.size k (.int .i64 0) (cntF (row.take k)) ∧ Below w.heap.size w wr) (fun i _ => N - (RowKit.intOf i).toNat)
  case atStart => exact ⟨0, rfl, by omega, H.out.2.2.2.1, H.out.2.2.2.2.1⟩
  case round =>
    obtain ⟨k, rfl, hk, hM, hb⟩ := hrel
    by_cases hlt : k < N
    · have i1 : (k : Int) < (N : Int) := by omega
      obtain ⟨x, hx⟩ := list_at (xs := row) (i := k) (by rw [H.out.2.1]; exact hlt)
      have d0 := (hb.cell (p := ⟨b, o + k, none⟩) HBC.out.1).trans (HBC.out.2 k x hx)
      have hcx : (row.take k).count x ≤ 64 := by have := List.count_le_length (a := x) (l := row.take k); rw [List.length_take] at this; omega
      have HK := Lib.hid (And.intro hM (And.intro hb (And.intro hx (H.out.1.i x (List.mem_of_getElem? hx)))))
      clear hM hb hx
      obtain ⟨c, hcc⟩ : ∃ c, (row.take k).count x = c := ⟨_, rfl⟩
      rw [hcc] at hcx
      have HC := Lib.hid hcc
      clear hcc
      go_wp2_with (first
        | (refine wpList_lookupV rfl (.tmp 18) (.tmp 19) 68 3 rfl Try.underlying68 w.heap.size k (.int .i64 0) _ HK.out.1 (zero3 _) x HK.out.2.2.2 (.int .i64 (c : Int)) (by unfold cntF; rw [HC.out]) rfl rfl ?_)
        | (refine wpList_updateF rfl (.tmp 18) (.tmp 19) (.tmp 21) 68 3 rfl Try.underlying68 w.heap.size k (.int .i64 0) _ HK.out.1 (by unfold maxLen; omega) x HK.out.2.2.2 (.int .i64 ((c : Int) + 1)) rfl rfl rfl ?_
           intro w2 hM2 hg2
           have hM3 := Lib.hid (hM2.congr (g := cntF (row.take (k + 1))) (fun j => by rw [← HC.out]; exact cnt_take HK.out.2.2.1 j))
           have hB3 := Lib.hid (HK.out.2.1.grown hg2 HK.out.2.1.size (fun q hq => by injection hq with hq; omega))
           clear hM2 hg2)
        | fail)
      go_roundw
      case rel => exact ⟨k + 1, by go_num, by omega, hM3.out, hB3.out⟩
      case measure => simp [RowKit.intOf]; omega
    · obtain rfl : k = N := by omega
      obtain ⟨wo, rfl⟩ : ∃ wo : World, wo = wr := ⟨_, rfl⟩
      have i1 : ¬ (k : Int) < (k : Int) := by omega
      have e1 : row.take k = row := by rw [← H.out.2.1, List.take_length]
      rw [e1] at hM
      have HM := Lib.hid (And.intro hM hb)
      have d0 := (hb.cell (p := ⟨b, o + 0, none⟩) HBC.out.1).trans (HBC.out.2 0 x0 HX0.out)
      simp at d0
      have j0 : (0 : Int) < (k : Int) := by omega
      clear hM hb e1
      go_wp2_with fail
      go_loopw [6, 28] (fun v i ws => ∃ j : Nat, i = .int .i64 (j : Int) ∧ j ≤ k ∧ (∃ u, v = .int .i64 u ∧ (row.take j).foldl (pickR row) x0 = u) ∧ ws = wo) (fun _ i _ => k - (RowKit.intOf i).toNat)
      case atStart => exact ⟨0, rfl, by omega, ⟨_, rfl, rfl⟩, rfl⟩
      case round =>
        obtain ⟨j, rfl, hj, ⟨u, rfl, hu⟩, e⟩ := hrel
        obtain rfl := e
        by_cases hlt : j < k
        · have i2 : (j : Int) < (k : Int) := by omega
          obtain ⟨x, hx⟩ := list_at (xs := row) (i := j) (by rw [H.out.2.1]; exact hlt)
          have d1 := (HM.out.2.cell (p := ⟨b, o + j, none⟩) HBC.out.1).trans (HBC.out.2 j x hx)
          have hxi := H.out.1.i x (List.mem_of_getElem? hx)
          have hui : i64 u := by rw [← hu]; exact pick_mem x0 (H.out.1.i x0 (List.mem_of_getElem? HX0.out)) _ (fun y hy => H.out.1.i y (List.mem_of_mem_take hy))
          have ht := usual_take hx x0
          rw [hu] at ht
          have cux := H.out.2.2.2.2.2 u
          have cxx := H.out.2.2.2.2.2 x
          obtain ⟨cu, hcu⟩ : ∃ c, row.count u = c := ⟨_, rfl⟩
          obtain ⟨cx, hcx⟩ : ∃ c, row.count x = c := ⟨_, rfl⟩
          have ht2 : pickR row u x = if cu < cx ∨ (cx = cu ∧ x < u) then x else u := by unfold pickR; rw [hcu, hcx]
          rw [ht2] at ht
          rw [hcu] at cux
          rw [hcx] at cxx
          clear ht2
          have HK := Lib.hid (And.intro hxi (And.intro hui (And.intro ht (And.intro hcu hcx))))
          clear hx hxi hui ht hcu hcx hu
          by_cases q1 : cu < cx
          · have j1 : (cu : Int) < (cx : Int) := by omega
            have j2 : ((cx : Int) == (cu : Int)) = false := by simp; omega
            have hend : ∃ j' : Nat, Value.int .i64 ((j : Int) + 1) = .int .i64 (j' : Int) ∧ j' ≤ k ∧ (∃ u', Value.int .i64 x = .int .i64 u' ∧ (row.take j').foldl (pickR row) x0 = u') := ⟨j + 1, by simp, by omega, x, rfl, by rw [HK.out.2.2.1, if_pos (.inl q1)]⟩
            have HE := Lib.hid hend
            clear q1 hend
            go_wp2_with (first
              | (refine wpList_lookupV rfl (.tmp 32) (.tmp 33) 68 3 rfl Try.underlying68 w.heap.size k (.int .i64 0) _ HM.out.1 (zero3 _) x HK.out.1 (.int .i64 (cx : Int)) (by unfold cntF; rw [HK.out.2.2.2.2]) rfl rfl ?_)
              | (refine wpList_lookupV rfl (.tmp 35) (.tmp 36) 68 3 rfl Try.underlying68 w.heap.size k (.int .i64 0) _ HM.out.1 (zero3 _) u HK.out.2.1 (.int .i64 (cu : Int)) (by unfold cntF; rw [HK.out.2.2.2.1]) rfl rfl ?_)
              | (refine wpList_lookupV rfl (.tmp 39) (.tmp 40) 68 3 rfl Try.underlying68 w.heap.size k (.int .i64 0) _ HM.out.1 (zero3 _) x HK.out.1 (.int .i64 (cx : Int)) (by unfold cntF; rw [HK.out.2.2.2.2]) rfl rfl ?_)
              | (refine wpList_lookupV rfl (.tmp 42) (.tmp 43) 68 3 rfl Try.underlying68 w.heap.size k (.int .i64 0) _ HM.out.1 (zero3 _) u HK.out.2.1 (.int .i64 (cu : Int)) (by unfold cntF; rw [HK.out.2.2.2.1]) rfl rfl ?_)
              | fail)
            go_roundw
            case rel => obtain ⟨j', e1, e2, e3⟩ := HE.out; exact ⟨j', e1, e2, e3, trivial⟩
            case measure => simp [RowKit.intOf]; omega
          · have j1 : ¬ (cu : Int) < (cx : Int) := by omega
            by_cases q2 : cx = cu
            · have j2 : ((cx : Int) == (cu : Int)) = true := by simp; omega
              by_cases q3 : x < u
              · have hend : ∃ j' : Nat, Value.int .i64 ((j : Int) + 1) = .int .i64 (j' : Int) ∧ j' ≤ k ∧ (∃ u', Value.int .i64 x = .int .i64 u' ∧ (row.take j').foldl (pickR row) x0 = u') := ⟨j + 1, by simp, by omega, x, rfl, by rw [HK.out.2.2.1, if_pos (.inr ⟨q2, q3⟩)]⟩
                have HE := Lib.hid hend
                clear q1 q2 hend
                go_wp2_with (first
                  | (refine wpList_lookupV rfl (.tmp 32) (.tmp 33) 68 3 rfl Try.underlying68 w.heap.size k (.int .i64 0) _ HM.out.1 (zero3 _) x HK.out.1 (.int .i64 (cx : Int)) (by unfold cntF; rw [HK.out.2.2.2.2]) rfl rfl ?_)
                  | (refine wpList_lookupV rfl (.tmp 35) (.tmp 36) 68 3 rfl Try.underlying68 w.heap.size k (.int .i64 0) _ HM.out.1 (zero3 _) u HK.out.2.1 (.int .i64 (cu : Int)) (by unfold cntF; rw [HK.out.2.2.2.1]) rfl rfl ?_)
                  | (refine wpList_lookupV rfl (.tmp 39) (.tmp 40) 68 3 rfl Try.underlying68 w.heap.size k (.int .i64 0) _ HM.out.1 (zero3 _) x HK.out.1 (.int .i64 (cx : Int)) (by unfold cntF; rw [HK.out.2.2.2.2]) rfl rfl ?_)
                  | (refine wpList_lookupV rfl (.tmp 42) (.tmp 43) 68 3 rfl Try.underlying68 w.heap.size k (.int .i64 0) _ HM.out.1 (zero3 _) u HK.out.2.1 (.int .i64 (cu : Int)) (by unfold cntF; rw [HK.out.2.2.2.1]) rfl rfl ?_)
                  | fail)
                go_roundw
                case rel => obtain ⟨j', e1, e2, e3⟩ := HE.out; exact ⟨j', e1, e2, e3, trivial⟩
                case measure => simp [RowKit.intOf]; omega
              · have hend : ∃ j' : Nat, Value.int .i64 ((j : Int) + 1) = .int .i64 (j' : Int) ∧ j' ≤ k ∧ (∃ u', Value.int .i64 u = .int .i64 u' ∧ (row.take j').foldl (pickR row) x0 = u') := ⟨j + 1, by simp, by omega, u, rfl, by rw [HK.out.2.2.1, if_neg (by omega)]⟩
                have HE := Lib.hid hend
                clear q1 q2 hend
                go_wp2_with (first
                  | (refine wpList_lookupV rfl (.tmp 32) (.tmp 33) 68 3 rfl Try.underlying68 w.heap.size k (.int .i64 0) _ HM.out.1 (zero3 _) x HK.out.1 (.int .i64 (cx : Int)) (by unfold cntF; rw [HK.out.2.2.2.2]) rfl rfl ?_)
                  | (refine wpList_lookupV rfl (.tmp 35) (.tmp 36) 68 3 rfl Try.underlying68 w.heap.size k (.int .i64 0) _ HM.out.1 (zero3 _) u HK.out.2.1 (.int .i64 (cu : Int)) (by unfold cntF; rw [HK.out.2.2.2.1]) rfl rfl ?_)
                  | (refine wpList_lookupV rfl (.tmp 39) (.tmp 40) 68 3 rfl Try.underlying68 w.heap.size k (.int .i64 0) _ HM.out.1 (zero3 _) x HK.out.1 (.int .i64 (cx : Int)) (by unfold cntF; rw [HK.out.2.2.2.2]) rfl rfl ?_)
                  | (refine wpList_lookupV rfl (.tmp 42) (.tmp 43) 68 3 rfl Try.underlying68 w.heap.size k (.int .i64 0) _ HM.out.1 (zero3 _) u HK.out.2.1 (.int .i64 (cu : Int)) (by unfold cntF; rw [HK.out.2.2.2.1]) rfl rfl ?_)
                  | fail)
                go_roundw
                case rel => obtain ⟨j', e1, e2, e3⟩ := HE.out; exact ⟨j', e1, e2, e3, trivial⟩
                case measure => simp [RowKit.intOf]; omega
            · have j2 : ((cx : Int) == (cu : Int)) = false := by simp; omega
              have hend : ∃ j' : Nat, Value.int .i64 ((j : Int) + 1) = .int .i64 (j' : Int) ∧ j' ≤ k ∧ (∃ u', Value.int .i64 u = .int .i64 u' ∧ (row.take j').foldl (pickR row) x0 = u') := ⟨j + 1, by simp, by omega, u, rfl, by rw [HK.out.2.2.1, if_neg (by omega)]⟩
              have HE := Lib.hid hend
              clear q1 q2 hend
              go_wp2_with (first
                | (refine wpList_lookupV rfl (.tmp 32) (.tmp 33) 68 3 rfl Try.underlying68 w.heap.size k (.int .i64 0) _ HM.out.1 (zero3 _) x HK.out.1 (.int .i64 (cx : Int)) (by unfold cntF; rw [HK.out.2.2.2.2]) rfl rfl ?_)
                | (refine wpList_lookupV rfl (.tmp 35) (.tmp 36) 68 3 rfl Try.underlying68 w.heap.size k (.int .i64 0) _ HM.out.1 (zero3 _) u HK.out.2.1 (.int .i64 (cu : Int)) (by unfold cntF; rw [HK.out.2.2.2.1]) rfl rfl ?_)
                | (refine wpList_lookupV rfl (.tmp 39) (.tmp 40) 68 3 rfl Try.underlying68 w.heap.size k (.int .i64 0) _ HM.out.1 (zero3 _) x HK.out.1 (.int .i64 (cx : Int)) (by unfold cntF; rw [HK.out.2.2.2.2]) rfl rfl ?_)
                | (refine wpList_lookupV rfl (.tmp 42) (.tmp 43) 68 3 rfl Try.underlying68 w.heap.size k (.int .i64 0) _ HM.out.1 (zero3 _) u HK.out.2.1 (.int .i64 (cu : Int)) (by unfold cntF; rw [HK.out.2.2.2.1]) rfl rfl ?_)
                | fail)
              go_roundw
              case rel => obtain ⟨j', e1, e2, e3⟩ := HE.out; exact ⟨j', e1, e2, e3, trivial⟩
              case measure => simp [RowKit.intOf]; omega
        · obtain rfl : j = k := by omega
          have i2 : ¬ (j : Int) < (j : Int) := by omega
          obtain rfl : R = u := by
            rw [← H.out.2.2.1, ← hu]
            unfold usualR
            rw [getD_get HX0.out, show row.take j = row by rw [← H.out.2.1, List.take_length]]
          clear hu
          go_wp2_with fail
          go_ret
          exact ⟨rfl, HM.out.2⟩
theorem wrap_pow (c : Nat) (h : c < 64) : IntKind.u64.wrap ((2 : Int) ^ c) = ((2 ^ c : Nat) : Int) := by
  rw [IntKind.wrap_u64, Int.natCast_pow]
  have : (2 : Nat) ^ c < 2 ^ 64 := Nat.pow_lt_pow_right (by decide) h
  have h2 : ((2 ^ c : Nat) : Int) < 18446744073709551616 := by omega
  rw [Int.natCast_pow] at h2
  have h3 : (0 : Int) ≤ ((2 : Nat) : Int) ^ c := by rw [← Int.natCast_pow]; exact Int.natCast_nonneg _
  exact Int.emod_eq_of_lt h3 h2
set_option maxHeartbeats 4000000 in
set_option maxRecDepth 100000 in
theorem columns_any (row : List Int) (A : Option Addr) (cap : Nat) (u : Int) (h64 : row.length ≤ 64) (w : World) (h : IS w w.heap.size row A cap) :
    Calls Try.prog 34 #[.slice A row.length cap, .int .i64 u] w fun r w' => r = .returned (.int .u64 ((maskR u row : Nat) : Int)) ∧ w' = w := by
  obtain ⟨N, hN⟩ : ∃ N, row.length = N := ⟨_, rfl⟩
  have hml := fun k => mask_lt_take u row h64 k
  have H := Lib.hid (And.intro h (And.intro hN hml))
  rw [hN] at h64 ⊢
  clear h hN hml
  go_enter Try.func34, Try.ntmps34
  go_wp2_with fail
  go_loopw [5, 10] (fun v i wr => ∃ k : Nat, i = .int .i64 (k : Int) ∧ k ≤ N ∧ (∃ m : Nat, v = .int .u64 (m : Int) ∧ maskR u (row.take k) = m) ∧ wr = w) (fun _ i _ => N - (RowKit.intOf i).toNat)
  case atStart => exact ⟨0, rfl, by omega, ⟨0, rfl, rfl⟩, rfl⟩
  case round =>
    obtain ⟨k, rfl, hk, ⟨m, rfl, hm⟩, e⟩ := hrel
    obtain rfl := e
    by_cases hlt : k < N
    · have i1 : (k : Int) < (N : Int) := by omega
      obtain ⟨x, hx⟩ := list_at (xs := row) (i := k) (by rw [H.out.2.1]; exact hlt)
      obtain ⟨b, o, rfl, hbl, hc⟩ := H.out.1.r (by rintro rfl; simp at hx)
      have d0 := hc k x hx
      have ht : maskR u (row.take (k + 1)) = if x = u then m else m ||| 2 ^ k := by
        rw [← hm]
        exact foldI_take (fun m x c => if x = u then m else m ||| 2 ^ c) 0 hx
      have hml := H.out.2.2 k
      rw [hm] at hml
      have HB := Lib.hid (show bits .or .u64 (m : Int) (IntKind.u64.wrap ((2 : Int) ^ k)) = ((m ||| 2 ^ k : Nat) : Int) by
        rw [wrap_pow k (by omega)]
        exact bits_or_u64_nat _ _ hml (Nat.pow_lt_pow_right (by decide) (show k < 64 by omega)))
      have HT := Lib.hid ht
      have hk64 : k < 64 := by omega
      clear ht hml hm hc hx
      by_cases he : x = u
      · have hq : (x == u) = true := by simpa using he
        have HE := Lib.hid (show maskR u (row.take (k + 1)) = m by rw [HT.out, if_pos he])
        clear he
        go_wp2_with fail
        go_roundw
        case rel => exact ⟨k + 1, by go_num, by omega, ⟨m, rfl, HE.out⟩, trivial⟩
        case measure => simp [RowKit.intOf]; omega
      · have hq : (x == u) = false := by simpa using he
        have HE := Lib.hid (show maskR u (row.take (k + 1)) = m ||| 2 ^ k by rw [HT.out, if_neg he])
        clear he
        go_wp2_with fail
        go_roundw
        case rel => exact ⟨k + 1, by go_num, by omega, ⟨m ||| 2 ^ k, by rw [HB.out], HE.out⟩, trivial⟩
        case measure => simp [RowKit.intOf]; omega
    · obtain rfl : k = N := by omega
      have i1 : ¬ (k : Int) < (k : Int) := by omega
      have e1 : row.take k = row := by rw [← H.out.2.1, List.take_length]
      rw [e1] at hm
      subst hm
      clear e1
      go_wp2_with fail
      go_ret
      exact ⟨rfl, rfl⟩
end Go.Proofs.Ytadipgkgllcicaa
