/-
  Contracts: virguleref03.Set, the walk.
  Contracts: virguleref03.Blocks.
  The law TrieNone: of no trie nothing comes; of too many entries there is none.
-/
import Derived.Deep.RegionHeld3
import Derived.Deep.RegionLaw
import Derived.Deep.AppendLies
import Derived.IntWalk
import Derived.Test.YtphhdkffnboboaaPsp
import Derived.Test.YtphhdkffnboboaaPso
import Derived.Laws.IdiomStrings
import Derived.Laws.StructEq
import Derived.Test.YtphhdkffnboboaaPsi
import Derived.Test.YtphhdkffnboboaaPsf
namespace Go.Proofs.Ytphhdkffnboboaa
open Go.RowKit Go.Shelf
open Go.Lib Go.Great Go.Maps

set_option maxHeartbeats 8000000 in
set_option maxRecDepth 100000 in
theorem refset_any (o : Int) (A : Option Addr) (cap : Nat) (es : List En) (c : Int) (w : World) (h : ES w w.heap.size A cap es) (hl : es.length ≤ 12) (hx : ∀ e ∈ es, e.xs.length ≤ 12) (hF : ∀ e ∈ es, Fw e.A e.cap) (hm : ∀ e ∈ es, right e.xs = true) :
    Calls Try.prog 22 #[.int .i64 o, .slice A es.length cap, .int .i64 c] w (SP (setC (tellE o es) c) w) := by
  obtain ⟨i0, hi, hz0, hz1, hz2⟩ := info_parts Try.info40
  have HES := Lib.hid h
  have HF := Lib.hid hF
  have HFL := Lib.hid (flatX_len hx)
  have HM : Hid (∀ x ∈ flatX es es.length, may x = true) := Lib.hid (fun x hx => by obtain ⟨e, he, hxe⟩ := flatX_mem hx; exact (right_may (hm e he) x hxe).1)
  obtain ⟨n, hn⟩ : ∃ n, es.length = n := ⟨_, rfl⟩
  have HN := Lib.hid hn
  rw [hn] at hl ⊢
  rw [hn] at HM
  have HI := Lib.hid (And.intro hi (And.intro hz0 (And.intro hz1 hz2)))
  clear h hF hx hm hn hi hz0 hz1 hz2
  go_enter Try.func22, Try.ntmps22
  go_wp2_with fail
  go_loopw [7, 9] (fun v i wr => ∃ k : Nat, i = .int .i64 (k : Int) ∧ k ≤ n ∧ wr.ownsRow w.heap.size 40 2 v (flatX es k).length (cells2 (flatX es k)) ∧ Below w.heap.size w wr) (fun _ i _ => n - (RowKit.intOf i).toNat)
  case atStart => exact ⟨0, rfl, Nat.zero_le _, World.ownsRow_nil _ _ _ _, Below.refl _ _⟩
  case round =>
    obtain ⟨k, rfl, hk, hown, hb⟩ := hrel
    by_cases hlt : k < n
    · obtain ⟨x, hx⟩ : ∃ x, es[k]? = some x := ⟨es[k]'(by rw [HN.out]; exact hlt), List.getElem?_eq_getElem _⟩
      obtain ⟨b, o', rfl, hbl, hE⟩ := HES.out.2.2.2 (by intro e; rw [e] at hx; simp at hx)
      obtain ⟨q1, _⟩ := hE k x hx
      have p1 := (hb.cell (p := ⟨b, o' + k * 2, none⟩) hbl).trans q1
      have hmem := List.mem_of_getElem? hx
      have hRS := ((HES.out.2.2.1 x hmem).below hb).mono hb.size
      have hFx := HF.out x hmem
      have hfs := flatX_succ hx
      have hfl := HFL.out k
      have hfl1 := HFL.out (k + 1)
      obtain ⟨Ax, capx, xs, cx⟩ := x
      simp only at *
      have i1 : (k : Int) < (n : Int) := by omega
      rw [hfs, List.length_append] at hfl1
      have HO := Lib.hid (And.intro hown (And.intro hRS (And.intro hFx (And.intro hfs hb))))
      have HL1 := Lib.hid hfl1
      clear hE hmem hRS hFx hfs hfl hfl1 hx hown hb q1
      go_wp2_with (at_builtin; refine wpList_append_rg (by rfl) (.tmp 18) (.tmp 23) 36 36 (by rfl) w.heap.size 40 i0 (.agg #[.int .i32 0, .int .i32 0]) Try.underlying36 Try.underlying36 HI.out.1 HI.out.2.1 HI.out.2.2.1 HI.out.2.2.2 rfl _ (flatX es k) (by rfl) HO.out.1 Ax capx xs (by rfl) HO.out.2.1 HO.out.2.2.1 (by have := HL1.out; omega) HO.out.2.2.2.2.size ?_)
      intro v2 w3 own3 hb3
      have hend : ∃ k_1 : Nat, Value.int .i64 ((k : Int) + 1) = .int .i64 (k_1 : Int) ∧ k_1 ≤ n ∧ w3.ownsRow w.heap.size 40 2 v2 (flatX es k_1).length (cells2 (flatX es k_1)) ∧ Below w.heap.size w w3 :=
        ⟨k + 1, by simp, by omega, by rw [HO.out.2.2.2.1, List.length_append]; exact own3, HO.out.2.2.2.2.trans hb3⟩
      have HEND := Lib.hid hend
      clear hend own3 hb3
      go_wp2_with fail
      go_roundw
      case rel => exact HEND.out
      case measure => simp [RowKit.intOf]; omega
    · have hkn : k = n := by omega
      subst hkn
      have d1 : ¬ (k : Int) < (k : Int) := by omega
      obtain ⟨A2, c2, rfl, RS2⟩ := ownsRow_RS hown (may_i32 HM.out)
      have hfl := HFL.out k
      have HC := Lib.hid (points3_any A2 c2 (flatX es k) wr RS2 HM.out (by omega))
      have HB2 := Lib.hid hb
      have hfl2 := Lib.hid hfl
      clear hown hb RS2 hfl
      unfold PtsPost at HC
      go_wp2_with fail
      refine HC.out.mono ?_
      rintro e w3 ⟨l, A3, c3, rfl, hP, hll, hLS, hb3⟩
      have hbz := HB2.out.trans (hb3.mono HB2.out.size)
      have HP := Lib.hid hP
      have HPB := Lib.hid (pts_bounds hP HM.out)
      have HP0 := Lib.hid (pts_first hP HM.out)
      have HPL := Lib.hid (fun i p h1 h2 => pts_last hP HM.out (i := i) (p := p) h1 h2)
      have HG : Hid (∀ (p q : Int), (∀ x ∈ l, x ≤ p ∨ q ≤ x) → ∀ r, p ≤ r → r < q → es.foldl (fun v e => if hasR e.xs r then e.c else v) o = es.foldl (fun v e => if hasR e.xs p then e.c else v) o) := Lib.hid (fun p q hg r h1 h2 => getE_const (by rw [HN.out]; exact hP) hg h1 h2)
      obtain ⟨m, hm⟩ : ∃ m, l.length = m := ⟨_, rfl⟩
      have HMm := Lib.hid hm
      rw [hm] at hll
      rw [hm]
      have hm400 : m ≤ 400 := by have := hfl2.out; omega
      have HLS := Lib.hid hLS
      have HB := Lib.hid hbz
      have HE3 := Lib.hid ((HES.out.below hbz).mono hbz.size)
      clear hbz hb3 hP hLS hm hll
      go_wp2_with fail
      go_loopw [8, 11] (fun v i wr => ∃ (j : Nat) (p : Int) (out : List Rng), i = .int .i64 (j : Int) ∧ l[j]? = some p ∧ OutTo o es c out p ∧ out.length ≤ j ∧ wr.ownsRow w3.heap.size 40 2 v out.length (cells2 out) ∧ Below w3.heap.size w3 wr) (fun _ i _ => m - (RowKit.intOf i).toNat)
      case atStart => exact ⟨0, 0, [], rfl, HP0.out, out_start _ _ _, Nat.le_refl _, World.ownsRow_nil _ _ _ _, Below.refl _ _⟩
      case round =>
        obtain ⟨j, p, out, rfl, hp, I, hol, hown, hb⟩ := hrel
        have hjm : j < m := by have := (List.getElem?_eq_some_iff.1 hp).1; have := HMm.out; omega
        by_cases hlj : j + 1 < m
        · obtain ⟨q, hq⟩ : ∃ q, l[j + 1]? = some q := ⟨l[j + 1]'(by have := HMm.out; omega), List.getElem?_eq_getElem _⟩
          have hgap := pw_gap HP.out.s hp hq
          have hp0 := HPB.out p (List.mem_of_getElem? hp)
          have hq0 := HPB.out q (List.mem_of_getElem? hq)
          have hgc := HG.out p q hgap.2
          obtain ⟨hpq, _⟩ := hgap
          obtain ⟨b, ob, rfl, hbl, hcell⟩ := HLS.out.a
          have r1 := hcell j p hp
          have r2 := hcell (j + 1) q hq
          have qp := (hb.cell (p := ⟨b, ob + j, none⟩) hbl).trans r1
          have CR := rget_any o A cap es p wr ((HE3.out.below hb).mono hb.size) (by omega) (by omega)
          rw [getE_in o es p (by omega) (by omega), HN.out] at CR
          have HO := Lib.hid (And.intro I (And.intro hol (And.intro hown (And.intro hb (And.intro hgc hq)))))
          have HR := Lib.hid (And.intro r1 r2)
          obtain ⟨p0, p1⟩ := hp0
          obtain ⟨q0, q1⟩ := hq0
          obtain ⟨gv, hgv⟩ : ∃ gv, es.foldl (fun v e => if hasR e.xs p then e.c else v) o = gv := ⟨_, rfl⟩
          rw [hgv] at CR
          have HGV := Lib.hid hgv
          have CR := Lib.hid CR
          have i1 : (j : Int) + 1 < (m : Int) := by omega
          have i2 : (j : Int) < (m : Int) := by omega
          have i3 : (0 : Int) ≤ (j : Int) := by omega
          clear hgc hcell hp hq I hol hown hb r1 r2 hgv
          by_cases hgc : gv = c
          · subst hgc
            go_wp2_with fail
            refine CR.out.mono ?_
            rintro e w4 ⟨rfl, rfl⟩
            go_wp2_with fail
            have HBD := Lib.hid (HO.out.2.2.2.1.drew)
            have HOW : Hid ((w4.alloc (.cells #[.int .i32 p, .int .i32 (q - 1)] 40)).drew.ownsRow w3.heap.size 40 2 u8 out.length (cells2 out)) := Lib.hid (HO.out.2.2.1.alloc (.cells #[.int .i32 p, .int .i32 (q - 1)] 40))
            have HBA := Lib.hid ((HO.out.2.2.2.1.alloc HO.out.2.2.2.1.size (.cells #[.int .i32 p, .int .i32 (q - 1)] 40)).drew)
            have NB := Lib.hid (World.news_of_block (w := (w4.alloc (.cells #[.int .i32 p, .int .i32 (q - 1)] 40)).drew) (heap_alloc_new w4 (.cells #[.int .i32 p, .int .i32 (q - 1)] 40)))
            have hol := HO.out.2.1
            have e1 : IntKind.i64.wrap ((j : Int) + 1) = (j : Int) + 1 := IntWalk.i64_in _ (by omega)
            have e2 : IntKind.i32.wrap (q - 1) = q - 1 := IntWalk.i32_in _ (by omega)
            have e3 : ((j : Int) + 1).toNat = j + 1 := by omega
            have i4 : (0 : Int) ≤ (j : Int) + 1 := by omega
            refine wp_region_noPanic ?_
            refine wp_region_held_drew (S := fun W => Below w3.heap.size w3 W) (by kernel_rfl) HBD.out (fun hH => ?_)
            refine wpAnyH_take (i := 0) (oi := { dst := some 43, op := Op.move (Operand.tmp 8), type := 36, pos := "ref.go:32", after := #[], guard := none }) (v := ?_) rfl (by kernel_rfl) (by kernel_rfl) (by kernel_rfl) (fun _ _ _ h => h) (Or.inl ⟨by rfl, ?_⟩) (by exact hH) ?_
            rotate_left
            · intro W hSw
              go_simp
              try with_reducible rfl
            try simp only [Act.put, List.setIfInBounds_toArray, List.set_cons_zero, List.set_cons_succ]
            refine wpAnyH_take (i := 1) (oi := { dst := some 44, op := Op.move (Operand.tmp 10), type := 23, pos := "ref.go:32", after := #[], guard := none }) (v := ?_) rfl (by kernel_rfl) (by kernel_rfl) (by kernel_rfl) (fun _ _ _ h => h) (Or.inl ⟨by rfl, ?_⟩) (by exact hH) ?_
            rotate_left
            · intro W hSw
              go_simp
              try with_reducible rfl
            try simp only [Act.put, List.setIfInBounds_toArray, List.set_cons_zero, List.set_cons_succ]
            refine wpAnyH_take (i := 2) (oi := { dst := some 45, op := Op.move (Operand.tmp 11), type := 3, pos := "ref.go:32", after := #[], guard := none }) (v := ?_) rfl (by kernel_rfl) (by kernel_rfl) (by kernel_rfl) (fun _ _ _ h => h) (Or.inl ⟨by rfl, ?_⟩) (by exact hH) ?_
            rotate_left
            · intro W hSw
              go_simp
              try with_reducible rfl
            try simp only [Act.put, List.setIfInBounds_toArray, List.set_cons_zero, List.set_cons_succ]
            refine wpAnyH_take (i := 3) (oi := { dst := some 46, op := Op.indexAddr 23 (Operand.tmp 44) (Operand.tmp 45), type := 0, pos := "ref.go:32", after := #[{ on := 1, ground := Ground.data }, { on := 2, ground := Ground.data }], guard := none }) (v := ?_) rfl (by kernel_rfl) (by kernel_rfl) (by kernel_rfl) (fun _ _ _ h => h) (Or.inl ⟨by rfl, ?_⟩) (by exact hH) ?_
            rotate_left
            · intro W hSw
              go_simp
              try with_reducible rfl
            try simp only [Act.put, List.setIfInBounds_toArray, List.set_cons_zero, List.set_cons_succ]
            refine wpAnyH_take (i := 4) (oi := { dst := some 47, op := Op.load 21 (Operand.tmp 46), type := 21, pos := "ref.go:32", after := #[{ on := 3, ground := Ground.data }], guard := none }) (v := ?_) rfl (by kernel_rfl) (by kernel_rfl) (by kernel_rfl) (fun _ _ _ h => h) (Or.inl ⟨by rfl, ?_⟩) (by exact hH) ?_
            rotate_left
            · intro W hSw
              have p := (hSw.cell (p := ⟨b, ob + j, none⟩) hbl).trans HR.out.1
              go_simp
              try with_reducible rfl
            try simp only [Act.put, List.setIfInBounds_toArray, List.set_cons_zero, List.set_cons_succ]
            refine wpAnyH_take (i := 5) (oi := { dst := some 48, op := Op.move (Operand.tmp 10), type := 23, pos := "ref.go:32", after := #[], guard := none }) (v := ?_) rfl (by kernel_rfl) (by kernel_rfl) (by kernel_rfl) (fun _ _ _ h => h) (Or.inl ⟨by rfl, ?_⟩) (by exact hH) ?_
            rotate_left
            · intro W hSw
              go_simp
              try with_reducible rfl
            try simp only [Act.put, List.setIfInBounds_toArray, List.set_cons_zero, List.set_cons_succ]
            refine wpAnyH_take (i := 6) (oi := { dst := some 49, op := Op.move (Operand.tmp 11), type := 3, pos := "ref.go:32", after := #[], guard := none }) (v := ?_) rfl (by kernel_rfl) (by kernel_rfl) (by kernel_rfl) (fun _ _ _ h => h) (Or.inl ⟨by rfl, ?_⟩) (by exact hH) ?_
            rotate_left
            · intro W hSw
              go_simp
              try with_reducible rfl
            try simp only [Act.put, List.setIfInBounds_toArray, List.set_cons_zero, List.set_cons_succ]
            refine wpAnyH_take (i := 7) (oi := { dst := some 50, op := Op.binOp BinOp.add 3 (Operand.tmp 49) (Operand.const (Value.int IntKind.i64 1)) 3, type := 3, pos := "ref.go:32", after := #[{ on := 6, ground := Ground.data }], guard := none }) (v := ?_) rfl (by kernel_rfl) (by kernel_rfl) (by kernel_rfl) (fun _ _ _ h => h) (Or.inl ⟨by rfl, ?_⟩) (by exact hH) ?_
            rotate_left
            · intro W hSw
              go_simp
              try with_reducible rfl
            try simp only [Act.put, List.setIfInBounds_toArray, List.set_cons_zero, List.set_cons_succ]
            refine wpAnyH_take (i := 8) (oi := { dst := some 51, op := Op.indexAddr 23 (Operand.tmp 48) (Operand.tmp 50), type := 0, pos := "ref.go:32", after := #[{ on := 5, ground := Ground.data }, { on := 7, ground := Ground.data }], guard := none }) (v := ?_) rfl (by kernel_rfl) (by kernel_rfl) (by kernel_rfl) (fun _ _ _ h => h) (Or.inl ⟨by rfl, ?_⟩) (by exact hH) ?_
            rotate_left
            · intro W hSw
              go_simp
              try with_reducible rfl
            try simp only [Act.put, List.setIfInBounds_toArray, List.set_cons_zero, List.set_cons_succ]
            refine wpAnyH_take (i := 9) (oi := { dst := some 52, op := Op.load 21 (Operand.tmp 51), type := 21, pos := "ref.go:32", after := #[{ on := 8, ground := Ground.data }], guard := none }) (v := ?_) rfl (by kernel_rfl) (by kernel_rfl) (by kernel_rfl) (fun _ _ _ h => h) (Or.inl ⟨by rfl, ?_⟩) (by exact hH) ?_
            rotate_left
            · intro W hSw
              have p := (hSw.cell (p := ⟨b, ob + (j + 1), none⟩) hbl).trans HR.out.2
              go_simp
              try with_reducible rfl
            try simp only [Act.put, List.setIfInBounds_toArray, List.set_cons_zero, List.set_cons_succ]
            refine wpAnyH_take (i := 10) (oi := { dst := some 53, op := Op.binOp BinOp.sub 21 (Operand.tmp 52) (Operand.const (Value.int IntKind.i32 1)) 21, type := 21, pos := "ref.go:32", after := #[{ on := 9, ground := Ground.data }], guard := none }) (v := ?_) rfl (by kernel_rfl) (by kernel_rfl) (by kernel_rfl) (fun _ _ _ h => h) (Or.inl ⟨by rfl, ?_⟩) (by exact hH) ?_
            rotate_left
            · intro W hSw
              go_simp
              try with_reducible rfl
            try simp only [Act.put, List.setIfInBounds_toArray, List.set_cons_zero, List.set_cons_succ]
            refine wpAnyH_take (i := 11) (oi := { dst := some 54, op := Op.build 40 #[(0, Operand.tmp 47), (1, Operand.tmp 53)], type := 40, pos := "ref.go:32", after := #[{ on := 4, ground := Ground.data }, { on := 10, ground := Ground.data }], guard := none }) (v := ?_) rfl (by kernel_rfl) (by kernel_rfl) (by kernel_rfl) (fun _ _ _ h => h) (Or.inl ⟨by rfl, ?_⟩) (by exact hH) ?_
            rotate_left
            · intro W hSw
              go_simp
              try with_reducible rfl
            try simp only [Act.put, List.setIfInBounds_toArray, List.set_cons_zero, List.set_cons_succ]
            refine wpAnyH_ready (rs := [12]) (by kernel_rfl) (by simp) ?_
            refine AllReadyH.cons (o := { dst := some 55, op := Op.buildSlice 36 1 #[(0, Operand.tmp 54)], type := 36, pos := "ref.go:32", after := #[{ on := 11, ground := Ground.data }], guard := none }) rfl (fun K hK => ?_) AllReadyH.nil
            go_simp
            refine hK.out _ _ HBA.out (fun hH => ?_)
            clear hK K
            try simp only [Act.put, List.setIfInBounds_toArray, List.set_cons_zero, List.set_cons_succ]
            refine wpAnyH_ready (rs := [13]) (by kernel_rfl) (by simp) ?_
            refine AllReadyH.cons (o := { dst := some 56, op := Op.call { callee := Callee.builtin Builtin.append, args := #[Operand.tmp 43, Operand.tmp 55], argTypes := #[36, 36] }, type := 36, pos := "ref.go:32", after := #[{ on := 0, ground := Ground.data }, { on := 12, ground := Ground.data }], guard := none }) rfl (fun K hK => ?_) AllReadyH.nil
            refine step_append_lies _ rfl (.tmp 43) (.tmp 55) 36 rfl w3.heap.size 40 i0 _ 2 8 Try.underlying36 HI.out.1 HI.out.2.1 HI.out.2.2.1 HI.out.2.2.2 rfl (by omega) u8 out.length (cells2 out) rfl HOW.out ⟨w4.heap.size, 0, none⟩ 1 1 [.int .i32 p, .int .i32 (q - 1)] rfl rfl NB.out (by simp [Value.oneCell']) (by omega) (by unfold maxLen; omega) (by omega) HBA.out.size (w4.heap.size + 1) (by simp) ?_
            intro g cap1 w7 hown7 hgrow7 hat7 hlt7
            have HB7 := Lib.hid (HBA.out.grown hgrow7 HBA.out.size (fun k e' => (own_block_lt HOW.out k e').1))
            have HO7 := Lib.hid hown7
            clear hown7 hgrow7 hat7 hlt7
            refine hK.out _ _ HB7.out (fun hH => ?_)
            clear hK K
            try simp only [Act.put, List.setIfInBounds_toArray, List.set_cons_zero, List.set_cons_succ]
            refine wpAnyH_take (i := 14) (oi := { dst := some 8, op := Op.assign (Operand.tmp 56), type := 36, pos := "ref.go:32", after := #[{ on := 13, ground := Ground.data }, { on := 13, ground := Ground.chain }, { on := 0, ground := Ground.phase }, { on := 1, ground := Ground.phase }, { on := 2, ground := Ground.phase }, { on := 3, ground := Ground.phase }, { on := 4, ground := Ground.phase }, { on := 5, ground := Ground.phase }, { on := 6, ground := Ground.phase }, { on := 7, ground := Ground.phase }, { on := 8, ground := Ground.phase }, { on := 9, ground := Ground.phase }, { on := 10, ground := Ground.phase }, { on := 11, ground := Ground.phase }, { on := 12, ground := Ground.phase }, { on := 13, ground := Ground.phase }], guard := none }) (v := ?_) rfl (by kernel_rfl) (by kernel_rfl) (by kernel_rfl) (fun _ _ _ h => h) (Or.inl ⟨by rfl, ?_⟩) (by exact hH) ?_
            rotate_left
            · intro W hSw
              go_simp
              try with_reducible rfl
            try simp only [Act.put, List.setIfInBounds_toArray, List.set_cons_zero, List.set_cons_succ]
            refine wpAnyH_done (by kernel_rfl) ?_ _
            refine NoPanic.normal ?_
            have hend : ∃ (j_1 : Nat) (p : Int) (out_1 : List Rng), Value.int .i64 ((j : Int) + 1) = .int .i64 (j_1 : Int) ∧ l[j_1]? = some p ∧ OutTo o es gv out_1 p ∧ out_1.length ≤ j_1 ∧ w7.ownsRow w3.heap.size 40 2 (.slice (some ⟨g, 0, none⟩) (out.length + 1) cap1) out_1.length (cells2 out_1) ∧ Below w3.heap.size w3 w7 :=
              ⟨j + 1, q, out ++ [(p, q - 1)], by simp, HO.out.2.2.2.2.2, out_push HO.out.1 hpq p0 q1 HO.out.2.2.2.2.1 HGV.out, by simp; omega, by rw [cells2_snoc, List.length_append]; exact HO7.out, HB7.out⟩
            have HEND := Lib.hid hend
            clear hend e1 e2 e3
            go_wp2_with fail
            go_roundw
            case rel => exact HEND.out
            case measure => simp [RowKit.intOf]; omega
          · have hne : (gv == c) = false := by simpa using hgc
            have hend : ∃ (j_1 : Nat) (p : Int) (out : List Rng), Value.int .i64 ((j : Int) + 1) = .int .i64 (j_1 : Int) ∧ l[j_1]? = some p ∧ OutTo o es c out p ∧ out.length ≤ j_1 ∧ wr.ownsRow w3.heap.size 40 2 u8 out.length (cells2 out) ∧ Below w3.heap.size w3 wr :=
              ⟨j + 1, q, out, by simp, HO.out.2.2.2.2.2, out_skip HO.out.1 hpq HO.out.2.2.2.2.1 (by rw [HGV.out]; exact hgc), by have := HO.out.2.1; omega, HO.out.2.2.1, HO.out.2.2.2.1⟩
            have HEND := Lib.hid hend
            clear hend
            go_wp2_with fail
            refine CR.out.mono ?_
            rintro e w4 ⟨rfl, rfl⟩
            go_wp2_with fail
            go_roundw
            case rel => exact HEND.out
            case measure => simp [RowKit.intOf]; omega
        · have hpl := HPL.out j p hp (by have := HMm.out; omega)
          subst hpl
          have d2 : ¬ (j : Int) + 1 < (m : Int) := by omega
          obtain ⟨A4, c4, rfl, hS⟩ := sw_own hown (may_i32 I.1)
          have hmk := rmake_sp A4 c4 out wr hS.aw I.1 (by omega)
          rw [out_set I] at hmk
          have HMK := Lib.hid hmk
          have HBZ := Lib.hid (HB.out.trans (hb.mono HB.out.size))
          generalize setC (tellE o es) c = R at *
          clear hown hb hmk hS I
          go_wp2_with fail
          refine HMK.out.mono ?_
          rintro e w5 ⟨⟨A5, c5, rfl, hS5, hb5⟩, _⟩
          have H := Lib.hid (And.intro hS5 (HBZ.out.trans (hb5.mono HBZ.out.size)))
          clear hS5 hb5
          go_wp2_with fail
          go_ret
          exact ⟨A5, c5, rfl, H.out.1, H.out.2⟩
end Go.Proofs.Ytphhdkffnboboaa

namespace Go.Proofs.Ytphhdkffnboboaa
open Go.RowKit Go.Shelf
open Go.Lib Go.Great Go.Maps

noncomputable def strs (F : Nat → Int) (ks : List Nat) : List Value := ks.map fun k => Value.string ⟨(encB F k).toArray⟩
/-- Up to which place of block P what is ahead of a is known. -/
def upTo (P : Nat) (a : Int) : Nat := min (a.toNat - 256 * P) 256 - 1
theorem conv2 (W : World) (x y : UInt8) : (convert 92 9 (.slice (some ⟨W.heap.size, 0, none⟩) 2 2)).run Try.prog (W.alloc (.cells #[.int .u8 ((x.toNat : Nat) : Int), .int .u8 ((y.toNat : Nat) : Int)] 5)) = .ok (.string ⟨#[x, y]⟩) (W.alloc (.cells #[.int .u8 ((x.toNat : Nat) : Int), .int .u8 ((y.toNat : Nat) : Int)] 5)) := by
  refine run_convert_bytes_back (P := Try.prog) _ 92 9 5 ⟨W.heap.size, 0, none⟩ 2 [x, y] Try.underlying92 Try.underlying5 Try.underlying9 (fun j hj => ?_)
  rw [add0, cell_of_row _ _ j _ _ _ (heap_alloc_new W _)]
  match j, hj with
  | 0, _ => rfl
  | 1, _ => rfl
theorem conv2z (W : World) (y : UInt8) : (convert 92 9 (.slice (some ⟨W.heap.size, 0, none⟩) 2 2)).run Try.prog (W.alloc (.cells #[.int .u8 0, .int .u8 ((y.toNat : Nat) : Int)] 5)) = .ok (.string ⟨#[0, y]⟩) (W.alloc (.cells #[.int .u8 0, .int .u8 ((y.toNat : Nat) : Int)] 5)) := conv2 W 0 y
theorem conv2x (W : World) (x : Nat) (hx : x ≤ 255) (y : UInt8) : (convert 92 9 (.slice (some ⟨W.heap.size, 0, none⟩) 2 2)).run Try.prog (W.alloc (.cells #[.int .u8 (x : Int), .int .u8 ((y.toNat : Nat) : Int)] 5)) = .ok (.string ⟨#[UInt8.ofNat x, y]⟩) (W.alloc (.cells #[.int .u8 (x : Int), .int .u8 ((y.toNat : Nat) : Int)] 5)) := by
  have h := conv2 W (UInt8.ofNat x) y
  have e : (((UInt8.ofNat x).toNat : Nat) : Int) = (x : Int) := by rw [UInt8.toNat_ofNat']; omega
  rw [e] at h
  exact h
theorem rget_to (o : Int) (A : Option Addr) (cap : Nat) (es : List En) (w : World) (h : ES w w.heap.size A cap es) {r : Nat} {c : Int} (hg : getE o es (r : Int) = c) (q : Int) (hq : (r : Int) = q) (q0 : -2147483648 ≤ q) (q1 : q ≤ 2147483647) :
    Calls Try.prog 19 #[.int .i64 o, .slice A es.length cap, .int .i32 q] w fun e w' => e = .returned (.int .i64 c) ∧ w' = w := by
  have := rget_any o A cap es q w h q0 q1
  rw [← hq, hg] at this
  rw [← hq]
  exact this
theorem Try.info9 : (Try.prog.info? 9).map (fun i => (i.zero, i.size, i.bytes)) = some (some (.string ByteArray.empty), 1, 16) := by kernel_rfl
theorem strs_get (F : Nat → Int) (ks : List Nat) (y ky : Nat) (h : ks[y]? = some ky) : (strs F ks)[y]? = some (.string ⟨(encB F ky).toArray⟩) := by
  unfold strs
  rw [List.getElem?_map, h]
  rfl
theorem bytes_beq (a b : List UInt8) : ((⟨a.toArray⟩ : ByteArray).toList == (⟨b.toArray⟩ : ByteArray).toList) = (a == b) := by
  rw [← beq_toListBytes]
  show (a.toArray == b.toArray) = _
  simp
theorem idx_last (S : ByteArray) (c : UInt8) (h : S.data.toList[S.data.toList.length - 1]? = some c) (h2 : 2 ≤ S.data.toList.length) (W : World) : (Instr.index 9 (.string S) (.int .i64 ((S.size : Nat) - 1))).run Try.prog W = .ok (.int .u8 ((c.toNat : Nat) : Int)) W := by
  have hs : S.size = S.data.toList.length := by simp
  have hi : 0 ≤ ((S.size : Nat) : Int) - 1 ∧ ((S.size : Nat) : Int) - 1 < (S.size : Nat) := by omega
  have he : S[(((S.size : Nat) : Int) - 1).toNat]'(by omega) = c := by
    have h1 : (((S.size : Nat) : Int) - 1).toNat = S.data.toList.length - 1 := by omega
    have h3 : S.data.toList[S.data.toList.length - 1]'(by omega) = c := by
      rw [List.getElem?_eq_getElem (by omega)] at h
      exact Option.some.inj h
    rw [← h3]
    show S.data[(((S.size : Nat) : Int) - 1).toNat]'_ = _
    simp only [h1, Array.getElem_toList]
  rw [run_index_string _ _ _ _ _ Try.underlying9, dif_pos hi, he]

set_option maxHeartbeats 8000000 in
set_option maxRecDepth 100000 in
theorem refblocks_any (o : Int) (A : Option Addr) (cap : Nat) (es : List En) (w : World) (h : ES w w.heap.size A cap es) (hl : es.length ≤ 12) (hx : ∀ e ∈ es, e.xs.length ≤ 12) (hF : ∀ e ∈ es, Fw e.A e.cap) (hm : ∀ e ∈ es, right e.xs = true) (hU : U8 (tellE o es)) :
    Calls Try.prog 24 #[.int .i64 o, .slice A es.length cap] w fun e w' => e = .returned (.int .i64 ((dd (tellE o es) 4352).length : Nat)) ∧ Below w.heap.size w w' := by
  obtain ⟨i0, hi, hz0, hz1, hz2⟩ := info_parts Try.info40
  have HES := Lib.hid h
  have HF := Lib.hid hF
  have HU := Lib.hid hU
  have HFL := Lib.hid (flatX_len hx)
  have HM : Hid (∀ x ∈ flatX es es.length, may x = true) := Lib.hid (fun x hx => by obtain ⟨e, he, hxe⟩ := flatX_mem hx; exact (right_may (hm e he) x hxe).1)
  obtain ⟨n, hn⟩ : ∃ n, es.length = n := ⟨_, rfl⟩
  have HN := Lib.hid hn
  rw [hn] at hl ⊢
  rw [hn] at HM
  have HI := Lib.hid (And.intro hi (And.intro hz0 (And.intro hz1 hz2)))
  obtain ⟨R, hR⟩ : ∃ R : Nat, R = (dd (tellE o es) 4352).length := ⟨_, rfl⟩
  have HRR := Lib.hid hR
  rw [← hR]
  clear h hF hx hm hn hi hz0 hz1 hz2 hU hR
  go_enter Try.func24, Try.ntmps24
  go_wp2_with fail
  go_loopw [5, 6] (fun v i wr => ∃ k : Nat, i = .int .i64 (k : Int) ∧ k ≤ n ∧ wr.ownsRow w.heap.size 40 2 v (flatX es k).length (cells2 (flatX es k)) ∧ Below w.heap.size w wr) (fun _ i _ => n - (RowKit.intOf i).toNat)
  case atStart => exact ⟨0, rfl, Nat.zero_le _, World.ownsRow_nil _ _ _ _, Below.refl _ _⟩
  case round =>
    obtain ⟨k, rfl, hk, hown, hb⟩ := hrel
    by_cases hlt : k < n
    · obtain ⟨x, hx⟩ : ∃ x, es[k]? = some x := ⟨es[k]'(by rw [HN.out]; exact hlt), List.getElem?_eq_getElem _⟩
      obtain ⟨b, o', rfl, hbl, hE⟩ := HES.out.2.2.2 (by intro e; rw [e] at hx; simp at hx)
      obtain ⟨q1, _⟩ := hE k x hx
      have p1 := (hb.cell (p := ⟨b, o' + k * 2, none⟩) hbl).trans q1
      have hmem := List.mem_of_getElem? hx
      have hRS := ((HES.out.2.2.1 x hmem).below hb).mono hb.size
      have hFx := HF.out x hmem
      have hfs := flatX_succ hx
      have hfl := HFL.out k
      have hfl1 := HFL.out (k + 1)
      obtain ⟨Ax, capx, xs, cx⟩ := x
      simp only at *
      have i1 : (k : Int) < (n : Int) := by omega
      rw [hfs, List.length_append] at hfl1
      have HO := Lib.hid (And.intro hown (And.intro hRS (And.intro hFx (And.intro hfs hb))))
      have HL1 := Lib.hid hfl1
      clear hE hmem hRS hFx hfs hfl hfl1 hx hown hb q1
      go_wp2_with (at_builtin; refine wpList_append_rg (by rfl) (.tmp 22) (.tmp 27) 36 36 (by rfl) w.heap.size 40 i0 (.agg #[.int .i32 0, .int .i32 0]) Try.underlying36 Try.underlying36 HI.out.1 HI.out.2.1 HI.out.2.2.1 HI.out.2.2.2 rfl _ (flatX es k) (by rfl) HO.out.1 Ax capx xs (by rfl) HO.out.2.1 HO.out.2.2.1 (by have := HL1.out; omega) HO.out.2.2.2.2.size ?_)
      intro v2 w3 own3 hb3
      have hend : ∃ k_1 : Nat, Value.int .i64 ((k : Int) + 1) = .int .i64 (k_1 : Int) ∧ k_1 ≤ n ∧ w3.ownsRow w.heap.size 40 2 v2 (flatX es k_1).length (cells2 (flatX es k_1)) ∧ Below w.heap.size w w3 :=
        ⟨k + 1, by simp, by omega, by rw [HO.out.2.2.2.1, List.length_append]; exact own3, HO.out.2.2.2.2.trans hb3⟩
      have HEND := Lib.hid hend
      clear hend own3 hb3
      go_wp2_with fail
      go_roundw
      case rel => exact HEND.out
      case measure => simp [RowKit.intOf]; omega
    · have hkn : k = n := by omega
      subst hkn
      have d1 : ¬ (k : Int) < (k : Int) := by omega
      obtain ⟨A2, c2, rfl, RS2⟩ := ownsRow_RS hown (may_i32 HM.out)
      have hfl := HFL.out k
      have HC := Lib.hid (points3_any A2 c2 (flatX es k) wr RS2 HM.out (by omega))
      have HB2 := Lib.hid hb
      have hfl2 := Lib.hid hfl
      clear hown hb RS2 hfl
      unfold PtsPost at HC
      go_wp2_with fail
      refine HC.out.mono ?_
      rintro e w3 ⟨l, A3, c3, rfl, hP, hll, hLS, hb3⟩
      have hbz := HB2.out.trans (hb3.mono HB2.out.size)
      have HP := Lib.hid hP
      have HPB := Lib.hid (pts_bounds hP HM.out)
      have HP0 := Lib.hid (pts_first hP HM.out)
      have HPL := Lib.hid (fun i p h1 h2 => pts_last hP HM.out (i := i) (p := p) h1 h2)
      have HG : Hid (∀ (p q : Int), (∀ x ∈ l, x ≤ p ∨ q ≤ x) → ∀ r, p ≤ r → r < q → es.foldl (fun v e => if hasR e.xs r then e.c else v) o = es.foldl (fun v e => if hasR e.xs p then e.c else v) o) := Lib.hid (fun p q hg r h1 h2 => getE_const (by rw [HN.out]; exact hP) hg h1 h2)
      obtain ⟨m, hm⟩ : ∃ m, l.length = m := ⟨_, rfl⟩
      have HMm := Lib.hid hm
      rw [hm] at hll
      rw [hm]
      have hm400 : m ≤ 400 := by have := hfl2.out; omega
      have HLS := Lib.hid hLS
      have HB := Lib.hid hbz
      have HE3 := Lib.hid ((HES.out.below hbz).mono hbz.size)
      clear hbz hb3 hP hLS hm hll
      go_wp2_with fail
      have HUF := Lib.hid HU.out
      obtain ⟨F, hF⟩ : ∃ F, F = tellE o es := ⟨_, rfl⟩
      have HFE : Hid (∀ r : Nat, F r = es.foldl (fun v e => if hasR e.xs (r : Int) then e.c else v) o) := Lib.hid (fun r => by rw [hF]; rfl)
      rw [← hF] at HUF HRR
      have HRR := Lib.hid HRR.out
      have HUF := Lib.hid HUF.out
      have HGF : Hid (∀ (j : Nat) (p q : Int), l[j]? = some p → l[j + 1]? = some q → ∀ x y : Nat, p ≤ x → (x : Int) < q → p ≤ y → (y : Int) < q → byt F x = byt F y) := Lib.hid (fun j p q hp hq x y x1 x2 y1 y2 => by
        have hg := (pw_gap HP.out.s hp hq).2
        unfold byt
        rw [HFE.out, HFE.out, HG.out p q hg x x1 x2, HG.out p q hg y y1 y2])
      have HGE : Hid (∀ r : Nat, r < 1114112 → getE o es (r : Int) = (((byt F r).toNat : Nat) : Int)) := Lib.hid (fun r hr => by rw [getE_in o es _ (by omega) (by omega), ← HFE.out, byt_nat HUF.out])
      clear hF
      obtain ⟨b, ob, rfl, hbl, hcell⟩ := HLS.out.a
      have HCELL := Lib.hid hcell
      clear hcell
      have hnext : ∀ (j : Nat) (p : Int), l[j]? = some p → p < 1114112 → ∃ q, l[j + 1]? = some q ∧ j + 1 < m ∧ p < q := fun j p hp hlt => by
        by_cases c : j + 1 < m
        · obtain ⟨q, hq⟩ : ∃ q, l[j + 1]? = some q := ⟨l[j + 1]'(by rw [HMm.out]; exact c), List.getElem?_eq_getElem _⟩
          exact ⟨q, hq, c, (pw_gap HP.out.s hp hq).1⟩
        · have := HPL.out j p hp (by rw [HMm.out]; omega)
          omega
      have HNX := Lib.hid hnext
      clear hnext
      trace "B1"
      go_loopw [8, 9, 10] (fun v kv i wr => ∃ (P kk : Nat) (a : Int), i = .int .i32 (P : Int) ∧ P ≤ 4352 ∧ kv = .int .i64 (kk : Int) ∧ l[kk]? = some a ∧ a ≤ 256 * (P : Int) ∧ wr.ownsRow w3.heap.size 9 1 v (dd F P).length (strs F (dd F P)) ∧ Below w3.heap.size w3 wr) (fun _ _ i _ => 4352 - (RowKit.intOf i).toNat)
      case atStart => exact ⟨0, 0, 0, rfl, Nat.zero_le _, rfl, HP0.out, by omega, World.ownsRow_nil _ _ _ _, Below.refl _ _⟩
      case round =>
        obtain ⟨P, kk, a, rfl, hP, rfl, ha, haP, hown, hb⟩ := hrel
        by_cases hPl : P < 4352
        · have i1 : (P : Int) < 4352 := by omega
          have HO := Lib.hid (And.intro hown hb)
          have HA := Lib.hid (And.intro ha haP)
          clear hown hb ha haP
          go_wp2_with fail
          obtain ⟨W0, rfl⟩ : ∃ W : World, W = wr := ⟨_, rfl⟩
          go_loopw [9] (fun kv wr => ∃ (kk : Nat) (a : Int), kv = .int .i64 (kk : Int) ∧ kk ≤ m ∧ l[kk]? = some a ∧ a ≤ 256 * (P : Int) ∧ wr = W0) (fun kv _ => m - (RowKit.intOf kv).toNat)
          case atStart => exact ⟨kk, a, rfl, by have := (List.getElem?_eq_some_iff.1 HA.out.1).1; have := HMm.out; omega, HA.out.1, HA.out.2, rfl⟩
          case round =>
            obtain ⟨kk, a, rfl, hkm, ha, haP, rfl⟩ := hrel
            obtain ⟨bq, hbq, hkk1, hab⟩ := HNX.out kk a ha (by omega)
            have q1 := (HO.out.2.cell (p := ⟨b, ob + (kk + 1), none⟩) hbl).trans (HCELL.out (kk + 1) bq hbq)
            have hqb := HPB.out bq (List.mem_of_getElem? hbq)
            have j1 : (kk : Int) + 1 < (m : Int) := by omega
            have j0 : (0 : Int) ≤ (kk : Int) + 1 := by omega
            have HBQ := Lib.hid (And.intro ha hbq)
            clear ha hbq
            by_cases hc : bq ≤ (P : Int) * 256
            · trace "B2"
              go_wp2_with fail
              go_roundw
              case rel => exact ⟨kk + 1, bq, by go_num, by omega, HBQ.out.2, by omega, by trivial⟩
              case measure => simp [RowKit.intOf]; omega
            · have d1 : decide (bq ≤ (P : Int) * 256) = false := by simpa using hc
              have CR := rget_to o A cap es wr ((HE3.out.below HO.out.2).mono HO.out.2.size) (HGE.out (256 * P) (by omega)) ((P : Int) * 256) (by omega) (by omega) (by omega)
              rw [HN.out] at CR
              have CR := Lib.hid CR
              have HP1 := Lib.hid hqb
              have h8 := (byt F (256 * P)).toNat_lt
              have HBZ := Lib.hid (show encTo (fun x => byt F (256 * P + x)) 0 = [0, byt F (256 * P)] from rfl)
              generalize byt F (256 * P) = bz at *
              have e8 : IntKind.u8.wrap ((bz.toNat : Nat) : Int) = ((bz.toNat : Nat) : Int) := IntWalk.u8_in _ (by omega)
              clear hqb
              trace "B3"
              go_wp2_with fail
              refine CR.out.mono ?_
              rintro e w5 ⟨rfl, rfl⟩
              have hcv := conv2z w5 bz
              go_wp2_with fail
              trace "B4"
              have hst : ∃ (j : Nat) (a' : Int) (S : ByteArray), Value.int .i64 ((kk : Int) + 1) = .int .i64 (j : Int) ∧ j ≤ m ∧ l[j]? = some a' ∧ 256 * (P : Int) < a' ∧ Value.string ⟨#[0, bz]⟩ = .string S ∧ S.data.toList = encTo (fun x => byt F (256 * P + x)) (upTo P a') := by
                refine ⟨kk + 1, bq, _, by simp, by omega, HBQ.out.2, by omega, rfl, ?_⟩
                show [0, bz] = _
                rw [← HBZ.out]
                have hc2 := enc_const (fun x => byt F (256 * P + x)) 0 (upTo P bq) (fun x x1 x2 => HGF.out kk a bq HBQ.out.1 HBQ.out.2 _ _ (by unfold upTo at x2; omega) (by unfold upTo at x2; omega) (by unfold upTo at x2; omega) (by unfold upTo at x2; omega))
                rw [Nat.zero_add] at hc2
                exact hc2.symm
              have HST := Lib.hid hst
              have hbW := HO.out.2.alloc HO.out.2.size (.cells #[.int .u8 0, .int .u8 ((bz.toNat : Nat) : Int)] 5)
              have hoW := HO.out.1.alloc (.cells #[.int .u8 0, .int .u8 ((bz.toNat : Nat) : Int)] 5)
              have HW1 := Lib.hid (And.intro hbW hoW)
              clear hst hcv hbW hoW q1 h8 e8
              generalize w5.alloc (.cells #[.int .u8 0, .int .u8 ((bz.toNat : Nat) : Int)] 5) = W1 at *
              go_loopw [11, 12] (fun sv jv wr => ∃ (j : Nat) (a' : Int) (S : ByteArray), jv = .int .i64 (j : Int) ∧ j ≤ m ∧ l[j]? = some a' ∧ 256 * (P : Int) < a' ∧ sv = .string S ∧ S.data.toList = encTo (fun x => byt F (256 * P + x)) (upTo P a') ∧ Below W1.heap.size W1 wr) (fun _ jv _ => m - (RowKit.intOf jv).toNat)
              case atStart =>
                obtain ⟨j, a', S, h1, h2, h3, h4, h5, h6⟩ := HST.out
                exact ⟨j, a', S, h1, h2, h3, h4, h5, h6, Below.refl _ _⟩
              case round =>
                obtain ⟨wo, rfl⟩ : ∃ W : World, W = wr := ⟨_, rfl⟩
                obtain ⟨j, a', S, rfl, hjm, hja, haP', rfl, hS, hb⟩ := hrel
                have hab' := HPB.out a' (List.mem_of_getElem? hja)
                have hjl : j < m := by have := (List.getElem?_eq_some_iff.1 hja).1; have := HMm.out; omega
                have hb3 := HW1.out.1.trans (hb.mono HW1.out.1.size)
                have q2 := (hb3.cell (p := ⟨b, ob + j, none⟩) hbl).trans (HCELL.out j a' hja)
                have j2 : (j : Int) < (m : Int) := by omega
                by_cases hlt : a' < (P : Int) * 256 + 256
                · obtain ⟨q, hq, _, hpq⟩ := HNX.out j a' hja (by omega)
                  obtain ⟨X, hX⟩ := Int.eq_ofNat_of_zero_le (show 0 ≤ a' by omega)
                  obtain ⟨x, hx⟩ : ∃ x, X = 256 * P + x := ⟨X - 256 * P, by omega⟩
                  have hx1 : 1 ≤ x := by omega
                  have hx2 : x ≤ 255 := by omega
                  have hup : upTo P a' = x - 1 := by unfold upTo; omega
                  rw [hup] at hS
                  have hlast := enc_last (fun x => byt F (256 * P + x)) (x - 1) (by omega)
                  have hlen2 := enc_len (fun x => byt F (256 * P + x)) (x - 1)
                  have hsuc := enc_succ (fun x => byt F (256 * P + x)) (x - 1)
                  rw [show x - 1 + 1 = x by omega] at hsuc
                  have hconst : encTo (fun x => byt F (256 * P + x)) (upTo P q) = encTo (fun x => byt F (256 * P + x)) x := by
                    have hle : x ≤ upTo P q := by unfold upTo; omega
                    have hc2 := enc_const (fun x => byt F (256 * P + x)) x (upTo P q - x) (fun y y1 y2 => HGF.out j a' q hja hq _ _ (by unfold upTo at y2; omega) (by unfold upTo at y2; omega) (by unfold upTo at y2; omega) (by unfold upTo at y2; omega))
                    rw [show x + (upTo P q - x) = upTo P q by omega] at hc2
                    exact hc2
                  have CR2 := rget_to o A cap es wo ((HE3.out.below hb3).mono hb3.size) (HGE.out (256 * P + x) (by omega)) a' (by omega) (by omega) (by omega)
                  rw [HN.out] at CR2
                  have CR2 := Lib.hid CR2
                  have HJ := Lib.hid (And.intro hja (And.intro hq (And.intro hb (And.intro hS (And.intro hsuc (And.intro hconst haP'))))))
                  have h8 := (byt F (256 * P + x)).toNat_lt
                  have h9 := (byt F (256 * P + (x - 1))).toNat_lt
                  have hSz : S.size = (encTo (fun x => byt F (256 * P + x)) (x - 1)).length := by rw [← hS]; simp
                  have hidx := idx_last S (byt F (256 * P + (x - 1))) (by rw [hS]; exact hlast) (by rw [hS]; exact hlen2.2)
                  have e8 : IntKind.u8.wrap (((byt F (256 * P + x)).toNat : Nat) : Int) = (((byt F (256 * P + x)).toNat : Nat) : Int) := IntWalk.u8_in _ (by omega)
                  have e9 : IntKind.u8.wrap (a' - (P : Int) * 256) = (x : Int) := by
                    rw [show a' - (P : Int) * 256 = (x : Int) by omega, IntWalk.u8_in _ (by omega)]
                  have hsz1 : 2 ≤ S.size := by rw [hSz]; exact hlen2.2
                  have hsz2 : S.size ≤ 600 := by rw [hSz]; omega
                  obtain ⟨cx, hcx⟩ : ∃ cx, byt F (256 * P + x) = cx := ⟨_, rfl⟩
                  obtain ⟨cy, hcy⟩ : ∃ cy, byt F (256 * P + (x - 1)) = cy := ⟨_, rfl⟩
                  rw [hcx] at CR2 h8 e8
                  rw [hcy] at hidx h9
                  have HCC := Lib.hid (And.intro hcx hcy)
                  clear hja hq hb hS hsuc hconst hlast hlen2 hSz haP' hX hup hcx hcy
                  by_cases hne : cx = cy
                  · subst hne
                    have hend : ∃ (j_1 : Nat) (a'_1 : Int) (S_1 : ByteArray), Value.int .i64 ((j : Int) + 1) = .int .i64 (j_1 : Int) ∧ j_1 ≤ m ∧ l[j_1]? = some a'_1 ∧ 256 * (P : Int) < a'_1 ∧ Value.string S = .string S_1 ∧ S_1.data.toList = encTo (fun x => byt F (256 * P + x)) (upTo P a'_1) ∧ Below W1.heap.size W1 wo := by
                      obtain ⟨k1, k2, k3, k4, k5, k6, k7⟩ := HJ.out
                      refine ⟨j + 1, q, S, by simp, by omega, k2, by omega, rfl, ?_, k3⟩
                      rw [k6, k5, if_pos (by show byt F (256 * P + x) = byt F (256 * P + (x - 1)); rw [HCC.out.1, HCC.out.2]), List.append_nil]
                      exact k4
                    have HEND := Lib.hid hend
                    clear hend
                    trace "B5"
                    go_wp2_with fail
                    refine CR2.out.mono ?_
                    rintro e w6 ⟨rfl, rfl⟩
                    go_wp2_with fail
                    go_roundw
                    case rel => exact HEND.out
                    case measure => simp [RowKit.intOf]; omega
                  · have hd : ((((cx.toNat : Nat) : Int)) == ((cy.toNat : Nat) : Int)) = false := by
                      rw [beq_eq_false_iff_ne]
                      intro h
                      exact hne (UInt8.toNat_inj.1 (by omega))
                    trace "B6"
                    go_wp2_with fail
                    refine CR2.out.mono ?_
                    rintro e w6 ⟨rfl, rfl⟩
                    have hcv := conv2x w6 x hx2 cx
                    have hend : ∃ (j_1 : Nat) (a'_1 : Int) (S_1 : ByteArray), Value.int .i64 ((j : Int) + 1) = .int .i64 (j_1 : Int) ∧ j_1 ≤ m ∧ l[j_1]? = some a'_1 ∧ 256 * (P : Int) < a'_1 ∧ Value.string (S ++ ⟨#[UInt8.ofNat x, cx]⟩) = .string S_1 ∧ S_1.data.toList = encTo (fun x => byt F (256 * P + x)) (upTo P a'_1) ∧ Below W1.heap.size W1 (w6.alloc (.cells #[.int .u8 (x : Int), .int .u8 ((cx.toNat : Nat) : Int)] 5)) := by
                      obtain ⟨k1, k2, k3, k4, k5, k6, k7⟩ := HJ.out
                      refine ⟨j + 1, q, _, by simp, by omega, k2, by omega, rfl, ?_, k3.alloc k3.size _⟩
                      rw [k6, k5, if_neg (by show ¬ byt F (256 * P + x) = byt F (256 * P + (x - 1)); rw [HCC.out.1, HCC.out.2]; exact hne)]
                      simp [k4, HCC.out.1]
                    have HEND := Lib.hid hend
                    clear hend
                    go_wp2_with fail
                    go_roundw
                    case rel => exact HEND.out
                    case measure => simp [RowKit.intOf]; omega
                · have hup : upTo P a' = 255 := by unfold upTo; omega
                  rw [hup] at hS
                  have d1 : decide (a' < (P : Int) * 256 + 256) = false := by simpa using hlt
                  have hSe : S = ⟨(encB F P).toArray⟩ := by
                    have : S.data = (encB F P).toArray := by rw [← Array.toArray_toList (xs := S.data), hS]; rfl
                    cases S
                    simp only at this
                    rw [this]
                  subst hSe
                  have hbb := hb3
                  have hoo := ownsRow_below HW1.out.2 hb
                  have HOO := Lib.hid (And.intro hoo hbb)
                  clear hS hja hb hb3 hbb hoo
                  trace "B7"
                  have hKl0 : (dd F P).length ≤ 4352 := Nat.le_trans (dd_len F P) (by omega)
                  have hfind := encB_any HUF.out P
                  have hdd := dd_succ F P
                  have hks := strs_get F (dd F P)
                  generalize hks0 : dd F P = ks at hfind hdd hks HOO hKl0
                  obtain ⟨K, hK⟩ : ∃ K, ks.length = K := ⟨_, rfl⟩
                  rw [hK] at HOO hKl0
                  have HOO := Lib.hid HOO.out
                  obtain ⟨Ak, ck, rfl⟩ := own_form HOO.out.1
                  have HFI := Lib.hid (And.intro hfind (And.intro hdd (And.intro hks hK)))
                  obtain ⟨eP, heP⟩ : ∃ eP, encB F P = eP := ⟨_, rfl⟩
                  have HEP := Lib.hid heP
                  rw [heP]
                  clear hfind hdd hks hK hks0 heP
                  go_wp2_with fail
                  go_loopw [14, 15] (fun tv iv wr => ∃ (i : Int), iv = .int .i64 i ∧ -1 ≤ i ∧ i < (K : Int) ∧ tv = .bool ((ks.drop (i + 1).toNat).any (fun k => encB F k == eP)) ∧ wr = wo) (fun _ iv _ => (RowKit.intOf iv + 1).toNat)
                  case atStart => exact ⟨(K : Int) - 1, rfl, by omega, by omega, by rw [show ((K : Int) - 1 + 1).toNat = K by omega, List.drop_of_length_le (by rw [HFI.out.2.2.2]; exact Nat.le_refl _)]; rfl, rfl⟩
                  case round =>
                    obtain ⟨i, rfl, hi1, hi2, rfl, rfl⟩ := hrel
                    by_cases hi0 : 0 ≤ i
                    · obtain ⟨y, rfl⟩ := Int.eq_ofNat_of_zero_le hi0
                      have hyK : y < K := by omega
                      obtain ⟨ky, hky⟩ : ∃ ky, ks[y]? = some ky := ⟨ks[y]'(by rw [HFI.out.2.2.2]; exact hyK), List.getElem?_eq_getElem _⟩
                      obtain ⟨gk, cg, hvg, hg1, hg2⟩ := HOO.out.1.form (by omega)
                      simp only [Value.slice.injEq] at hvg
                      obtain ⟨rfl, _, rfl⟩ := hvg
                      have hcy := HOO.out.1.cellAt y (by omega)
                      rw [HFI.out.2.2.1 y ky hky] at hcy
                      have hdr : (ks.drop y).any (fun k => encB F k == eP) = (encB F ky == eP || (ks.drop (y + 1)).any (fun k => encB F k == eP)) := by
                        rw [List.drop_eq_getElem_cons (by rw [HFI.out.2.2.2]; exact hyK), List.any_cons]
                        have := (List.getElem?_eq_some_iff.1 hky).2
                        rw [this]
                      have hbe := bytes_beq (encB F ky) eP
                      obtain ⟨bq2, hbq2⟩ : ∃ bq2, (encB F ky == eP) = bq2 := ⟨_, rfl⟩
                      rw [hbq2] at hdr hbe
                      rw [show ((y : Int) + 1).toNat = y + 1 by omega]
                      cases hq : (ks.drop (y + 1)).any (fun k => encB F k == eP) with
                      | false =>
                        rw [hq, Bool.or_false] at hdr
                        have HDR := Lib.hid hdr
                        generalize encB F ky = eK at *
                        have y1 : (y : Int) < (K : Int) := by omega
                        have y0 : (0 : Int) ≤ (y : Int) := by omega
                        clear hdr hq hky
                        trace "B9"
                        go_wp2_with fail
                        go_roundw
                        case rel => exact ⟨(y : Int) - 1, by go_num, by omega, by omega, by rw [show ((y : Int) - 1 + 1).toNat = y by omega, HDR.out], by trivial⟩
                        case measure => simp [RowKit.intOf] <;> omega
                      | true =>
                        have hall : ks.any (fun k => encB F k == eP) = true := by
                          rw [← List.take_append_drop (y + 1) ks, List.any_append, hq, Bool.or_true]
                        have HALL := Lib.hid hall
                        clear hdr hq hky hall hbe hcy
                        have y0 : (0 : Int) ≤ (y : Int) := by omega
                        trace "B10"
                        have hend : ∃ (P_1 kk_1 : Nat) (a_1 : Int), Value.int .i32 ((P : Int) + 1) = .int .i32 (P_1 : Int) ∧ P_1 ≤ 4352 ∧ Value.int .i64 (kk : Int) = .int .i64 (kk_1 : Int) ∧ l[kk_1]? = some a_1 ∧ a_1 ≤ 256 * (P_1 : Int) ∧ wr.ownsRow w3.heap.size 9 1 (.slice (some ⟨gk, 0, none⟩) K ck) (dd F P_1).length (strs F (dd F P_1)) ∧ Below w3.heap.size w3 wr := by
                          have hd2 : dd F (P + 1) = ks := by rw [HFI.out.2.1, ← HFI.out.1, HEP.out, show (ks.map (encB F)).any (fun s => s == eP) = true by rw [List.any_map]; exact HALL.out]; rfl
                          exact ⟨P + 1, kk, a, by simp, by omega, rfl, HBQ.out.1, by omega, by rw [hd2, HFI.out.2.2.2]; exact HOO.out.1, HOO.out.2⟩
                        have HEND := Lib.hid hend
                        clear hend
                        go_wp2_with fail
                        go_roundw
                        case rel => exact HEND.out
                        case measure => simp [RowKit.intOf] <;> omega
                    · have him : i = -1 := by omega
                      subst him
                      rw [show ((-1 : Int) + 1).toNat = 0 by rfl, List.drop_zero]
                      cases hq : ks.any (fun k => encB F k == eP) with
                      | true =>
                        have HALL := Lib.hid hq
                        clear hq
                        trace "B11"
                        have hend : ∃ (P_1 kk_1 : Nat) (a_1 : Int), Value.int .i32 ((P : Int) + 1) = .int .i32 (P_1 : Int) ∧ P_1 ≤ 4352 ∧ Value.int .i64 (kk : Int) = .int .i64 (kk_1 : Int) ∧ l[kk_1]? = some a_1 ∧ a_1 ≤ 256 * (P_1 : Int) ∧ wr.ownsRow w3.heap.size 9 1 (.slice Ak K ck) (dd F P_1).length (strs F (dd F P_1)) ∧ Below w3.heap.size w3 wr := by
                          have hd2 : dd F (P + 1) = ks := by rw [HFI.out.2.1, ← HFI.out.1, HEP.out, show (ks.map (encB F)).any (fun s => s == eP) = true by rw [List.any_map]; exact HALL.out]; rfl
                          exact ⟨P + 1, kk, a, by simp, by omega, rfl, HBQ.out.1, by omega, by rw [hd2, HFI.out.2.2.2]; exact HOO.out.1, HOO.out.2⟩
                        have HEND := Lib.hid hend
                        clear hend
                        go_wp2_with fail
                        go_roundw
                        case rel => exact HEND.out
                        case measure => simp [RowKit.intOf] <;> omega
                      | false =>
                        have HALL := Lib.hid hq
                        clear hq
                        obtain ⟨i9, hi9, hzz⟩ := Option.map_eq_some_iff.1 Try.info9
                        simp only [Prod.mk.injEq] at hzz
                        have HI9 := Lib.hid (And.intro hi9 hzz)
                        clear hi9 hzz
                        have HOW := Lib.hid (HOO.out.1.alloc (.cells #[.string ⟨eP.toArray⟩] 9))
                        have HBW := Lib.hid (HOO.out.2.alloc HOO.out.2.size (.cells #[.string ⟨eP.toArray⟩] 9))
                        have NB := Lib.hid (World.news_of_block (heap_alloc_new wr (.cells #[.string ⟨eP.toArray⟩] 9)))
                        trace "B12"
                        go_wp2_with (at_builtin; refine wpList_append_lies _ (by rfl) (.tmp 112) (.tmp 114) 91 (by rfl) w3.heap.size 9 i9 _ 1 16 Try.underlying91 HI9.out.1 HI9.out.2.1 HI9.out.2.2.1 HI9.out.2.2.2 rfl (by omega) _ K (strs F ks) (by rfl) HOW.out _ 1 1 [.string ⟨eP.toArray⟩] (by rfl) (by rfl) NB.out (by simp [Value.oneCell']) (by omega) (by unfold maxLen; omega) (by omega) HBW.out.size (wr.heap.size + 1) (by simp) ?_)
                        intro g1 cap1 w7 hown7 hgrow7 hat7 hlt7
                        have hB7 := HBW.out.grown hgrow7 HBW.out.size (fun k e' => (own_block_lt HOW.out k e').1)
                        have hend : ∃ (P_1 kk_1 : Nat) (a_1 : Int), Value.int .i32 ((P : Int) + 1) = .int .i32 (P_1 : Int) ∧ P_1 ≤ 4352 ∧ Value.int .i64 (kk : Int) = .int .i64 (kk_1 : Int) ∧ l[kk_1]? = some a_1 ∧ a_1 ≤ 256 * (P_1 : Int) ∧ w7.ownsRow w3.heap.size 9 1 (.slice (some ⟨g1, 0, none⟩) (K + 1) cap1) (dd F P_1).length (strs F (dd F P_1)) ∧ Below w3.heap.size w3 w7 := by
                          have hd2 : dd F (P + 1) = ks ++ [P] := by rw [HFI.out.2.1, ← HFI.out.1, HEP.out, show (ks.map (encB F)).any (fun s => s == eP) = false by rw [List.any_map]; exact HALL.out]; rfl
                          refine ⟨P + 1, kk, a, by simp, by omega, rfl, HBQ.out.1, by omega, ?_, hB7⟩
                          rw [hd2]
                          have e1 : strs F (ks ++ [P]) = strs F ks ++ [.string ⟨eP.toArray⟩] := by unfold strs; rw [List.map_append, ← HEP.out]; rfl
                          rw [e1, List.length_append, HFI.out.2.2.2]
                          exact hown7
                        have HEND := Lib.hid hend
                        clear hend hB7 hown7 hgrow7 hat7 hlt7
                        trace "B13"
                        go_wp2_with fail
                        go_roundw
                        case rel => exact HEND.out
                        case measure => simp [RowKit.intOf] <;> omega
        · have hP2 : P = 4352 := by omega
          subst hP2
          have d1 : ¬ ((4352 : Nat) : Int) < 4352 := by omega
          rw [← HRR.out] at hown
          obtain ⟨A9, c9, rfl⟩ := own_form hown
          have hbz := HB.out.trans (hb.mono HB.out.size)
          clear hown hb
          trace "B8"
          go_wp2_with fail
          go_ret
          exact ⟨rfl, hbz⟩
end Go.Proofs.Ytphhdkffnboboaa

namespace Go.Proofs.Ytphhdkffnboboaa
open Go.RowKit Go.Shelf
open Go.Lib Go.Great Go.Maps

def e0 : En := ⟨none, 0, [], 0⟩
theorem fold_e0 (o : Int) (i : Nat) : ∀ k, (List.replicate k e0).foldl (fun v e => if hasR e.xs i then e.c else v) o = o := by
  intro k
  induction k with
  | zero => rfl
  | succ k ih => rw [List.replicate_succ, List.foldl_cons]; exact ih
theorem any_e0 (k : Nat) : (List.replicate k e0).any wrongE = false := by
  rw [List.any_eq_false]
  intro x hx
  rw [(List.mem_replicate.1 hx).2]
  decide
theorem make_entries (k : Nat) (hk : k ≤ 1000) : ∃ Z : Array Value, (∀ w : World, (Instr.makeSlice 30 (.int .i64 (k : Int)) (.int .i64 (k : Int))).run Try.prog w = .ok (.slice (some ⟨w.heap.size, 0, none⟩) k k) (w.alloc (.cells Z 72))) ∧
    ∀ w : World, ES (w.alloc (.cells Z 72)) (w.alloc (.cells Z 72)).heap.size (some ⟨w.heap.size, 0, none⟩) k (List.replicate k e0) := by
  obtain ⟨i, hi, hzz⟩ := Option.map_eq_some_iff.1 Try.info72
  simp only [Prod.mk.injEq] at hzz
  obtain ⟨hz, hsize, hby⟩ := hzz
  refine ⟨madeCells #[.slice none 0 0, .int .i64 0] (k * 2), fun w => ?_, fun w => ?_⟩
  · have := run_make (P := Try.prog) w 30 72 i _ Try.underlying30 hi hz .i64 .i64 (k : Int) (k : Int) (by omega) (by omega) (by rw [hby]; omega) (by omega)
    rw [hsize] at this
    exact this
  · have hh := heap_alloc_new w (.cells (madeCells #[.slice none 0 0, .int .i64 0] (k * 2)) 72)
    refine ⟨by simp, by unfold maxLen; omega, fun e he => ?_, fun _ => ⟨_, 0, rfl, by simp, fun j e he => ?_⟩⟩
    · rw [(List.mem_replicate.1 he).2]
      exact ⟨Nat.le_refl _, Nat.zero_le _, by simp [e0], fun h => absurd rfl h⟩
    · rw [List.getElem?_replicate] at he
      split at he
      · rename_i hj
        injection he with he
        subst he
        have c1 : (madeCells #[.slice none 0 0, .int .i64 0] (k * 2))[0 + j * 2]? = some (.slice none 0 0) := by
          unfold madeCells
          rw [Array.getElem?_map, Array.getElem?_range, if_pos (by omega)]
          have : (0 + j * 2) % (#[Value.slice none 0 0, Value.int .i64 0] : Array Value).size = 0 := by show (0 + j * 2) % 2 = 0; omega
          simp only [Option.map_some, this]
          rfl
        have c2 : (madeCells #[.slice none 0 0, .int .i64 0] (k * 2))[0 + j * 2 + 1]? = some (.int .i64 0) := by
          unfold madeCells
          rw [Array.getElem?_map, Array.getElem?_range, if_pos (by omega)]
          have : (0 + j * 2 + 1) % (#[Value.slice none 0 0, Value.int .i64 0] : Array Value).size = 1 := by show (0 + j * 2 + 1) % 2 = 1; omega
          simp only [Option.map_some, this]
          rfl
        exact ⟨(cell_of_row _ _ _ _ _ _ hh).trans c1, (cell_of_row _ _ _ _ _ _ hh).trans c2⟩
      · cases he
theorem no_dd (F : Nat → Int) (h : ∀ i : Nat, i < 1114112 → F i = 3) : (dd F 4352).length = 1 := by
  have := dd_one F (fun i h1 h2 => sameB_of F 0 i fun j hj => by rw [h _ (by omega), h _ (by omega)]) 4351 (by omega)
  rw [this]
  rfl

set_option maxHeartbeats 4000000 in
set_option maxRecDepth 100000 in
theorem tno_any (n : Int) (n0 : 0 ≤ n) (n1 : n ≤ 255) (r : Int) (r0 : -2147483648 ≤ r) (r1 : r ≤ 2147483647) (w : World) : Calls Try.prog 7 #[.int .u8 n, .int .i32 r] w fun e w' => e = .returned (.bool true) ∧ Below w.heap.size w w' := by
  have C := Lib.hid (taw_any w)
  obtain ⟨a, rfl⟩ := Int.eq_ofNat_of_zero_le n0
  obtain ⟨k, hk⟩ : ∃ k : Nat, 195 + a % 10 = k := ⟨_, rfl⟩
  have i1 : (0 : Int) ≤ (a : Int) % 10 := by omega
  have i2 : (a : Int) % 10 < 10 := by omega
  obtain ⟨Z, hmk, hES⟩ := make_entries k (by omega)
  have ek : (k : Int) = 195 + (a : Int) % 10 := by omega
  rw [ek] at hmk
  have HES := Lib.hid hES
  have GN := Lib.hid (get_nil r)
  have SN := Lib.hid (set_nil 0)
  have BN := Lib.hid blocks_nil
  have CN := Lib.hid classes_nil
  have N1 := Lib.hid same_nil1
  clear hES
  by_cases hlong : 200 < k
  · have L := Lib.hid fun w A => new_long 3 A k k w hlong (by omega)
    have i3 : (200 : Int) < 195 + (a : Int) % 10 := by omega
    clear ek hk hlong
    go_enter Try.func7, Try.ntmps7
    go_wp2_with fail
    refine C.out.mono ?_
    rintro e w1 ⟨rfl, hb1⟩
    have hb2 := hb1.trans ((below_new w1 (.cells Z 72)).mono hb1.size)
    have HB := Lib.hid hb2
    clear hb1 hb2
    go_wp2_with fail
    refine (L.out _ _).mono ?_
    rintro e w2 ⟨rfl, hb2⟩
    have hz2 := HB.out.trans (hb2.mono HB.out.size)
    have HB := Lib.hid hz2
    clear hb2 hz2
    go_wp2_with fail
    refine (GN.out _).mono ?_
    rintro e wn0 ⟨rfl, hx⟩
    have hz := HB.out.trans (hx.mono HB.out.size)
    have HB := Lib.hid hz
    clear hx hz
    go_wp2_with fail
    refine (SN.out _).mono ?_
    rintro e wn1 ⟨rfl, hx⟩
    have hz := HB.out.trans (hx.mono HB.out.size)
    have HB := Lib.hid hz
    clear hx hz
    go_wp2_with fail
    refine (BN.out _).mono ?_
    rintro e wn2 ⟨rfl, hx⟩
    have hz := HB.out.trans (hx.mono HB.out.size)
    have HB := Lib.hid hz
    clear hx hz
    go_wp2_with fail
    refine (CN.out _).mono ?_
    rintro e wn3 ⟨rfl, hx⟩
    have hz := HB.out.trans (hx.mono HB.out.size)
    have HB := Lib.hid hz
    clear hx hz
    go_wp2_with fail
    refine (N1.out _).mono ?_
    rintro e wn4 ⟨rfl, hx⟩
    have hz := HB.out.trans (hx.mono HB.out.size)
    have HB := Lib.hid hz
    clear hx hz
    go_wp2_with fail
    go_ret
    exact ⟨rfl, HB.out⟩
  · have L := Lib.hid fun w => new_any 3 _ k (List.replicate k e0) _ (HES.out w) (fun h => by cases h) (by simp; omega) (fun e he => by rw [(List.mem_replicate.1 he).2]; exact Nat.zero_le _)
    have hlen : (List.replicate k e0).length = k := by simp
    rw [hlen] at L
    have L := Lib.hid L.out
    have hok : (cls 3 && !(List.replicate k e0).any wrongE) = true := by rw [any_e0]; rfl
    have i3 : ¬ (200 : Int) < 195 + (a : Int) % 10 := by omega
    have d3 : decide ((200 : Int) < 195 + (a : Int) % 10) = false := by simp; omega
    have G := Lib.hid get_any
    have D := Lib.hid blocks_any
    have N2 := Lib.hid same_nil2
    have N3 := Lib.hid same_nil3
    clear ek hk hlong hlen
    go_enter Try.func7, Try.ntmps7
    go_wp2_with fail
    refine C.out.mono ?_
    rintro e w1 ⟨rfl, hb1⟩
    have hb2 := hb1.trans ((below_new w1 (.cells Z 72)).mono hb1.size)
    have HB := Lib.hid hb2
    clear hb1 hb2
    go_wp2_with fail
    refine (L.out _).mono ?_
    rintro e w2 ⟨hb2, hp⟩
    rw [if_pos hok] at hp
    obtain ⟨T, F, rfl, hF, hFi, hT⟩ := hp
    have hFa : ∀ i : Nat, i < 1114112 → F i = 3 := fun i hi => (hFi i hi).trans (fold_e0 3 i k)
    have hz2 := HB.out.trans (hb2.mono HB.out.size)
    have H := Lib.hid (And.intro hF hFa)
    have HT := Lib.hid hT
    have HB := Lib.hid hz2
    clear hb2 hz2 hok hF hFi hFa hT
    go_wp2_with fail
    refine (GN.out _).mono ?_
    rintro e wn0 ⟨rfl, hx⟩
    have hz := HB.out.trans (hx.mono HB.out.size)
    have ht := HT.out.below hx
    have HB := Lib.hid hz
    have HT := Lib.hid ht
    clear hx hz ht
    go_wp2_with fail
    refine (SN.out _).mono ?_
    rintro e wn1 ⟨rfl, hx⟩
    have hz := HB.out.trans (hx.mono HB.out.size)
    have ht := HT.out.below hx
    have HB := Lib.hid hz
    have HT := Lib.hid ht
    clear hx hz ht
    go_wp2_with fail
    refine (BN.out _).mono ?_
    rintro e wn2 ⟨rfl, hx⟩
    have hz := HB.out.trans (hx.mono HB.out.size)
    have ht := HT.out.below hx
    have HB := Lib.hid hz
    have HT := Lib.hid ht
    clear hx hz ht
    go_wp2_with fail
    refine (CN.out _).mono ?_
    rintro e wn3 ⟨rfl, hx⟩
    have hz := HB.out.trans (hx.mono HB.out.size)
    have ht := HT.out.below hx
    have HB := Lib.hid hz
    have HT := Lib.hid ht
    clear hx hz ht
    go_wp2_with fail
    refine (N1.out _).mono ?_
    rintro e wn4 ⟨rfl, hx⟩
    have hz := HB.out.trans (hx.mono HB.out.size)
    have ht := HT.out.below hx
    have HB := Lib.hid hz
    have HT := Lib.hid ht
    clear hx hz ht
    go_wp2_with fail
    refine (G.out T 3 F r _ HT.out H.out.1 r0 r1).mono ?_
    rintro e wg ⟨rfl, hx⟩
    have e2 : (if r < 0 ∨ 1114111 < r then 3 else F r.toNat) = 3 := by
      split
      · rfl
      · exact H.out.2 _ (by omega)
    rw [e2]
    have hz := HB.out.trans (hx.mono HB.out.size)
    have ht := HT.out.below hx
    have HB := Lib.hid hz
    have HT := Lib.hid ht
    clear hx hz ht
    clear e2
    go_wp2_with fail
    refine (D.out T 3 F _ HT.out).mono ?_
    rintro e wd ⟨rfl, hx⟩
    rw [no_dd F H.out.2]
    have hz := HB.out.trans (hx.mono HB.out.size)
    have ht := HT.out.below hx
    have HB := Lib.hid hz
    have HT := Lib.hid ht
    clear hx hz ht
    go_wp2_with fail
    refine (N2.out T _).mono ?_
    rintro e we ⟨rfl, hx⟩
    have hz := HB.out.trans (hx.mono HB.out.size)
    have ht := HT.out.below hx
    have HB := Lib.hid hz
    have HT := Lib.hid ht
    clear hx hz ht
    go_wp2_with fail
    refine (N3.out T _).mono ?_
    rintro e wf ⟨rfl, hx⟩
    have hz := HB.out.trans (hx.mono HB.out.size)
    have ht := HT.out.below hx
    have HB := Lib.hid hz
    have HT := Lib.hid ht
    clear hx hz ht
    go_wp2_with fail
    go_ret
    exact ⟨rfl, HB.out⟩
end Go.Proofs.Ytphhdkffnboboaa

