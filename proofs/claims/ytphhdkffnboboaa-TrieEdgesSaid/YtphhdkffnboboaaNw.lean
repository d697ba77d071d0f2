/-
  Contracts: trie.New.
-/
import Derived.Test.YtphhdkffnboboaaNw0
namespace Go.Proofs.Ytphhdkffnboboaa
open Go.RowKit Go.Shelf
open Go.Lib Go.Great Go.Maps

def NewPost (o : Int) (es : List En) (w : World) (e : Ending) (w' : World) : Prop :=
  Below w.heap.size w w' ∧ if cls o && !es.any wrongE then ∃ T F, e = .returned (.tuple #[.pointer (some ⟨T, 0, none⟩), .int .i64 0]) ∧ U8 F ∧ (∀ i : Nat, i < 1114112 → F i = es.foldl (fun v e => if hasR e.xs i then e.c else v) o) ∧ Tr w' T o F
  else e = .returned (.tuple #[.pointer none, .int .i64 1])
theorem cls_iff (c : Int) : cls c = true ↔ 0 ≤ c ∧ c ≤ 255 := by simp [cls]

attribute [local irreducible] Z80 Z84

set_option maxHeartbeats 4000000 in
set_option maxRecDepth 100000 in
theorem new_bad (o : Int) (A : Option Addr) (cap : Nat) (es : List En) (w : World) (h : ES w w.heap.size A cap es) (hl : es.length ≤ 200) (hbad : (cls o && !es.any wrongE) = false) :
    Calls Try.prog 15 #[.int .i64 o, .slice A es.length cap] w (NewPost o es w) := by
  have C1 := Lib.hid (isClass_any o)
  have C2 := Lib.hid (containsE_any A cap es w h)
  unfold NewPost
  rw [hbad]
  simp only [Bool.false_eq_true, if_false]
  generalize es.any wrongE = q at *
  generalize es.length = n at *
  have i1 : (n : Int) ≤ 200 := by omega
  have d1 : decide ((200 : Int) < (n : Int)) = false := by simp; omega
  clear h
  cases hc : cls o with
  | false =>
    have C1 := Lib.hid (by rw [hc] at C1; exact C1.out)
    clear hbad hc
    go_enter Try.func15, Try.ntmps15
    go_wp2_with fail
    refine (C1.out _).mono ?_
    rintro e w1 ⟨rfl, rfl⟩
    go_wp2_with fail
    go_ret2
    exact ⟨Below.refl _ _, rfl⟩
  | true =>
    rw [hc] at hbad
    obtain rfl : q = true := by simpa using hbad
    have C1 := Lib.hid (by rw [hc] at C1; exact C1.out)
    clear hbad hc
    go_enter Try.func15, Try.ntmps15
    go_wp2_with fail
    refine (C1.out _).mono ?_
    rintro e w1 ⟨rfl, rfl⟩
    go_wp2_with fail
    refine C2.out.mono ?_
    rintro e w2 ⟨rfl, hb⟩
    go_wp2_with fail
    go_ret2
    exact ⟨hb, rfl⟩

set_option maxHeartbeats 4000000 in
set_option maxRecDepth 100000 in
theorem new_good (o : Int) (A : Option Addr) (cap : Nat) (es : List En) (w : World) (h : ES w w.heap.size A cap es) (hF : Fw A cap) (hl : es.length ≤ 200) (hx : ∀ e ∈ es, e.xs.length ≤ 1000000) (hc : cls o = true) (hq : es.any wrongE = false) :
    Calls Try.prog 15 #[.int .i64 o, .slice A es.length cap] w (NewPost o es w) := by
  have C1 := Lib.hid (isClass_any o)
  have C2 := Lib.hid (containsE_any A cap es w h)
  rw [hc] at C1
  rw [hq] at C2
  have C1 := Lib.hid C1.out
  have C2 := Lib.hid C2.out
  obtain ⟨Z, hZ1, hZ2, hmk⟩ := make_blocks
  have C3 := Lib.hid everything_any
  obtain ⟨R, hR⟩ : ∃ R : Ending → World → Prop, R = NewPost o es w := ⟨_, rfl⟩
  rw [← hR]
  have HR := Lib.hid hR
  have HE := Lib.hid (And.intro h (And.intro hF (And.intro hx (And.intro hc hq))))
  obtain ⟨n, hn⟩ : ∃ n, es.length = n := ⟨_, rfl⟩
  have HN := Lib.hid hn
  have HZ := Lib.hid (And.intro hZ1 hZ2)
  rw [hn] at hl C2 ⊢
  have i1 : (n : Int) ≤ 200 := by omega
  have d1 : decide ((200 : Int) < (n : Int)) = false := by simp; omega
  clear hR h hF hx hc hq hn hZ1 hZ2
  go_enter Try.func15, Try.ntmps15
  go_wp2_with fail
  refine (C1.out _).mono ?_
  rintro e w1 ⟨rfl, rfl⟩
  go_wp2_with fail
  refine C2.out.mono ?_
  rintro e w2 ⟨rfl, hb⟩
  go_wp2_with fail
  obtain ⟨B, hB⟩ : ∃ B, w2.heap.size = B := ⟨_, rfl⟩
  have hU : U8B (w2.alloc (.cells Z 84)) B (tell []) := ⟨Z, by rw [← hB]; exact heap_alloc_new _ _, HZ.out.1, HZ.out.2⟩
  have hb3 := hb.trans ((below_new w2 (.cells Z 84)).mono hb.size)
  have hwB : w1.heap.size ≤ B := by rw [← hB]; exact hb.size
  rw [hB]
  generalize w2.alloc (.cells Z 84) = w3 at *
  clear hb hB hmk
  refine (C3.out _).mono ?_
  rintro e w4 ⟨out, ho1, ho2, ho3, v, rfl, hv, hb4⟩
  obtain ⟨A0, cap0, rfl, hRS⟩ := ownsRow_RS hv (fun x hx => (right_may (b := -1) ho1 x hx).1 |> fun hm => by
    have := (may_iff _).1 hm
    exact ⟨by omega, by omega, by omega, by omega⟩)
  obtain ⟨m, hm⟩ : ∃ m, out.length = m := ⟨_, rfl⟩
  have hU5 := (hU.below hb4).below (below_new w4 (.cells #[.slice A0 m cap0, .int .i64 o] 72))
  have hs4 := hb4.size
  have hs3 := hb3.size
  have hb5 : Below w1.heap.size w1 (w4.alloc (.cells #[.slice A0 m cap0, .int .i64 o] 72)) := (hb3.trans (hb4.mono hs3)).trans ((below_new w4 _).mono (by omega))
  have hRS5 := (hRS.below (below_new w4 (.cells #[.slice A0 m cap0, .int .i64 o] 72)))
  have hES5 := HE.out.1.below hb5
  have hz5 : (w4.alloc (.cells #[.slice A0 m cap0, .int .i64 o] 72)).heap.size = w4.heap.size + 1 := by simp
  have hown5 : (w4.alloc (.cells #[.slice A0 m cap0, .int .i64 o] 72)).ownsRow w4.heap.size 72 2 (.slice (some ⟨w4.heap.size, 0, none⟩) 1 1) 1 [.slice A0 m cap0, .int .i64 o] :=
    ⟨rfl, .inr ⟨_, 1, _, rfl, Nat.le_refl _, heap_alloc_new _ _, Nat.le_refl _, by unfold maxLen; omega, rfl, rfl⟩⟩
  have hBlt := hU.lt
  have H5 := Lib.hid (And.intro hU5 (And.intro hb5 (And.intro hRS5 (And.intro (hES5.mono (by omega : w1.heap.size ≤ (w4.alloc (.cells #[.slice A0 m cap0, .int .i64 o] 72)).heap.size)) (And.intro hown5 hz5)))))
  have HO := Lib.hid (And.intro ho1 (And.intro ho2 (And.intro ho3 hm)))
  have HS := Lib.hid (And.intro hwB (And.intro hs3 (And.intro hs4 hBlt)))
  rw [hm]
  clear hU5 hb5 hRS5 hES5 hz5 hown5 ho1 ho2 ho3 hm hwB hs3 hs4 hBlt hU hb4 hb3 hRS hv
  go_wp2_with (first
    | (refine wpList_append_en rfl (.tmp 24) (.tmp 25) rfl w4.heap.size _ 1 _ rfl H5.out.2.2.2.2.1 A cap es (by rw [HN.out]; rfl) H5.out.2.2.2.1 HE.out.2.1 (by rw [HN.out]; omega) (by rw [H5.out.2.2.2.2.2]; omega) ?_)
    | go_in)
  intro v' w6 hown6 hb6
  obtain ⟨g, c6, rfl, hg1, hg2⟩ := hown6.form (by omega)
  obtain ⟨l, hl'⟩ : ∃ l : List En, l = ⟨A0, cap0, out, o⟩ :: es := ⟨_, rfl⟩
  have hcells : (Value.slice A0 m cap0 :: Value.int .i64 o :: List.flatMap cellE es) = l.flatMap cellE := by
    rw [hl', List.flatMap_cons]
    simp only [cellE]
    rw [HO.out.2.2.2]
    rfl
  rw [hcells] at hown6
  rw [HN.out] at hown6
  have hln : l.length = 1 + n := by rw [hl', List.length_cons, HN.out]; omega
  have hs6 := hb6.size
  have h5s := H5.out.2.2.2.2.2
  have hEn : EnAt w6 g 0 l := fun i e he => by
    obtain ⟨c1, c2⟩ := flat2_get l i e he
    have hi := (List.getElem?_eq_some_iff.1 he).1
    rw [hln] at hi
    rw [Nat.zero_add]
    have b1 : i * 2 < (1 + n) * 2 := by omega
    have b2 : i * 2 + 1 < (1 + n) * 2 := by omega
    rw [hown6.cellAt _ b1, hown6.cellAt _ b2]
    exact ⟨c1, c2⟩
  have hb56 : Below (w4.alloc (.cells #[.slice A0 m cap0, .int .i64 o] 72)).heap.size (w4.alloc (.cells #[.slice A0 m cap0, .int .i64 o] 72)) w6 ∨ True := .inr trivial
  have hBw4 : B < w4.heap.size := by have := HS.out; omega
  have hU6 : U8B w6 B (tell []) := H5.out.1.kept (hb6.block B hBw4)
  have hgB : g ≠ B := by omega
  have hRS6 : ∀ e ∈ l, RS w6 w6.heap.size e.A e.cap e.xs := fun e he => by
    rw [hl'] at he
    rcases List.mem_cons.1 he with rfl | he
    · exact (H5.out.2.2.1.below hb6).mono (by omega)
    · exact ((HE.out.1.below (H5.out.2.1)).2.2.1 e he |>.mono (by have := HS.out; omega : w1.heap.size ≤ w4.heap.size) |>.below hb6).mono (by omega)
  have hmay : ∀ e ∈ l, (∀ x ∈ e.xs, may x = true) ∧ 0 ≤ e.c ∧ e.c ≤ 255 ∧ e.xs.length ≤ 1000000 := fun e he => by
    rw [hl'] at he
    rcases List.mem_cons.1 he with rfl | he
    · have := (cls_iff o).1 HE.out.2.2.2.1
      exact ⟨fun x hx => (right_may (b := -1) HO.out.1 x hx).1, this.1, this.2, by have := HO.out.2.2.1; show out.length ≤ _; omega⟩
    · have hw := List.any_eq_false.1 HE.out.2.2.2.2 e he
      have hw2 : cls e.c = true ∧ right e.xs = true := by simpa [wrongE] using hw
      have := (cls_iff e.c).1 hw2.1
      exact ⟨fun x hx => (right_may (b := -1) hw2.2 x hx).1, this.1, this.2, HE.out.2.2.1 e he⟩
  have hbz6 : Below w1.heap.size w1 w6 := H5.out.2.1.trans (hb6.mono (by have := HS.out; omega))
  have H6 := Lib.hid (And.intro hU6 (And.intro hEn (And.intro hRS6 (And.intro hmay (And.intro hbz6 (And.intro hgB (And.intro hg2 (And.intro hln hl'))))))))
  clear hU6 hEn hRS6 hmay hbz6 hgB hg2 hln hl' hown6 hcells hb6 hs6 h5s hb56 hBw4 hg1
  have e1n : 1 + es.length = 1 + n := by rw [HN.out]
  rw [e1n]
  clear e1n
  go_wp2_with fail
  go_loopw [28] (fun i wr => ∃ k : Nat, i = .int .i64 k ∧ k ≤ 1 + n ∧ U8B wr B (tell (l.take k)) ∧ But B w6 wr) (fun i _ => 1 + n - (RowKit.intOf i).toNat)
  case atStart => exact ⟨0, rfl, Nat.zero_le _, H6.out.1, But.refl _ _⟩
  case round =>
    obtain ⟨k, rfl, hk, hU, hb⟩ := hrel
    by_cases hlt : k < 1 + n
    · obtain ⟨x, hx⟩ : ∃ x, l[k]? = some x := ⟨l[k]'(by rw [H6.out.2.2.2.2.2.2.2.1]; exact hlt), List.getElem?_eq_getElem _⟩
      have hxm := List.mem_of_getElem? hx
      obtain ⟨q1, q2⟩ := H6.out.2.1 k x hx
      have p1 := (hb.cell (p := ⟨g, 0 + k * 2, none⟩) H6.out.2.2.2.2.2.2.1 H6.out.2.2.2.2.2.1).trans q1
      have p2 := (hb.cell (p := ⟨g, 0 + k * 2 + 1, none⟩) H6.out.2.2.2.2.2.2.1 H6.out.2.2.2.2.2.1).trans q2
      rw [Nat.zero_add] at p1 p2
      have hR := (H6.out.2.2.1 x hxm).but (Nat.le_refl _) hb (fun b o hr hn => H6.out.1.apart hr hn)
      obtain ⟨m1, m2, m3, m4⟩ := H6.out.2.2.2.1 x hxm
      have hT := fun i => tell_snoc l k x hx i
      obtain ⟨A1, cap1, xs1, c1⟩ := x
      simp only at p1 p2 hR m1 m2 m3 m4 hT
      have hbx := below_new wr (.cells #[.slice A1 xs1.length cap1, .int .i64 c1] 72)
      have hfill := fill_any B (tell (l.take k)) A1 cap1 xs1 c1 _ (hU.below hbx) ((hR.below hbx).mono (by simp)) m1 m2 m3 m4
      have hbb := hb.trans (But.of_below (B := B) hbx)
      have HFI := Lib.hid hfill
      have HBB := Lib.hid hbb
      have HT := Lib.hid hT
      have i2 : (k : Int) < ((1 + n : Nat) : Int) := by omega
      generalize xs1.length = n1 at *
      clear hT hfill hbb hbx hR m1 m2 m3 m4 q1 q2 hU hb hx hxm
      go_wp2_with fail
      refine HFI.out.mono ?_
      rintro e w7 ⟨rfl, hU7, hb7⟩
      have hU8 : U8B w7 B (tell (l.take (k + 1))) := hU7.congr (fun i _ => (HT.out i).symm)
      have hb8 := HBB.out.trans hb7
      go_wp2_with fail
      go_roundw
      case rel => exact ⟨k + 1, by go_num, by omega, hU8, hb8⟩
      case measure => simp [RowKit.intOf]; omega
    · have hkn : k = 1 + n := by omega
      have e : l.take k = l := by rw [hkn, ← H6.out.2.2.2.2.2.2.2.1, List.take_length]
      rw [e] at hU
      have i3 : ¬ (k : Int) < ((1 + n : Nat) : Int) := by omega
      have d3 : decide ((k : Int) < ((1 + n : Nat) : Int)) = false := by simp; omega
      have hTB := Z80_TB (wr.alloc (.cells (Z80 o) 80)) wr.heap.size o (heap_alloc_new wr _)
      have hU9 := hU.below (below_new wr (.cells (Z80 o) 80))
      have hF : U8 (tell l) := tell_cls l fun e he => ⟨(H6.out.2.2.2.1 e he).2.1, (H6.out.2.2.2.1 e he).2.2.1⟩
      have hlt9 := hU.lt
      have hsh := share_any wr.heap.size B (.int .i64 o) (tell l) _ hTB hU9 hF (by omega)
      have hb9 : Below w1.heap.size w1 (wr.alloc (.cells (Z80 o) 80)) := (below_but H6.out.2.2.2.2.1 hb HS.out.1 H6.out.2.2.2.2.1.size).trans ((below_new wr _).mono (by have := HS.out.1; omega))
      have hTw : w1.heap.size ≤ wr.heap.size := by have := HS.out.1; omega
      have hsz9 : (wr.alloc (.cells (Z80 o) 80)).heap.size = wr.heap.size + 1 := by simp
      have HSH := Lib.hid hsh
      have H9 := Lib.hid (And.intro hb9 (And.intro hTw (And.intro hF hsz9)))
      clear hU hb hkn e hTB hU9 hF hlt9 hsh hb9 hTw hsz9 hlt
      go_wp2_with (first
        | (refine wpList_readTo rfl (some 37) rfl (.agg (Z80 o)) (by as_aux_lemma => kernel_rfl) ?_)
        | (refine wpList_boxTo rfl 80 (.tmp 37) rfl (some 38) rfl wr.heap.size rfl (Z80 o) rfl ?_)
        | fail)
      refine HSH.out.mono ?_
      rintro e w10 ⟨rfl, hb10, S, hT10, hO10⟩
      have hTr := Tr.of_share hT10 hO10
      have hbz := below_but H9.out.1 hb10 H9.out.2.1 (by rw [H9.out.2.2.2]; have := H9.out.2.1; omega)
      have hfin : R (.returned (.tuple #[.pointer (some ⟨wr.heap.size, 0, none⟩), .int .i64 0])) w10 := by
        rw [HR.out]
        refine ⟨hbz, ?_⟩
        rw [if_pos (by rw [HE.out.2.2.2.1, HE.out.2.2.2.2]; rfl)]
        refine ⟨wr.heap.size, tell l, rfl, H9.out.2.2.1, fun i hi => ?_, hTr⟩
        rw [H6.out.2.2.2.2.2.2.2.2]
        unfold tell
        rw [List.foldl_cons]
        have : hasR out (i : Int) = true := by rw [HO.out.2.1]; simp; omega
        rw [if_pos this]
      have HFIN := Lib.hid hfin
      clear hTr hbz hfin hT10 hO10 hb10
      go_wp2_with fail
      exact HFIN.out
theorem new_any (o : Int) (A : Option Addr) (cap : Nat) (es : List En) (w : World) (h : ES w w.heap.size A cap es) (hF : Fw A cap) (hl : es.length ≤ 200) (hx : ∀ e ∈ es, e.xs.length ≤ 1000000) :
    Calls Try.prog 15 #[.int .i64 o, .slice A es.length cap] w (NewPost o es w) := by
  by_cases hb : (cls o && !es.any wrongE) = true
  · rw [Bool.and_eq_true] at hb
    exact new_good o A cap es w h hF hl hx hb.1 (by simpa using hb.2)
  · exact new_bad o A cap es w h hl (by simpa using hb)
theorem new_long (o : Int) (A : Option Addr) (cap n : Nat) (w : World) (hl : 200 < n) (hm : n ≤ 9223372036854775807) :
    Calls Try.prog 15 #[.int .i64 o, .slice A n cap] w fun e w' => e = .returned (.tuple #[.pointer none, .int .i64 3]) ∧ Below w.heap.size w w' := by
  have i1 : (200 : Int) < (n : Int) := by omega
  have hb := Below.refl w.heap.size w
  go_enter Try.func15, Try.ntmps15
  go_wp2_with fail
  go_ret2
  exact ⟨rfl, hb⟩
end Go.Proofs.Ytphhdkffnboboaa
