/-
  Contract: virguleref08.A.look of any good expression, and of the one of kind 9.
  What virguleref08.Make keeps of the struct that it fills.
  Contract: virguleref08.Make.
  How long virguleref08.Make's lists become: what make_any asks.
  What Make has filled is the document's automaton in memory.
  Contracts: Ints.Is.
  Contracts: awake: the document's example holds.
  An expression in memory whose parts lie in blocks of which something is known.
  The automaton of so many leaves side by side. No program.
  The walk of NfaCounts.
-/
import Derived.Test.YtmldgfplnacecaaDoorXqh
import Derived.Test.YtmldgfplnacecaaDoorXqi
import Derived.Test.YtmldgfplnacecaaDoorXqg
import Derived.BigRegion
import Derived.Deep.CutRange
import Derived.Test.YtmldgfplnacecaaDoorXqe
import Derived.Test.YtmldgfplnacecaaDoorXqd
import Derived.Test.YtmldgfplnacecaaDoorXqf
import Derived.Deep.RegionHeld3
import Derived.Deep.AppendLies
namespace Go.Proofs.YtmldgfplnacecaaDoor
open Go.RowKit Go.Shelf Go.Lib Go.Great Go.Maps

set_option maxHeartbeats 4000000 in
theorem look_nine (c o : Int) (A : Option Addr) (n cap : Nat) (b : Nat) (c0 c3 c4 c6 v1 v2 v5 : Value) (s : Lk) (w : World) (h : LkAt w b c0 c3 c4 c6 s v1 v2 v5) :
    Calls Tryd.prog 52 #[.pointer (some ⟨b, 0, none⟩), .agg #[.int .i64 9, .int .i64 c, .slice A n cap], .int .i64 o] w (LkPost w b c0 c3 c4 c6 v1 v2 v5 s ⟨true, [], []⟩) := by
  obtain ⟨W2, hW2⟩ : ∃ W, (w.alloc (.cells #[.int .i64 9, .int .i64 c, .slice A n cap] 48)).alloc (.cells #[.bool false, .slice none 0 0, .slice none 0 0] 101) = W := ⟨_, rfl⟩
  have b2 : Below w.heap.size w W2 := by rw [← hW2]; exact (below_new _ _).alloc (by simp) _
  have bx : Cells W2 w.heap.size 48 #[.int .i64 9, .int .i64 c, .slice A n cap] := by rw [← hW2]; exact ((below_new (w.alloc (.cells #[.int .i64 9, .int .i64 c, .slice A n cap] 48)) (.cells #[.bool false, .slice none 0 0, .slice none 0 0] 101)).block _ (by simp)).trans (cells_new _ _ _)
  have rs : Cells W2 (w.heap.size + 1) 101 part0 := by
    rw [← hW2]
    have := cells_new (w.alloc (.cells #[.int .i64 9, .int .i64 c, .slice A n cap] 48)) #[.bool false, .slice none 0 0, .slice none 0 0] 101
    rw [World.size_alloc] at this
    exact this
  have a2 := h.mv b2
  have kr : Kept W2 b v1 v2 v5 (w.heap.size + 1) 101 part0 := ⟨rs, h.fresh (Nat.le_succ _)⟩
  have m2 := LkMv.of_below (b := b) v1 v2 v5 b2
  have d0 := bx.cell 0
  have x1 := rs.cell 0
  have x2 := rs.cell 1
  have x3 := rs.cell 2
  have f0 := rs.froz 0
  have f1 := rs.froz 1
  have f2 := rs.froz 2
  have zr := rs.lt
  simp at d0
  simp [part0] at x1 x2 x3
  have hP : ∃ WF, (((W2.setCell ⟨w.heap.size + 1, 0, none⟩ (.bool true)).setCell ⟨w.heap.size + 1, 1, none⟩ (.slice none 0 0)).setCell ⟨w.heap.size + 1, 2, none⟩ (.slice none 0 0)) = WF ∧ Cells WF (w.heap.size + 1) 101 #[.bool true, .slice none 0 0, .slice none 0 0] ∧ LkPost w b c0 c3 c4 c6 v1 v2 v5 s ⟨true, [], []⟩ (.returned (.agg #[.bool true, .slice none 0 0, .slice none 0 0])) WF := by
    have k := ((kr.set_eq (i := 0) (.bool true)).set_eq (i := 1) (.slice none 0 0)).set_eq (i := 2) (.slice none 0 0)
    refine ⟨_, rfl, k.c, _, _, _, _, _, rfl, ((a2.set kr.n _).set kr.n _).set kr.n _, ?_, slx_nil _ _, slx_nil _ _⟩
    exact ((m2.set (Nat.le_succ _) 0 _).set (Nat.le_succ _) 1 _).set (Nat.le_succ _) 2 _
  obtain ⟨WF, hWF, hc, hP⟩ := hP
  have HF := Lib.hid (And.intro hWF (And.intro hc hP))
  have HW := Lib.hid hW2
  clear hWF hc hP hW2 a2 kr m2 bx rs b2 h
  go_enter Tryd.func52, Tryd.ntmps52
  go_upto_region 1 with fail
  rw [HW.out]
  go_wp2_with fail
  rw [HF.out.1]
  exact bodyPost_ret (v := .agg #[.bool true, .slice none 0 0, .slice none 0 0]) (results_one rfl _ _ (w.heap.size + 1) _ rfl HF.out.2.1 info101) rfl HF.out.2.2

theorem look_all (L : Nat) : ∀ N e, szE e ≤ N → LookFor L e := by
  intro N
  induction N with
  | zero => intro e h; have := szE_pos e; omega
  | succ N ih =>
    intro e he
    obtain ⟨k, c, ks⟩ := e
    by_cases hne : ks = []
    · subst hne
      intro o v b B c0 c3 c4 c6 v1 v2 v5 s w h hN hB ho hb
      obtain ⟨hk, hc, A, cap, rfl, hks⟩ := Nd_iff.1 hN
      simp only [E.k, E.c, E.ks] at hk hc hks ⊢
      obtain ⟨h9, hs, hga⟩ := good_parts hb.g
      have hv := hb.v
      have ho' := hb.o
      rw [lookE_leaf h9]
      exact look_leaf k c o A cap b c0 c3 c4 c6 v1 v2 v5 s w h h9 hk hc ho ⟨hks.m, hks.z⟩ (by omega) (by omega)
    · exact look_node L k c ks hne fun e hm => ih e (by have := kids_lt (k := k) (c := c) hm; omega)
/-- A whole expression, right or of kind 9. -/
theorem look_top {L : Nat} {e : E} (h : e.k = 9 ∨ goodE e = true) (o : Int) (v : Value) (b B : Nat) (c0 c3 c4 c6 v1 v2 v5 : Value) (s : Lk) (w : World) (ha : LkAt w b c0 c3 c4 c6 s v1 v2 v5) (hN : Nd w B e v) (hB : B ≤ b) (ho : i64 o)
    (hl : leavesE e ≤ L) (hm : L ≤ 200) (hp : s.pr.length + 2 * szE e * (L * L) ≤ 2000000) (hv : s.lv.length + leavesE e ≤ 1000) (hof : s.of.length + leavesE e ≤ 1000) :
    Calls Tryd.prog 52 #[.pointer (some ⟨b, 0, none⟩), v, .int .i64 o] w (LkPost w b c0 c3 c4 c6 v1 v2 v5 (lookE e o s).1 (lookE e o s).2) := by
  rcases h with h9 | hg
  · obtain ⟨k, c, ks⟩ := e
    simp only [E.k] at h9
    subst h9
    obtain ⟨_, _, A, cap, rfl, _⟩ := Nd_iff.1 hN
    have e0 : lookE (.mk 9 c ks) o s = (s, ⟨true, [], []⟩) := by unfold lookE; rw [if_pos rfl]
    rw [e0]
    exact look_nine c o A ks.length cap b c0 c3 c4 c6 v1 v2 v5 s w ha
  · exact look_all L _ e (Nat.le_refl _) o v b B c0 c3 c4 c6 v1 v2 v5 s w ha hN hB ho ⟨hg, hl, hm, hp, hv, hof⟩
end Go.Proofs.YtmldgfplnacecaaDoor

namespace Go.Proofs.YtmldgfplnacecaaDoor
open Go.RowKit Go.Shelf Go.Lib Go.Great Go.Maps

theorem LkAt.setOwn {b i : Nat} {w : World} {c0 c3 c4 c6 d3 d4 d6 v1 v2 v5 x : Value} {s : Lk} (h : LkAt w b c0 c3 c4 c6 s v1 v2 v5) (hc : (#[c0, v1, v2, c3, c4, v5, c6] : Array Value).setIfInBounds i x = #[c0, v1, v2, d3, d4, v5, d6]) :
    LkAt (w.setCell ⟨b, i, none⟩ x) b c0 d3 d4 d6 s v1 v2 v5 := by
  have hf := Fz.set w b i x rfl (X := fun k => k = b)
  have nb : ∀ {e z n : Nat} {u : Value} {xs : List Value}, w.ownsRow (b + 1) e z u n xs → ∀ k, k = b → u.ownBlock ≠ some k := fun ho k hk e => by
    have := (own_block_lt ho k e).1
    omega
  obtain ⟨cl, l1, l2⟩ := h.lo
  have hcs := h.cs.set i x
  rw [hc] at hcs
  exact ⟨hcs, ⟨cl, own_fz hf l1 (nb l1), l2⟩, own_fz hf h.oo (nb h.oo), h.oi, own_fz hf h.po (nb h.po), h.pi⟩
theorem LkMv.setOwn (b : Nat) (w : World) (i : Nat) (x v1 v2 v5 : Value) : LkMv b w (w.setCell ⟨b, i, none⟩ x) v1 v2 v5 v1 v2 v5 := by
  have f := Fz.set w b i x rfl (X := fun k => k = b)
  exact ⟨⟨f.os, f.tape, f.output, f.size, fun k hk hn => f.block k hk fun e => hn (.inl e)⟩, fun _ h => .inl h⟩
/-- Behind some expressions. -/
structure MkA (b : Nat) (c0 : Value) (W wr : World) (a : Mka) (v1 v2 v5 vf vl : Value) : Prop where
  t : LkAt wr b c0 vf vl (.int .u64 (a.em : Int)) a.l v1 v2 v5
  m : LkMv b W wr (.slice none 0 0) (.slice none 0 0) (.slice none 0 0) v1 v2 v5
  f : SlX wr (Xs b v1 v2 v5 (b + 1)) a.fi vf
  l : SlX wr (Xs b v1 v2 v5 (b + 1)) a.la vl
theorem MkA.on {b : Nat} {c0 v1 v2 v5 vf vl x1 x2 x5 : Value} {W wr w' : World} {a : Mka} {s' : Lk} (h : MkA b c0 W wr a v1 v2 v5 vf vl) (ha : LkAt w' b c0 vf vl (.int .u64 (a.em : Int)) s' x1 x2 x5) (hm : LkMv b wr w' v1 v2 v5 x1 x2 x5) : MkA b c0 W w' ⟨s', a.fi, a.la, a.em⟩ x1 x2 x5 vf vl :=
  ⟨ha, h.m.trans hm, h.f.mv hm, h.l.mv hm⟩
theorem MkA.below {b : Nat} {c0 v1 v2 v5 vf vl : Value} {W wr w' : World} {a : Mka} (h : MkA b c0 W wr a v1 v2 v5 vf vl) (hb : Below wr.heap.size wr w') : MkA b c0 W w' a v1 v2 v5 vf vl :=
  ⟨h.t.mv hb, h.m.below hb, h.f.mv (LkMv.of_below _ _ _ hb), h.l.mv (LkMv.of_below _ _ _ hb)⟩
theorem MkA.put3 {b : Nat} {c0 v1 v2 v5 vf vl x : Value} {W wr : World} {a : Mka} {l : List Int} (h : MkA b c0 W wr a v1 v2 v5 vf vl) (hx : SlX wr (Xs b v1 v2 v5 (b + 1)) l x) : MkA b c0 W (wr.setCell ⟨b, 3, none⟩ x) ⟨a.l, l, a.la, a.em⟩ v1 v2 v5 x vl :=
  have m := LkMv.setOwn b wr 3 x v1 v2 v5
  ⟨h.t.setOwn rfl, h.m.trans m, hx.mv m, h.l.mv m⟩
theorem MkA.put4 {b : Nat} {c0 v1 v2 v5 vf vl x : Value} {W wr : World} {a : Mka} {l : List Int} (h : MkA b c0 W wr a v1 v2 v5 vf vl) (hx : SlX wr (Xs b v1 v2 v5 (b + 1)) l x) : MkA b c0 W (wr.setCell ⟨b, 4, none⟩ x) ⟨a.l, a.fi, l, a.em⟩ v1 v2 v5 vf x :=
  have m := LkMv.setOwn b wr 4 x v1 v2 v5
  ⟨h.t.setOwn rfl, h.m.trans m, h.f.mv m, hx.mv m⟩
theorem MkA.put6 {b : Nat} {c0 v1 v2 v5 vf vl : Value} {W wr : World} {a : Mka} {e : Nat} (h : MkA b c0 W wr a v1 v2 v5 vf vl) : MkA b c0 W (wr.setCell ⟨b, 6, none⟩ (.int .u64 (e : Int))) ⟨a.l, a.fi, a.la, e⟩ v1 v2 v5 vf vl :=
  have m := LkMv.setOwn b wr 6 (.int .u64 (e : Int)) v1 v2 v5
  ⟨h.t.setOwn rfl, h.m.trans m, h.f.mv m, h.l.mv m⟩
/-- Nothing yet. -/
theorem MkA.new (w : World) (se : Bool) : MkA w.heap.size (.bool se) (w.alloc (.cells #[.bool se, .slice none 0 0, .slice none 0 0, .slice none 0 0, .slice none 0 0, .slice none 0 0, .int .u64 0] 39)) (w.alloc (.cells #[.bool se, .slice none 0 0, .slice none 0 0, .slice none 0 0, .slice none 0 0, .slice none 0 0, .int .u64 0] 39)) mka0 (.slice none 0 0) (.slice none 0 0) (.slice none 0 0) (.slice none 0 0) (.slice none 0 0) := by
  refine ⟨⟨cells_new _ _ _, ⟨[], ⟨rfl, .inl ⟨rfl, rfl⟩⟩, fun i e h => by simp [mka0] at h⟩, ⟨rfl, .inl ⟨rfl, rfl⟩⟩, fun x h => by simp [mka0] at h, ⟨rfl, .inl ⟨rfl, rfl⟩⟩, fun p h => by simp [mka0] at h⟩, LkMv.refl _ _ _ _ _, slx_nil _ _, slx_nil _ _⟩
end Go.Proofs.YtmldgfplnacecaaDoor

namespace Go.Proofs.YtmldgfplnacecaaDoor
open Go.RowKit Go.Shelf Go.Lib Go.Great Go.Maps

/-- What is asked of each expression, behind those before it. -/
structure MkB (L : Nat) (e : E) (a : Mka) : Prop where
  r : e.k = 9 ∨ goodE e = true
  l : leavesE e ≤ L
  m : L ≤ 200
  p : a.l.pr.length + 2 * szE e * (L * L) ≤ 2000000
  v : a.l.lv.length + leavesE e ≤ 1000
  o : a.l.of.length + leavesE e ≤ 1000
  e : a.em < 18446744073709551616

/-- Behind the first join. -/
def Mk6 (b : Nat) (se : Bool) (W wx : World) (a : Mka) (x1 x2 x5 vl : Value) (qp : Nat) (em : Bool) (pf pl : Value) (la : List Int) : Prop :=
  ∃ J1 J1c, MkA b (.bool se) W wx a x1 x2 x5 (.slice J1 a.fi.length J1c) vl ∧ Kept wx b x1 x2 x5 qp 101 #[.bool em, pf, pl] ∧ SlX wx (Xs b x1 x2 x5 (b + 1)) la pl
/-- Behind the second. -/
def Mk7 (b : Nat) (se : Bool) (W wx : World) (a : Mka) (x1 x2 x5 : Value) (qp : Nat) (em : Bool) (pf pl : Value) : Prop :=
  ∃ vf vl, MkA b (.bool se) W wx a x1 x2 x5 vf vl ∧ Kept wx b x1 x2 x5 qp 101 #[.bool em, pf, pl]
def MkPost (w : World) (b : Nat) (se : Bool) (a : Mka) (w' : World) : Prop :=
  ∃ W v1 v2 v5 vf vl, MkA b (.bool se) W w' a v1 v2 v5 vf vl ∧ Below b w w'
set_option maxHeartbeats 8000000 in
theorem make_any (L : Nat) (se : Bool) (ks : List E) (n : Nat) (A : Option Addr) (cap B : Nat) (w : World) (hn : ks.length = n) (hB : B ≤ w.heap.size) (hks : KsAt w B ks A cap) (h64 : n ≤ 64)
    (hall : ∀ (i : Nat) e, ks[i]? = some e → MkB L e (makeL (ks.take i) 0 mka0) ∧ ∀ o, (makeL (ks.take i) 0 mka0).fi.length + (lookE e o (makeL (ks.take i) 0 mka0).l).2.first.length ≤ 1000 ∧ (makeL (ks.take i) 0 mka0).la.length + (lookE e o (makeL (ks.take i) 0 mka0).l).2.last.length ≤ 1000) :
    Calls Tryd.prog 16 #[.bool se, .slice A n cap] w fun r w' => r = .returned (.pointer (some ⟨w.heap.size, 0, none⟩)) ∧ MkPost w w.heap.size se (makeL ks 0 mka0) w' := by
  obtain ⟨F, hF⟩ : ∃ F, (fun i => makeL (ks.take i) 0 mka0) = F := ⟨_, rfl⟩
  have hFi : ∀ i, makeL (ks.take i) 0 mka0 = F i := fun i => by rw [← hF]
  have hFn : makeL ks 0 mka0 = F n := by rw [← hFi, ← hn, List.take_length]
  have hlk := fun (i : Nat) e (he : ks[i]? = some e) => makeL_take he mka0
  have st0' := MkA.new w se
  have b1 := below_new w (.cells #[.bool se, .slice none 0 0, .slice none 0 0, .slice none 0 0, .slice none 0 0, .slice none 0 0, .int .u64 0] 39)
  obtain ⟨W1, hW1⟩ : ∃ W, w.alloc (.cells #[.bool se, .slice none 0 0, .slice none 0 0, .slice none 0 0, .slice none 0 0, .slice none 0 0, .int .u64 0] 39) = W := ⟨_, rfl⟩
  rw [hW1] at st0' b1
  have hF0 : F 0 = mka0 := by rw [← hFi]; rfl
  have st := st0'
  rw [← hF0] at st
  simp only [hFi] at hall hlk
  rw [hFn]
  obtain ⟨b, hbw⟩ : ∃ b, w.heap.size = b := ⟨_, rfl⟩
  rw [hbw] at st st0' b1 hB ⊢
  have zb : b < W1.heap.size := st.t.cs.lt
  have H := Lib.hid (And.intro hks (And.intro st (And.intro st0' (And.intro hall (And.intro hlk (And.intro hn (And.intro b1 hB)))))))
  have HW := Lib.hid (And.intro hW1 hbw)
  clear hks st st0' hall hlk hn b1 hB hF0 hFn hFi hF hW1 hbw
  go_enter Tryd.func16, Tryd.ntmps16
  go_upto_region 2 with fail
  rw [HW.out.1, HW.out.2]
  go_wp2_with fail
  go_loopw [6, 7] (fun x _ wr => ∃ (i : Nat) (y1 y2 y5 vf vl : Value), x = .int .i64 (i : Int) ∧ i ≤ n ∧ MkA b (.bool se) W1 wr (F i) y1 y2 y5 vf vl) (fun x _ _ => n - (RowKit.intOf x).toNat)
  case atStart => exact ⟨0, _, _, _, _, _, rfl, by omega, H.out.2.1⟩
  case round =>
    obtain ⟨i, y1, y2, y5, vf, vl, rfl, hi, hS⟩ := hrel
    by_cases hlt : i < n
    · have i1 : (i : Int) < (n : Int) := by omega
      obtain ⟨e, he⟩ : ∃ e, ks[i]? = some e := ⟨ks[i]'(by rw [H.out.2.2.2.2.2.1]; exact hlt), List.getElem?_eq_getElem _⟩
      have hbwr : Below b w wr := H.out.2.2.2.2.2.2.1.trans (hS.m.under H.out.2.2.1.t)
      have hkw := H.out.1.below (hbwr.mono H.out.2.2.2.2.2.2.2)
      obtain ⟨bk, ok, rfl, hbk, hrow⟩ := hkw.r (by rintro rfl; simp at he)
      obtain ⟨Ae, ce, d0, d1, d2, hNe⟩ := row_get' hrow he
      obtain ⟨hbd, hsum⟩ := H.out.2.2.2.1 i e he
      have hst := H.out.2.2.2.2.1 i e he
      have C := look_top hbd.r (i : Int) _ b B (.bool se) vf vl (.int .u64 ((F i).em : Int)) y1 y2 y5 (F i).l wr hS.t hNe H.out.2.2.2.2.2.2.2 (by unfold i64; omega) hbd.l hbd.m hbd.p hbd.v hbd.o
      have hsum := hsum (i : Int)
      obtain ⟨q, hq⟩ : ∃ q, lookE e (i : Int) (F i).l = q := ⟨_, rfl⟩
      unfold addA at hst
      rw [hq] at C hst hsum
      have HC := Lib.hid C
      have HEM := Lib.hid hbd.e
      have HK := Lib.hid (And.intro hS (And.intro hst hsum))
      clear C hS hbwr hkw hrow hNe hbd hst hsum hq he
      go_wp2_with fail
      refine HC.out.mono ?_
      rintro r w4 ⟨x1, x2, x5, pf, pl, rfl, ha4, hm4, hf4, hl4⟩
      have hS4 := HK.out.1.on ha4 hm4
      obtain ⟨Af, cf, hpf⟩ := slx_form hf4
      obtain ⟨Al, cl, hpl⟩ := slx_form hl4
      have hzb : b < wr.heap.size := HK.out.1.t.cs.lt
      have hf4 := hf4.lower (n' := b + 1) hzb
      have hl4 := hl4.lower (n' := b + 1) hzb
      subst hpf hpl
      have al := below_new w4 (.cells #[.bool q.2.empty, .slice Af q.2.first.length cf, .slice Al q.2.last.length cl] 101)
      have hS5 := hS4.below al
      have kp : Kept (w4.alloc (.cells #[.bool q.2.empty, .slice Af q.2.first.length cf, .slice Al q.2.last.length cl] 101)) b x1 x2 x5 w4.heap.size 101 #[.bool q.2.empty, .slice Af q.2.first.length cf, .slice Al q.2.last.length cl] := ⟨cells_new _ _ _, ha4.fresh (Nat.le_refl _)⟩
      have hf5 := hf4.mv (LkMv.of_below x1 x2 x5 al)
      have hl5 := hl4.mv (LkMv.of_below x1 x2 x5 al)
      obtain ⟨w5, hw5⟩ : ∃ W, w4.alloc (.cells #[.bool q.2.empty, .slice Af q.2.first.length cf, .slice Al q.2.last.length cl] 101) = W := ⟨_, rfl⟩
      obtain ⟨qp, hqp⟩ : ∃ g, w4.heap.size = g := ⟨_, rfl⟩
      have hqb : b < qp := by rw [← hqp]; exact ha4.cs.lt
      rw [hw5] at hS5 kp hf5 hl5
      rw [hqp] at kp
      have HW5 := Lib.hid (And.intro hw5 hqp)
      obtain ⟨Ag, cg, hvf⟩ := slx_form hS5.f
      obtain ⟨Ah, ch, hvl⟩ := slx_form hS5.l
      subst hvf hvl
      have HT := Lib.hid (And.intro hS5 (And.intro kp (And.intro hf5 hl5)))
      clear hS4 hf4 hl4 ha4 hm4 al hS5 kp hf5 hl5 hw5 hqp d0 d1 d2
      go_upto_region 6 with fail
      rw [HW5.out.1, HW5.out.2]
      have c3 := HT.out.1.t.cs.cell 3
      have f3 := HT.out.1.t.cs.froz 3
      have zb5 := HT.out.1.t.cs.lt
      have p1 := HT.out.2.1.c.cell 1
      simp at c3 p1
      have hC : ∀ wd, Below w5.heap.size w5 wd → Calls Tryd.prog 53 #[.slice Ag (F i).fi.length cg, .slice Af q.2.first.length cf] wd fun r w' => ∃ A c, r = .returned (.slice A ((F i).fi.length + q.2.first.length) c) ∧ OwnI w' wd.heap.size ((F i).fi ++ q.2.first) (.slice A ((F i).fi.length + q.2.first.length) c) ∧ Below wd.heap.size wd w' := fun wd hb => join_look (HT.out.1.below hb).f (HT.out.2.2.1.mv (LkMv.of_below _ _ _ hb)) (by have := HK.out.2.2.1; omega)
      have HC3 := Lib.hid hC
      clear hC
      go_cut [7] from 24 to 33 (fun p wx => p = .pointer (some ⟨qp, 0, none⟩) ∧ Mk6 b se W1 wx ⟨q.1, (F i).fi ++ q.2.first, (F i).la, (F i).em⟩ x1 x2 x5 (.slice Ah (F i).la.length ch) qp q.2.empty (.slice Af q.2.first.length cf) (.slice Al q.2.last.length cl) q.2.last)
      case first =>
        go_region_law (first
          | (go_simp
             go_at_call 53
             refine (HC3.out _ (Below.refl _ _).drew).mono ?_
             rintro rr w6 ⟨J1, J1c, rfl, ho6, hb6⟩
             have hb6' : Below w5.heap.size w5 w6 := (Below.refl _ w5).drew.trans hb6
             have hS6 := HT.out.1.below hb6'
             have hx6 : SlX w6 (Xs b x1 x2 x5 (b + 1)) ((F i).fi ++ q.2.first) (.slice J1 ((F i).fi.length + q.2.first.length) J1c) := (slx_ofI ho6 (fun y hy => by rcases List.mem_append.1 hy with e | e; exact slx_ints HT.out.1.f y e; exact slx_ints HT.out.2.2.1 y e) (fun g hg => HT.out.1.t.fresh hg)).lower (show b + 1 ≤ w5.heap.size from zb5)
             have s3 := hS6.t.cs.froz 3
             have s3c := hS6.t.cs.cell 3
             simp at s3c
             have sz := hS6.t.cs.lt
             have hS7 := hS6.put3 hx6
             have kp7 := (HT.out.2.1.mv (LkMv.of_below _ _ _ hb6')).set_ne (p := b) (i := 3) (by omega) (.slice J1 ((F i).fi.length + q.2.first.length) J1c)
             have hl7 := (HT.out.2.2.2.mv (LkMv.of_below _ _ _ hb6')).mv (LkMv.setOwn b w6 3 (.slice J1 ((F i).fi.length + q.2.first.length) J1c) x1 x2 x5)
             have H7 : Mk6 b se W1 (w6.setCell ⟨b, 3, none⟩ (.slice J1 ((F i).fi.length + q.2.first.length) J1c)) ⟨q.1, (F i).fi ++ q.2.first, (F i).la, (F i).em⟩ x1 x2 x5 (.slice Ah (F i).la.length ch) qp q.2.empty (.slice Af q.2.first.length cf) (.slice Al q.2.last.length cl) q.2.last := ⟨J1, J1c, by rw [List.length_append]; exact hS7, kp7, hl7⟩
             have H7 := Lib.hid H7
             clear hS6 hx6 hS7 kp7 hl7 ho6 hb6 hb6'))
        all_goals
          go_wp2_with fail
          go_meet
          exact ⟨rfl, H7.out⟩
      case rest =>
        obtain ⟨rfl, J1, J1c, hS7, kp7, hl7⟩ := hcut
        clear c3 f3 zb5 p1
        obtain ⟨cq, lq1, lq2⟩ := hS7.t.lo
        have HU := Lib.hid (And.intro hS7 (And.intro kp7 hl7))
        have c4 := hS7.t.cs.cell 4
        have f4 := hS7.t.cs.froz 4
        have zb7 := hS7.t.cs.lt
        have p2 := kp7.c.cell 2
        simp at c4 p2
        have hC : ∀ wd, Below wc.heap.size wc wd → Calls Tryd.prog 53 #[.slice Ah (F i).la.length ch, .slice Al q.2.last.length cl] wd fun r w' => ∃ A c, r = .returned (.slice A ((F i).la.length + q.2.last.length) c) ∧ OwnI w' wd.heap.size ((F i).la ++ q.2.last) (.slice A ((F i).la.length + q.2.last.length) c) ∧ Below wd.heap.size wd w' := fun wd hb => join_look (HU.out.1.below hb).l (HU.out.2.2.mv (LkMv.of_below _ _ _ hb)) (by have := HK.out.2.2.2; show (F i).la.length + q.2.last.length ≤ 100000; omega)
        have HC4 := Lib.hid hC
        clear hC hS7 kp7 hl7 lq1 lq2
        go_upto_region 7 with fail
        go_cut [7] from 34 to 43 (fun p wy => p = .pointer (some ⟨qp, 0, none⟩) ∧ Mk7 b se W1 wy ⟨q.1, (F i).fi ++ q.2.first, (F i).la ++ q.2.last, (F i).em⟩ x1 x2 x5 qp q.2.empty (.slice Af q.2.first.length cf) (.slice Al q.2.last.length cl))
        case first =>
          go_region_law (first
            | (go_simp
               go_at_call 53
               refine (HC4.out _ (Below.refl _ _).drew).mono ?_
               rintro rr w8 ⟨J2, J2c, rfl, ho8, hb8⟩
               have hb8' : Below wc.heap.size wc w8 := (Below.refl _ wc).drew.trans hb8
               have hS8 := HU.out.1.below hb8'
               have hx8 : SlX w8 (Xs b x1 x2 x5 (b + 1)) ((F i).la ++ q.2.last) (.slice J2 ((F i).la.length + q.2.last.length) J2c) := (slx_ofI ho8 (fun y hy => by rcases List.mem_append.1 hy with e | e; exact slx_ints HU.out.1.l y e; exact slx_ints HU.out.2.2 y e) (fun g hg => HU.out.1.t.fresh hg)).lower (show b + 1 ≤ wc.heap.size from zb7)
               have s4 := hS8.t.cs.froz 4
               have s4c := hS8.t.cs.cell 4
               simp at s4c
               have sz := hS8.t.cs.lt
               have hS9 := hS8.put4 hx8
               have kp9 := (HU.out.2.1.mv (LkMv.of_below _ _ _ hb8')).set_ne (p := b) (i := 4) (by omega) (.slice J2 ((F i).la.length + q.2.last.length) J2c)
               have H9 : Mk7 b se W1 (w8.setCell ⟨b, 4, none⟩ (.slice J2 ((F i).la.length + q.2.last.length) J2c)) ⟨q.1, (F i).fi ++ q.2.first, (F i).la ++ q.2.last, (F i).em⟩ x1 x2 x5 qp q.2.empty (.slice Af q.2.first.length cf) (.slice Al q.2.last.length cl) := ⟨_, _, hS9, kp9⟩
               have H9 := Lib.hid H9
               clear hS8 hx8 hS9 kp9 ho8 hb8 hb8'))
          all_goals
            go_wp2_with fail
            go_meet
            exact ⟨rfl, H9.out⟩
        case rest =>
          obtain ⟨rfl, vf9, vl9, hS9, kp9⟩ := hcut
          clear c4 f4 zb7 p2
          have p0 := kp9.c.cell 0
          have c6 := hS9.t.cs.cell 6
          have f6 := hS9.t.cs.froz 6
          have zb9 := hS9.t.cs.lt
          simp at c6 p0
          have HV := Lib.hid hS9
          cases hqe : q.2.empty with
          | true =>
            rw [hqe] at p0
            have hst6 : F (i + 1) = ⟨q.1, (F i).fi ++ q.2.first, (F i).la ++ q.2.last, (F i).em ||| 2 ^ i⟩ := by rw [HK.out.2.1, hqe]; rfl
            have hpw := wrap_pow i (by omega)
            have hpl : 2 ^ i < 18446744073709551616 := Nat.pow_lt_pow_right (a := 2) (n := 64) (by omega) (by omega)
            obtain ⟨P, hP⟩ : ∃ p, 2 ^ i = p := ⟨_, rfl⟩
            rw [hP] at hpw hpl hst6
            have HB := Lib.hid (bits_or_u64_nat (F i).em P HEM.out hpl)
            have HST := Lib.hid (And.intro hst6 hpw)
            have HQE := Lib.hid hqe
            clear hst6 hqe hS9 kp9 hpw hpl hP
            go_upto_region 9 with fail
            go_region_law (fail)
            all_goals
              go_wp2_with fail
              go_roundw
              case rel =>
                refine ⟨i + 1, x1, x2, x5, vf9, vl9, by go_num, by omega, ?_⟩
                rw [HST.out.1, HST.out.2, HB.out]
                exact HV.out.put6.below (Below.refl _ _).drew
              case measure => simp [RowKit.intOf]; omega
          | false =>
            rw [hqe] at p0
            have hst6 : F (i + 1) = ⟨q.1, (F i).fi ++ q.2.first, (F i).la ++ q.2.last, (F i).em⟩ := by rw [HK.out.2.1, hqe]; rfl
            have hend : ∃ (i' : Nat) (y1 y2 y5 vf vl : Value), Value.int .i64 ((i : Int) + 1) = .int .i64 (i' : Int) ∧ i' ≤ n ∧ MkA b (.bool se) W1 _ (F i') y1 y2 y5 vf vl := ⟨i + 1, _, _, _, _, _, by simp, by omega, by rw [hst6]; exact hS9⟩
            have HEND := Lib.hid hend
            clear hend hst6 hqe hS9 kp9
            go_wp2_with fail
            go_roundw
            case rel => exact HEND.out
            case measure => simp [RowKit.intOf]; omega
    · obtain rfl : i = n := by omega
      have i1 : ¬ (i : Int) < (i : Int) := by omega
      have HS := Lib.hid hS
      clear hS
      go_wp2_with fail
      go_ret
      exact ⟨rfl, W1, _, _, _, _, _, HS.out, H.out.2.2.2.2.2.2.1.trans (HS.out.m.under H.out.2.2.1.t)⟩
end Go.Proofs.YtmldgfplnacecaaDoor

namespace Go.Proofs.YtmldgfplnacecaaDoor
open Go.RowKit Go.Shelf Go.Lib Go.Great Go.Maps

theorem top_len {e : E} (hr : rightE e = true) (o : Int) (s : Lk) (L : Nat) (hl : leavesE e ≤ L) :
    (e.k = 9 ∨ goodE e = true) ∧ (lookE e o s).1.lv.length = s.lv.length + leavesE e ∧ (lookE e o s).1.of.length = s.of.length + leavesE e ∧ (lookE e o s).2.first.length ≤ leavesE e ∧ (lookE e o s).2.last.length ≤ leavesE e ∧ (lookE e o s).1.pr.length ≤ s.pr.length + 2 * szE e * (L * L) := by
  by_cases h9 : e.k = 9
  · obtain ⟨k, c, ks⟩ := e
    simp only [E.k] at h9
    subst h9
    have hr : shapedK 9 c ks.length = true := by simpa [rightE, E.k, E.c, E.ks] using hr
    have hl0 := List.eq_nil_of_length_eq_zero (shaped_leaf hr (by decide) (by decide) (by decide) (by decide) (by decide))
    subst hl0
    have z : leavesE (.mk 9 c []) = 0 := by unfold leavesE; rw [if_pos rfl, if_pos rfl]
    rw [look9 rfl, z]
    exact ⟨.inl rfl, rfl, rfl, Nat.le_refl _, Nat.le_refl _, Nat.le_add_right _ _⟩
  · rw [rightE_good h9] at hr
    simp only [Bool.and_eq_true] at hr
    obtain ⟨a, b⟩ := look_lv e o s hr.1
    obtain ⟨c, d, f⟩ := look_len e o s L hr.1 hl
    exact ⟨.inr hr.1, a, b, c, d, by omega⟩
theorem all_right {ks : List E} (h : ks.all rightE = true) {i : Nat} {e : E} (he : ks[i]? = some e) : rightE e = true := List.all_eq_true.1 h e (List.mem_of_getElem? he)
theorem take_right {ks : List E} (h : ks.all rightE = true) (i : Nat) : (ks.take i).all rightE = true := List.all_eq_true.2 fun e he => List.all_eq_true.1 h e (List.mem_of_mem_take he)
theorem make_len {ks : List E} (hr : ks.all rightE = true) {L : Nat} (hL : leavesE.lvL ks ≤ L) : ∀ i, i ≤ ks.length →
    (makeL (ks.take i) 0 mka0).l.lv.length = leavesE.lvL (ks.take i) ∧ (makeL (ks.take i) 0 mka0).l.of.length = leavesE.lvL (ks.take i) ∧ (makeL (ks.take i) 0 mka0).fi.length ≤ leavesE.lvL (ks.take i) ∧
    (makeL (ks.take i) 0 mka0).la.length ≤ leavesE.lvL (ks.take i) ∧ (makeL (ks.take i) 0 mka0).l.pr.length ≤ 2 * szE.szL (ks.take i) * (L * L)
  | 0, _ => ⟨rfl, rfl, Nat.le_refl _, Nat.le_refl _, Nat.zero_le _⟩
  | i + 1, hi => by
    obtain ⟨e, he⟩ : ∃ e, ks[i]? = some e := ⟨ks[i]'(by omega), List.getElem?_eq_getElem _⟩
    obtain ⟨q1, q2, q3, q4, q5⟩ := make_len hr hL i (by omega)
    have h1 := lvL_at he
    have e1 : ks.take (i + 1) = ks.take i ++ [e] := by rw [List.take_add_one, he]; rfl
    have e2 : leavesE.lvL (ks.take (i + 1)) = leavesE.lvL (ks.take i) + leavesE e := by rw [e1, lvL_app]; rfl
    have h2 : szE.szL (ks.take i) + szE e ≤ szE.szL (ks.take (i + 1)) := by
      have := (lvL_at (ks := ks.take (i + 1)) (i := i) (e := e) (by rw [List.getElem?_take]; simp [he])).2
      rwa [List.take_take, Nat.min_eq_left (Nat.le_succ i)] at this
    obtain ⟨t0, t1, t2, t3, t4, t5⟩ := top_len (all_right hr he) (i : Int) (makeL (ks.take i) 0 mka0).l L (by omega)
    have h3 := Nat.mul_le_mul_right (L * L) (Nat.mul_le_mul_left 2 h2)
    rw [Nat.mul_add, Nat.add_mul] at h3
    rw [makeL_take he]
    unfold addA
    dsimp only
    rw [List.length_append, List.length_append]
    exact ⟨by omega, by omega, by omega, by omega, by omega⟩
/-- All that make_any asks. -/
theorem make_hall {ks : List E} (hr : ks.all rightE = true) (h80 : szE.szL ks ≤ 80) (hl : leavesE.lvL ks ≤ 80) (h64 : ks.length ≤ 64) (i : Nat) (e : E) (he : ks[i]? = some e) :
    MkB 80 e (makeL (ks.take i) 0 mka0) ∧ ∀ o, (makeL (ks.take i) 0 mka0).fi.length + (lookE e o (makeL (ks.take i) 0 mka0).l).2.first.length ≤ 1000 ∧ (makeL (ks.take i) 0 mka0).la.length + (lookE e o (makeL (ks.take i) 0 mka0).l).2.last.length ≤ 1000 := by
  have hi : i < ks.length := (List.getElem?_eq_some_iff.1 he).1
  obtain ⟨q1, q2, q3, q4, q5⟩ := make_len hr hl i (by omega)
  obtain ⟨h1, h2⟩ := lvL_at he
  have h3 := Nat.mul_le_mul_right (80 * 80) (Nat.mul_le_mul_left 2 (Nat.le_trans h2 h80))
  rw [Nat.mul_add, Nat.add_mul] at h3
  obtain ⟨t0, _⟩ := top_len (all_right hr he) 0 (makeL (ks.take i) 0 mka0).l 80 (by omega)
  have hok := (makeN_ok (ks.take i) (take_right hr i) (by omega)).he
  rw [List.length_take, Nat.min_eq_left (by omega)] at hok
  have h4 : 2 ^ i ≤ 2 ^ 64 := Nat.pow_le_pow_right (by omega) (by omega)
  refine ⟨⟨t0, by omega, by omega, by omega, by omega, by omega, by omega⟩, fun o => ?_⟩
  obtain ⟨_, _, _, t3, t4, _⟩ := top_len (all_right hr he) o (makeL (ks.take i) 0 mka0).l 80 (by omega)
  exact ⟨by omega, by omega⟩
end Go.Proofs.YtmldgfplnacecaaDoor

namespace Go.Proofs.YtmldgfplnacecaaDoor
open Go.RowKit Go.Shelf Go.Lib Go.Great Go.Maps

theorem lv_ks {w : World} {base : Nat} {v : Value} {lv : List E} {cl : List Value} (h : w.ownsRow base 48 3 v lv.length cl)
    (hf : ∀ (i : Nat) e, lv[i]? = some e → i64 e.k ∧ i64 e.c ∧ e.ks = [] ∧ cl[i * 3]? = some (.int .i64 e.k) ∧ cl[i * 3 + 1]? = some (.int .i64 e.c) ∧ ∃ A cap, cl[i * 3 + 2]? = some (.slice A 0 cap) ∧ CapOk A cap) :
    ∃ A cap, v = .slice A lv.length cap ∧ KsAt w w.heap.size lv A cap := by
  rcases h.2 with ⟨h1, h2⟩ | ⟨g, cap, cur, h1, h2, h3, h4, h5, h6, h7⟩
  · have hn : lv = [] := List.eq_nil_of_length_eq_zero h2
    subst hn
    exact ⟨none, 0, by rw [h1]; rfl, ⟨Nat.le_refl _, by unfold maxLen; omega, fun _ => rfl, fun hn => absurd rfl hn⟩⟩
  · have hg : g < w.heap.size := (Array.getElem?_eq_some_iff.1 h3).1
    have cc := fun j u hj => World.ownsRow.cells h (g := g) (by rw [h1]; rfl) j u hj
    refine ⟨_, cap, h1, ⟨h4, h5, fun e => (by cases e), fun _ => ⟨g, 0, rfl, hg, row_of fun i e he => ?_⟩⟩⟩
    obtain ⟨k1, k2, k3, k4, k5, A', cap', k6, k7, k8⟩ := hf i e he
    have d0 := cc _ _ k4
    have d1 := cc _ _ k5
    have d2 := cc _ _ k6
    rw [add0] at d0 d1 d2
    refine ⟨_, _, _, by rw [Nat.zero_add]; exact d0, by rw [Nat.zero_add]; exact d1, by rw [Nat.zero_add]; exact d2, Nd_iff.2 ⟨k1, k2, A', cap', ?_, ?_⟩⟩
    · rw [k3]; rfl
    · rw [k3]
      exact ⟨Nat.zero_le _, k7, k8, fun hn => absurd rfl hn⟩
theorem pairsC_get (ps : List (Int × Int)) : ∀ (i : Nat) p, ps[i]? = some p → (pairsC ps)[i * 2]? = some (.int .i64 p.1) ∧ (pairsC ps)[i * 2 + 1]? = some (.int .i64 p.2) := by
  induction ps with
  | nil => intro i p h; simp at h
  | cons a r ih =>
    intro i p h
    have e : pairsC (a :: r) = .int .i64 a.1 :: .int .i64 a.2 :: pairsC r := rfl
    rw [e]
    cases i with
    | zero => simp at h; subst h; exact ⟨rfl, rfl⟩
    | succ i =>
      rw [List.getElem?_cons_succ] at h
      obtain ⟨h1, h2⟩ := ih i p h
      rw [show (i + 1) * 2 = i * 2 + 1 + 1 by omega, show i * 2 + 1 + 1 + 1 = (i * 2 + 1) + 1 + 1 by omega]
      simp only [List.getElem?_cons_succ]
      exact ⟨h1, h2⟩
theorem pr_ps {w : World} {base : Nat} {v : Value} {ps : List (Int × Int)} (h : w.ownsRow base 109 2 v ps.length (pairsC ps)) (hi : ∀ p ∈ ps, i64 p.1 ∧ i64 p.2) :
    ∃ A cap, v = .slice A ps.length cap ∧ PS w w.heap.size ps A cap := by
  rcases h.2 with ⟨h1, h2⟩ | ⟨g, cap, cur, h1, h2, h3, h4, h5, h6, h7⟩
  · have hn : ps = [] := List.eq_nil_of_length_eq_zero h2
    subst hn
    exact ⟨none, 0, by rw [h1]; rfl, ⟨Nat.le_refl _, by unfold maxLen; omega, hi, fun hn => absurd rfl hn⟩⟩
  · have hg : g < w.heap.size := (Array.getElem?_eq_some_iff.1 h3).1
    have cc := fun j u hj => World.ownsRow.cells h (g := g) (by rw [h1]; rfl) j u hj
    refine ⟨_, cap, h1, ⟨h4, h5, hi, fun _ => ⟨g, 0, rfl, hg, fun i p hp => ?_⟩⟩⟩
    obtain ⟨k1, k2⟩ := pairsC_get ps i p hp
    have d0 := cc _ _ k1
    have d1 := cc _ _ k2
    rw [add0] at d0 d1
    rw [Nat.zero_add]
    exact ⟨d0, d1⟩
theorem ra_of_mk {b : Nat} {se : Bool} {W w : World} {a : Mka} {v1 v2 v5 vf vl : Value} (h : MkA b (.bool se) W w a v1 v2 v5 vf vl) : RAt w b (raOf se a) where
  lt := h.t.cs.lt
  c0 := h.t.cs.cell 0
  c1 := by
    obtain ⟨cl, ho, hf⟩ := h.t.lo
    obtain ⟨A, cap, rfl, hk⟩ := lv_ks ho hf
    exact ⟨A, cap, h.t.cs.cell 1, hk⟩
  c2 := by
    obtain ⟨A, cap, rfl, hk, _⟩ := h.t.oo.is h.t.oi
    exact ⟨A, cap, h.t.cs.cell 2, hk⟩
  c3 := by
    obtain ⟨A, cap, rfl, hk, _⟩ := h.f.is
    exact ⟨A, cap, h.t.cs.cell 3, hk⟩
  c4 := by
    obtain ⟨A, cap, rfl, hk, _⟩ := h.l.is
    exact ⟨A, cap, h.t.cs.cell 4, hk⟩
  c5 := by
    obtain ⟨A, cap, rfl, hk⟩ := pr_ps h.t.po h.t.pi
    exact ⟨A, cap, h.t.cs.cell 5, hk⟩
  c6 := h.t.cs.cell 6
/-- The document's Make, of right expressions. -/
def MakeR (se : Bool) (ks : List E) (w : World) (r : Ending) (w' : World) : Prop := r = .returned (.pointer (some ⟨w.heap.size, 0, none⟩)) ∧ RAt w' w.heap.size (raOf se (makeL ks 0 mka0)) ∧ Below w.heap.size w w'
theorem makeR_any (se : Bool) (ks : List E) (A : Option Addr) (cap : Nat) (w : World) (hks : KsAt w w.heap.size ks A cap) (hr : ks.all rightE = true) (h80 : szE.szL ks ≤ 80) (hl : leavesE.lvL ks ≤ 80) (h64 : ks.length ≤ 64) :
    Calls Tryd.prog 16 #[.bool se, .slice A ks.length cap] w (MakeR se ks w) := by
  refine (make_any 80 se ks ks.length A cap w.heap.size w rfl (Nat.le_refl _) hks h64 (fun i e he => make_hall hr h80 hl h64 i e he)).mono ?_
  rintro r w' ⟨rfl, W, v1, v2, v5, vf, vl, hm, hb⟩
  exact ⟨rfl, ra_of_mk hm, hb⟩
end Go.Proofs.YtmldgfplnacecaaDoor

namespace Go.Proofs.YtmldgfplnacecaaDoor
open Go.RowKit Go.Shelf Go.Lib Go.Great Go.Maps

theorem take_eq_snoc {xs ys : List Int} {k : Nat} {x y : Int} (h : xs.take k = ys.take k) (hx : xs[k]? = some x) (hy : ys[k]? = some y) (he : x = y) : xs.take (k + 1) = ys.take (k + 1) := by
  rw [List.take_add_one, List.take_add_one, h, hx, hy, he]
set_option maxHeartbeats 4000000 in
set_option maxRecDepth 100000 in
theorem is_any (xs ys : List Int) (A A' : Option Addr) (cap cap' : Nat) (w : World) (hx : IS w w.heap.size xs A cap) (hy : IS w w.heap.size ys A' cap') :
    Calls Tryd.prog 19 #[.slice A xs.length cap, .slice A' ys.length cap'] w fun r w' => r = .returned (.bool (decide (xs = ys))) ∧ Below w.heap.size w w' := by
  have hl1 : xs.length ≤ 9223372036854775807 := by have := hx.l; have := hx.m; unfold maxLen at this; omega
  obtain ⟨R, hR⟩ : ∃ R, decide (xs = ys) = R := ⟨_, rfl⟩
  obtain ⟨N, hN⟩ : ∃ N, xs.length = N := ⟨_, rfl⟩
  obtain ⟨M, hM⟩ : ∃ M, ys.length = M := ⟨_, rfl⟩
  rw [hN] at hl1
  rw [hR, hN, hM]
  have HH := Lib.hid (And.intro hx (And.intro hy (And.intro hR (And.intro hN hM))))
  clear hx hy hR hN hM
  by_cases hlen : N = M
  · subst hlen
    go_enter Tryd.func19, Tryd.ntmps19
    go_wp2_with fail
    go_loopw [5] (fun i wr => ∃ k : Nat, i = .int .i64 (k : Int) ∧ k ≤ N ∧ xs.take k = ys.take k ∧ Below w.heap.size w wr) (fun i _ => N - (RowKit.intOf i).toNat)
    case atStart => exact ⟨0, rfl, by omega, by simp, Below.refl _ _⟩
    case round =>
      obtain ⟨k, rfl, hk, htk, hb⟩ := hrel
      by_cases hlt : k < N
      · have i1 : (k : Int) < (N : Int) := by omega
        obtain ⟨x, hx⟩ : ∃ x, xs[k]? = some x := ⟨xs[k]'(by rw [HH.out.2.2.2.1]; exact hlt), List.getElem?_eq_getElem _⟩
        obtain ⟨y, hy⟩ : ∃ y, ys[k]? = some y := ⟨ys[k]'(by rw [HH.out.2.2.2.2]; exact hlt), List.getElem?_eq_getElem _⟩
        obtain ⟨b, o, rfl, hbl, hc⟩ := HH.out.1.r (by rintro rfl; simp at hx)
        obtain ⟨b', o', rfl, hbl', hc'⟩ := HH.out.2.1.r (by rintro rfl; simp at hy)
        have d0 : wr.cell? ⟨b, o + k, none⟩ = some (.int .i64 x) := (hb.cell (p := ⟨b, o + k, none⟩) hbl).trans (hc k x hx)
        have d1 : wr.cell? ⟨b', o' + k, none⟩ = some (.int .i64 y) := (hb.cell (p := ⟨b', o' + k, none⟩) hbl').trans (hc' k y hy)
        have HK := Lib.hid (And.intro htk (And.intro hb (And.intro hx hy)))
        clear htk hb hc hc' hx hy
        by_cases he : x = y
        · have hq : (x == y) = true := by simpa using he
          have HE := Lib.hid he
          clear he
          go_wp2_with fail
          go_region
          go_wp2_with fail
          go_roundw
          case rel => exact ⟨k + 1, by go_num, by omega, take_eq_snoc HK.out.1 HK.out.2.2.1 HK.out.2.2.2 HE.out, HK.out.2.1.drew⟩
          case measure => simp [RowKit.intOf]; omega
        · have hq : (x == y) = false := by simpa using he
          have : R = false := by
            rw [← HH.out.2.2.1]
            simp only [decide_eq_false_iff_not]
            intro e
            have h1 := HK.out.2.2.1
            rw [e, HK.out.2.2.2] at h1
            injection h1 with h1
            exact he h1.symm
          subst this
          clear he
          go_wp2_with fail
          go_region
          go_wp2_with fail
          go_ret
          exact ⟨rfl, HK.out.2.1.drew⟩
      · obtain rfl : k = N := by omega
        have i1 : ¬ (k : Int) < (k : Int) := by omega
        have : R = true := by
          rw [← HH.out.2.2.1]
          have e1 : xs.take k = xs := by rw [← HH.out.2.2.2.1, List.take_length]
          have e2 : ys.take k = ys := by rw [← HH.out.2.2.2.2, List.take_length]
          rw [e1, e2] at htk
          simp [htk]
        subst this
        have HB := Lib.hid hb
        clear hb htk
        go_wp2_with fail
        go_ret
        exact ⟨rfl, HB.out⟩
  · have hq : ((N : Int) == (M : Int)) = false := by simp; omega
    have : R = false := by
      rw [← HH.out.2.2.1]
      simp only [decide_eq_false_iff_not]
      intro e
      have := HH.out.2.2.2
      rw [e] at this
      omega
    subst this
    go_enter Tryd.func19, Tryd.ntmps19
    go_wp2_with fail
    go_ret
    exact ⟨rfl, Below.refl _ _⟩
end Go.Proofs.YtmldgfplnacecaaDoor

namespace Go.Proofs.YtmldgfplnacecaaDoor
open Go.RowKit Go.Shelf Go.Lib Go.Great Go.Maps

theorem ex_fault : faultL [seqEx] = 0 := by decide +kernel
theorem ex_count : (mkN [seqEx]).count = 3 := by decide +kernel
theorem ex_steps : posI (stepM true (mkN [seqEx]) (posI (stepM true (mkN [seqEx]) [0] 11)) 12) = [0, 2] := by decide +kernel
theorem ex_tells : tellsU (mkN [seqEx]) [0, 2] = 1 := by decide +kernel
theorem nd_leaf {w : World} {B : Nat} (k c : Int) (hk : i64 k) (hc : i64 c) : Nd w B (.mk k c []) (.agg #[.int .i64 k, .int .i64 c, .slice none 0 0]) :=
  Nd_iff.2 ⟨hk, hc, none, 0, rfl, ⟨by simp [E.ks], by simp, fun _ => rfl, fun h => absurd rfl h⟩⟩
theorem ex_at (w W1 W2 W3 W4 : World) (hW1 : w.alloc (.cells #[.int .i64 0, .int .i64 12, .slice none 0 0] 91) = W1)
    (hW2 : W1.alloc (.cells #[.int .i64 0, .int .i64 11, .slice none 0 0, .int .i64 6, .int .i64 0, .slice (some ⟨w.heap.size, 0, none⟩) 1 1] 91) = W2)
    (hW3 : W2.alloc (.cells #[.int .i64 4, .int .i64 0, .slice (some ⟨w.heap.size + 1, 0, none⟩) 2 2] 91) = W3)
    (hW4 : W3.alloc (.cells #[.int .i64 4, .int .i64 0, .slice (some ⟨w.heap.size + 1, 0, none⟩) 2 2] 91) = W4) :
    KsAt W4 W4.heap.size [seqEx] (some ⟨w.heap.size + 1 + 1 + 1, 0, none⟩) 1 ∧ Below w.heap.size w W4 := by
  have z1 : W1.heap.size = w.heap.size + 1 := by rw [← hW1]; simp
  have z2 : W2.heap.size = w.heap.size + 1 + 1 := by rw [← hW2]; simp [z1]
  have z3 : W3.heap.size = w.heap.size + 1 + 1 + 1 := by rw [← hW3]; simp [z2]
  have z4 : W4.heap.size = w.heap.size + 1 + 1 + 1 + 1 := by rw [← hW4]; simp [z3]
  have b1 : Below w.heap.size w W1 := by rw [← hW1]; exact below_new _ _
  have b2 : Below W1.heap.size W1 W2 := by rw [← hW2]; exact below_new _ _
  have b3 : Below W2.heap.size W2 W3 := by rw [← hW3]; exact below_new _ _
  have b4 : Below W3.heap.size W3 W4 := by rw [← hW4]; exact below_new _ _
  have y1 : Cells W4 w.heap.size 91 #[.int .i64 0, .int .i64 12, .slice none 0 0] :=
    (b4.block _ (by omega)).trans ((b3.block _ (by omega)).trans ((b2.block _ (by omega)).trans (by rw [← hW1]; exact cells_new _ _ _)))
  have y2 : Cells W4 (w.heap.size + 1) 91 #[.int .i64 0, .int .i64 11, .slice none 0 0, .int .i64 6, .int .i64 0, .slice (some ⟨w.heap.size, 0, none⟩) 1 1] :=
    (b4.block _ (by omega)).trans ((b3.block _ (by omega)).trans (by rw [← hW2, ← z1]; exact cells_new _ _ _))
  have y4 : Cells W4 (w.heap.size + 1 + 1 + 1) 91 #[.int .i64 4, .int .i64 0, .slice (some ⟨w.heap.size + 1, 0, none⟩) 2 2] := by rw [← hW4, ← z3]; exact cells_new _ _ _
  have k1 : KsAt W4 W4.heap.size [.mk 0 12 []] (some ⟨w.heap.size, 0, none⟩) 1 :=
    ⟨by simp, by unfold maxLen; omega, by simp, fun _ => ⟨_, 0, rfl, by omega, ⟨⟨_, _, _, y1.cell 0, y1.cell 1, y1.cell 2, nd_leaf 0 12 (by unfold i64; omega) (by unfold i64; omega)⟩, trivial⟩⟩⟩
  have k2 : KsAt W4 W4.heap.size [.mk 0 11 [], .mk 6 0 [.mk 0 12 []]] (some ⟨w.heap.size + 1, 0, none⟩) 2 :=
    ⟨by simp, by unfold maxLen; omega, by simp, fun _ => ⟨_, 0, rfl, by omega, ⟨⟨_, _, _, y2.cell 0, y2.cell 1, y2.cell 2, nd_leaf 0 11 (by unfold i64; omega) (by unfold i64; omega)⟩,
      ⟨_, _, _, y2.cell 3, y2.cell 4, y2.cell 5, Nd_iff.2 ⟨by unfold i64; simp [E.k], by unfold i64; simp [E.c], _, _, rfl, k1⟩⟩, trivial⟩⟩⟩
  exact ⟨⟨by simp, by unfold maxLen; omega, by simp, fun _ => ⟨_, 0, rfl, by omega, ⟨⟨_, _, _, y4.cell 0, y4.cell 1, y4.cell 2, Nd_iff.2 ⟨show i64 4 from by unfold i64; omega, show i64 0 from by unfold i64; omega, _, _, rfl, k2⟩⟩, trivial⟩⟩⟩,
    b1.trans ((b2.mono (by omega)).trans ((b3.mono (by omega)).trans (b4.mono (by omega))))⟩
theorem news2_cells (w : World) : IS (w.alloc (.cells #[.int .i64 0, .int .i64 2] 3)) (w.alloc (.cells #[.int .i64 0, .int .i64 2] 3)).heap.size [0, 2] (some ⟨w.heap.size, 0, none⟩) 2 :=
  ⟨by simp, by unfold maxLen; omega, fun x hx => by simp at hx; rcases hx with rfl | rfl <;> (unfold i64; omega), fun _ => ⟨_, 0, rfl, by simp, fun i x hx => by
    match i, hx with
    | 0, hx => simp at hx; subst hx; rw [World.cell?_alloc_new]; rfl
    | 1, hx => simp at hx; subst hx; rw [World.cell?_alloc_new]; rfl
    | i + 2, hx => simp at hx⟩⟩
set_option maxHeartbeats 4000000 in
set_option maxRecDepth 100000 in
theorem awake_any (w : World) (hT : TZ w) : Calls Tryd.prog 12 #[] w fun r w' => r = .returned (.bool true) ∧ Below w.heap.size w w' := by
  obtain ⟨W1, hW1⟩ : ∃ W, w.alloc (.cells #[.int .i64 0, .int .i64 12, .slice none 0 0] 91) = W := ⟨_, rfl⟩
  obtain ⟨W2, hW2⟩ : ∃ W, W1.alloc (.cells #[.int .i64 0, .int .i64 11, .slice none 0 0, .int .i64 6, .int .i64 0, .slice (some ⟨w.heap.size, 0, none⟩) 1 1] 91) = W := ⟨_, rfl⟩
  obtain ⟨W3, hW3⟩ : ∃ W, W2.alloc (.cells #[.int .i64 4, .int .i64 0, .slice (some ⟨w.heap.size + 1, 0, none⟩) 2 2] 91) = W := ⟨_, rfl⟩
  obtain ⟨W4, hW4⟩ : ∃ W, W3.alloc (.cells #[.int .i64 4, .int .i64 0, .slice (some ⟨w.heap.size + 1, 0, none⟩) 2 2] 91) = W := ⟨_, rfl⟩
  obtain ⟨hk, hb4⟩ := ex_at w W1 W2 W3 W4 hW1 hW2 hW3 hW4
  have hT4 := hT.below hb4 hT.lt
  have C := Lib.hid (new_any true [seqEx] _ 1 W4 hk ex_fault hT4)
  have HW := Lib.hid (And.intro hW1 (And.intro hW2 (And.intro hW3 hW4)))
  have H4 := Lib.hid (And.intro hb4 (And.intro hT hT4))
  clear hW1 hW2 hW3 hW4 hk hb4 hT hT4
  go_enter Tryd.func12, Tryd.ntmps12
  go_wp2_with fail
  rw [HW.out.1, HW.out.2.1, HW.out.2.2.1, HW.out.2.2.2]
  refine C.out.mono ?_
  rintro r w5 ⟨q, n, rfl, hq, hn5, hb5⟩
  have hbw5 := H4.out.1.trans (hb5.mono H4.out.1.size)
  have hT5 := H4.out.2.1.below hbw5 H4.out.2.1.lt
  have H5 := Lib.hid (And.intro hn5 (And.intro hbw5 hT5))
  clear hq hn5 hb5 hbw5 hT5
  go_wp2_with fail
  refine (begin_any q.b w5).mono ?_
  rintro r w6 ⟨rfl, hw6⟩
  have bb : Below w5.heap.size w5 w6 := by rw [hw6]; exact below_new _ _
  have i6 : IS w6 w6.heap.size [0] (some ⟨w5.heap.size, 0, none⟩) 1 := by rw [hw6]; exact is_begin w5
  have n6 := H5.out.1.below bb
  have b6 := H5.out.2.1.trans (bb.mono H5.out.2.1.size)
  have t6 := H5.out.2.2.below bb H5.out.2.2.lt
  have C6 := Lib.hid (step_any n6 t6 [0] _ 1 i6 11 (by unfold i64; omega))
  have H6 := Lib.hid (And.intro n6 (And.intro b6 t6))
  clear hw6 bb i6 n6 b6 t6
  go_wp2_with fail
  refine C6.out.mono ?_
  rintro r w7 ⟨v7, rfl, ho7, hb7⟩
  obtain ⟨A7, c7, rfl, i7⟩ := ho7.is
  have n7 := H6.out.1.below hb7
  have b7 := H6.out.2.1.trans (hb7.mono H6.out.2.1.size)
  have t7 := H6.out.2.2.below hb7 H6.out.2.2.lt
  have C7 := Lib.hid (step_any n7 t7 _ A7 c7 i7 12 (by unfold i64; omega))
  have H7 := Lib.hid (And.intro n7 (And.intro b7 t7))
  clear i7 n7 b7 t7 hb7 ho7
  go_wp2_with fail
  refine C7.out.mono ?_
  rintro r w8 ⟨v8, rfl, ho8, hb8⟩
  obtain ⟨A8, c8, rfl, i8⟩ := ho8.is
  rw [ex_steps] at i8 ⊢
  have n8 := H7.out.1.below hb8
  have b8 := H7.out.2.1.trans (hb8.mono H7.out.2.1.size)
  have H8 := Lib.hid (And.intro n8 (And.intro b8 i8))
  clear i8 n8 b8 hb8 ho8
  go_wp2_with fail
  refine (count_nfa H8.out.1).mono ?_
  rintro r w9 ⟨rfl, rfl⟩
  rw [ex_count]
  obtain ⟨w10, hw10⟩ : ∃ W, w9.alloc (.cells #[.int .i64 0, .int .i64 2] 3) = W := ⟨_, rfl⟩
  have bb : Below w9.heap.size w9 w10 := by rw [← hw10]; exact below_new _ _
  have i10 : IS w10 w10.heap.size [0, 2] (some ⟨w9.heap.size, 0, none⟩) 2 := by rw [← hw10]; exact news2_cells w9
  have H10 := Lib.hid (And.intro hw10 (And.intro (H8.out.1.below bb) (And.intro (H8.out.2.1.trans (bb.mono H8.out.2.1.size)) (And.intro (H8.out.2.2.on bb) i10))))
  clear hw10 bb i10
  go_wp2_with fail
  rw [H10.out.1]
  refine (is_any [0, 2] [0, 2] A8 _ c8 2 w10 H10.out.2.2.2.1 H10.out.2.2.2.2).mono ?_
  rintro r w11 ⟨rfl, hb11⟩
  have H11 := Lib.hid (And.intro (H10.out.2.1.below hb11) (And.intro (H10.out.2.2.1.trans (hb11.mono H10.out.2.2.1.size)) (H10.out.2.2.2.1.on hb11)))
  clear hb11
  rw [show decide (([0, 2] : List Int) = [0, 2]) = true by decide]
  go_wp2_with fail
  refine (tells_any H11.out.1 [0, 2] A8 c8 H11.out.2.2).mono ?_
  rintro r w12 ⟨rfl, rfl⟩
  rw [ex_tells]
  go_wp2_with fail
  go_ret
  exact ⟨rfl, H11.out.2.1⟩
end Go.Proofs.YtmldgfplnacecaaDoor

namespace Go.Proofs.YtmldgfplnacecaaDoor
open Go.RowKit Go.Shelf Go.Lib

def NdP (w : World) (S : Nat → Prop) : E → Value → Prop
  | .mk k c ks, v => i64 k ∧ i64 c ∧ ∃ A cap, v = .agg #[.int .i64 k, .int .i64 c, .slice A ks.length cap] ∧ ks.length ≤ cap ∧ cap ≤ maxLen ∧ (A = none → cap = 0) ∧ (ks ≠ [] → ∃ b o, A = some ⟨b, o, none⟩ ∧ S b ∧ Row w S b o ks)
where Row (w : World) (S : Nat → Prop) (b : Nat) : Nat → List E → Prop
  | _, [] => True
  | o, e :: r => (∃ x y z, w.cell? ⟨b, o, none⟩ = some x ∧ w.cell? ⟨b, o + 1, none⟩ = some y ∧ w.cell? ⟨b, o + 2, none⟩ = some z ∧ NdP w S e (.agg #[x, y, z])) ∧ Row w S b (o + 3) r
structure KsP (w : World) (S : Nat → Prop) (ks : List E) (A : Option Addr) (cap : Nat) : Prop where
  l : ks.length ≤ cap
  m : cap ≤ maxLen
  z : A = none → cap = 0
  r : ks ≠ [] → ∃ b o, A = some ⟨b, o, none⟩ ∧ S b ∧ NdP.Row w S b o ks
theorem NdP_iff {w : World} {S : Nat → Prop} {e : E} {v : Value} : NdP w S e v ↔ i64 e.k ∧ i64 e.c ∧ ∃ A cap, v = .agg #[.int .i64 e.k, .int .i64 e.c, .slice A e.ks.length cap] ∧ KsP w S e.ks A cap := by
  cases e with
  | mk k c ks =>
    show (i64 k ∧ i64 c ∧ _) ↔ (i64 k ∧ i64 c ∧ _)
    constructor
    · rintro ⟨h1, h2, A, cap, rfl, h3, h4, h5, h6⟩
      exact ⟨h1, h2, A, cap, rfl, h3, h4, h5, h6⟩
    · rintro ⟨h1, h2, A, cap, rfl, h3, h4, h5, h6⟩
      exact ⟨h1, h2, A, cap, rfl, h3, h4, h5, h6⟩
theorem rowP_get {w : World} {S : Nat → Prop} {b : Nat} {ks : List E} : ∀ {o i : Nat} {e : E}, NdP.Row w S b o ks → ks[i]? = some e →
    ∃ x y z, w.cell? ⟨b, o + i * 3, none⟩ = some x ∧ w.cell? ⟨b, o + i * 3 + 1, none⟩ = some y ∧ w.cell? ⟨b, o + i * 3 + 2, none⟩ = some z ∧ NdP w S e (.agg #[x, y, z]) := by
  induction ks with
  | nil => intro o i e _ h; simp at h
  | cons a r ih =>
    rintro o i e ⟨h1, h2⟩ h
    cases i with
    | zero =>
      obtain rfl : a = e := by simpa using h
      simpa using h1
    | succ i =>
      have := ih h2 (show r[i]? = some e by simpa using h)
      rw [show o + (i + 1) * 3 = o + 3 + i * 3 by omega]
      exact this
theorem rowP_of {w : World} {S : Nat → Prop} {b : Nat} {ks : List E} : ∀ {o : Nat}, (∀ i e, ks[i]? = some e →
    ∃ x y z, w.cell? ⟨b, o + i * 3, none⟩ = some x ∧ w.cell? ⟨b, o + i * 3 + 1, none⟩ = some y ∧ w.cell? ⟨b, o + i * 3 + 2, none⟩ = some z ∧ NdP w S e (.agg #[x, y, z])) → NdP.Row w S b o ks := by
  induction ks with
  | nil => intro o _; exact trivial
  | cons a r ih =>
    intro o h
    refine ⟨by simpa using h 0 a rfl, ih fun i e hi => ?_⟩
    have := h (i + 1) e (by simpa using hi)
    rw [show o + (i + 1) * 3 = o + 3 + i * 3 by omega] at this
    exact this
theorem NdP.carry {w w' : World} {S S' : Nat → Prop} (hS : ∀ b, S b → S' b) (hc : ∀ b o v, S b → w.cell? ⟨b, o, none⟩ = some v → w'.cell? ⟨b, o, none⟩ = some v) :
    ∀ n e v, szE e ≤ n → NdP w S e v → NdP w' S' e v := by
  intro n
  induction n with
  | zero => intro e v h; have := szE_pos e; omega
  | succ n ih =>
    intro e v hn h
    obtain ⟨h1, h2, A, cap, rfl, hk⟩ := NdP_iff.1 h
    refine NdP_iff.2 ⟨h1, h2, A, cap, rfl, hk.l, hk.m, hk.z, fun hne => ?_⟩
    obtain ⟨b, o, rfl, hb, hr⟩ := hk.r hne
    refine ⟨b, o, rfl, hS b hb, rowP_of fun i f hf => ?_⟩
    obtain ⟨x, y, z, c1, c2, c3, hN⟩ := rowP_get hr hf
    exact ⟨x, y, z, hc _ _ _ hb c1, hc _ _ _ hb c2, hc _ _ _ hb c3, ih f _ (by have := szE_kid (List.mem_of_getElem? hf); omega) hN⟩
/-- In a world in which those blocks are as they were. -/
theorem NdP.blocks {w w' : World} {S S' : Nat → Prop} {e : E} {v : Value} (h : NdP w S e v) (hS : ∀ b, S b → S' b) (hb : ∀ b, S b → w'.heap[b]? = w.heap[b]?) : NdP w' S' e v :=
  h.carry hS (fun b o _u hs hu => (World.cell?_of_block (w := w) (w' := w') (a := ⟨b, o, none⟩) (hb b hs)).trans hu) _ _ _ (Nat.le_refl _)
theorem KsP.blocks {w w' : World} {S S' : Nat → Prop} {ks : List E} {A : Option Addr} {cap : Nat} (h : KsP w S ks A cap) (hS : ∀ b, S b → S' b) (hb : ∀ b, S b → w'.heap[b]? = w.heap[b]?) : KsP w' S' ks A cap :=
  ⟨h.l, h.m, h.z, fun hne => by
    obtain ⟨b, o, rfl, hbs, hr⟩ := h.r hne
    have cc := fun o v (hu : w.cell? ⟨b, o, none⟩ = some v) => (World.cell?_of_block (w := w) (w' := w') (a := ⟨b, o, none⟩) (hb b hbs)).trans hu
    refine ⟨b, o, rfl, hS b hbs, rowP_of fun i f hf => ?_⟩
    obtain ⟨x, y, z, c1, c2, c3, hN⟩ := rowP_get hr hf
    exact ⟨x, y, z, cc _ _ c1, cc _ _ c2, cc _ _ c3, hN.blocks hS hb⟩⟩
theorem KsP.ks {w : World} {S : Nat → Prop} {B : Nat} {ks : List E} {A : Option Addr} {cap : Nat} (h : KsP w S ks A cap) (hS : ∀ b, S b → b < B) (nd : ∀ e v, NdP w S e v → Nd w B e v) : KsAt w B ks A cap :=
  ⟨h.l, h.m, h.z, fun hne => by
    obtain ⟨b, o, rfl, hbs, hr⟩ := h.r hne
    refine ⟨b, o, rfl, hS b hbs, row_of fun i f hf => ?_⟩
    obtain ⟨x, y, z, c1, c2, c3, hN⟩ := rowP_get hr hf
    exact ⟨x, y, z, c1, c2, c3, nd _ _ hN⟩⟩
theorem NdP.nd {w : World} {S : Nat → Prop} {B : Nat} (hS : ∀ b, S b → b < B) : ∀ n e v, szE e ≤ n → NdP w S e v → Nd w B e v := by
  intro n
  induction n with
  | zero => intro e v h; have := szE_pos e; omega
  | succ n ih =>
    intro e v hn h
    obtain ⟨h1, h2, A, cap, rfl, hk⟩ := NdP_iff.1 h
    refine Nd_iff.2 ⟨h1, h2, A, cap, rfl, hk.l, hk.m, hk.z, fun hne => ?_⟩
    obtain ⟨b, o, rfl, hb, hr⟩ := hk.r hne
    refine ⟨b, o, rfl, hS b hb, row_of fun i f hf => ?_⟩
    obtain ⟨x, y, z, c1, c2, c3, hN⟩ := rowP_get hr hf
    exact ⟨x, y, z, c1, c2, c3, ih f _ (by have := szE_kid (List.mem_of_getElem? hf); omega) hN⟩
/-- The parts that were turned so far: their cells in the row, what they are; the row is none of their blocks. -/
def Kids (w : World) (base : Nat) (v : Value) (ks : List E) (j : Nat) (cs : List Value) : Prop :=
  cs.length = j * 3 ∧ ∀ i f, i < j → ks[i]? = some f → ∃ x y z, cs[i * 3]? = some x ∧ cs[i * 3 + 1]? = some y ∧ cs[i * 3 + 2]? = some z ∧ NdP w (fun b => base ≤ b ∧ b < w.heap.size ∧ v.ownBlock ≠ some b) f (.agg #[x, y, z])
theorem Kids.step {w w5 w7 : World} {base : Nat} {v v7 : Value} {ks : List E} {j g : Nat} {cs : List Value} {f : E} {k5 c5 s5 : Value} (h : Kids w base v ks j cs) (hf : ks[j]? = some f)
    (hown : ∀ b, v.ownBlock = some b → b < w.heap.size) (h5 : NdP w5 (fun b => w.heap.size ≤ b ∧ b < w5.heap.size) f (.agg #[k5, c5, s5])) (hb5 : Below w.heap.size w w5) (hbase : base ≤ w.heap.size)
    (hg7 : w5.grownBy w7 v.ownBlock) (hv7 : v7.ownBlock = some g) (hg : v.ownBlock = some g ∨ w5.heap.size ≤ g) : Kids w7 base v7 ks (j + 1) (cs ++ [k5, c5, s5]) := by
  refine ⟨by rw [List.length_append, h.1]; simp; omega, fun i e hi he => ?_⟩
  have hs7 := hg7.size
  have hs5 := hb5.size
  by_cases hij : i = j
  · subst hij
    obtain rfl : f = e := by rw [hf] at he; injection he
    refine ⟨k5, c5, s5, ?_, ?_, ?_, h5.blocks (fun b hb => ⟨by omega, by omega, ?_⟩) (fun b hb => hg7.block b hb.2 (fun e' => ?_))⟩
    · rw [List.getElem?_append_right (by rw [h.1]; omega), h.1, show i * 3 - i * 3 = 0 by omega]; rfl
    · rw [List.getElem?_append_right (by rw [h.1]; omega), h.1, show i * 3 + 1 - i * 3 = 1 by omega]; rfl
    · rw [List.getElem?_append_right (by rw [h.1]; omega), h.1, show i * 3 + 2 - i * 3 = 2 by omega]; rfl
    · rw [hv7]
      intro e'
      injection e' with e'
      rcases hg with hg | hg
      · have := hown g hg; omega
      · omega
    · have := hown b e'.symm; omega
  · obtain ⟨x, y, z, c1, c2, c3, hN⟩ := h.2 i e (by omega) he
    have hl := h.1
    refine ⟨x, y, z, by rw [List.getElem?_append_left (by omega)]; exact c1, by rw [List.getElem?_append_left (by omega)]; exact c2, by rw [List.getElem?_append_left (by omega)]; exact c3,
      hN.blocks (fun b hb => ⟨hb.1, by omega, ?_⟩) (fun b hb => (hg7.block b (by omega) (fun e' => hb.2.2 e'.symm)).trans (hb5.block b hb.2.1))⟩
    rw [hv7]
    intro e'
    injection e' with e'
    rcases hg with hg | hg
    · exact hb.2.2 (by rw [hg, e'])
    · omega
theorem Kids.blocks {w w' : World} {base : Nat} {v : Value} {ks : List E} {j : Nat} {cs : List Value} (h : Kids w base v ks j cs) (hb : ∀ b, base ≤ b → b < w.heap.size → w'.heap[b]? = w.heap[b]?) (hs : w.heap.size ≤ w'.heap.size) : Kids w' base v ks j cs :=
  ⟨h.1, fun i f hi hf => by
    obtain ⟨x, y, z, c1, c2, c3, hN⟩ := h.2 i f hi hf
    exact ⟨x, y, z, c1, c2, c3, hN.blocks (fun b hb' => ⟨hb'.1, by omega, hb'.2.2⟩) (fun b hb' => hb b hb'.1 hb'.2.1)⟩⟩
/-- All parts: the list lies in new blocks. -/
theorem Kids.full {w : World} {base : Nat} {v : Value} {ks : List E} {cs : List Value} (h : Kids w base v ks ks.length cs) (hown : w.ownsRow base 91 3 v ks.length cs) :
    ∃ A cap, v = .slice A ks.length cap ∧ KsP w (fun b => base ≤ b ∧ b < w.heap.size) ks A cap := by
  rcases hown.2 with ⟨h1, h2⟩ | ⟨g, cap, cur, h1, h3, h4, h5, h6, h7, h8⟩
  · have : ks = [] := List.eq_nil_of_length_eq_zero h2
    subst this
    exact ⟨none, 0, by rw [h1]; rfl, by simp, by simp, fun _ => rfl, fun hn => absurd rfl hn⟩
  · refine ⟨_, cap, h1, h5, h6, fun e => (by cases e), fun _ => ⟨g, 0, rfl, ⟨h3, (Array.getElem?_eq_some_iff.1 h4).1⟩, rowP_of fun i f hf => ?_⟩⟩
    obtain ⟨x, y, z, c1, c2, c3, hN⟩ := h.2 i f (List.getElem?_eq_some_iff.1 hf).1 hf
    have cc := fun j u hj => World.ownsRow.cells hown (g := g) (by rw [h1]; rfl) j u hj
    have d : ∀ (j : Nat) (u : Value), cs[j]? = some u → w.cell? ⟨g, j, none⟩ = some u := fun j u hj => by have := cc j u hj; rwa [add0] at this
    refine ⟨x, y, z, ?_, ?_, ?_, hN.blocks (fun b hb => ⟨hb.1, hb.2.1⟩) (fun _ _ => rfl)⟩
    · rw [Nat.zero_add]; exact d _ _ c1
    · rw [Nat.zero_add]; exact d _ _ c2
    · rw [Nat.zero_add]; exact d _ _ c3
end Go.Proofs.YtmldgfplnacecaaDoor

namespace Go.Proofs.YtmldgfplnacecaaDoor
open Go.RowKit Go.Shelf Go.Lib Go.Great Go.Maps

def anyE : E := .mk 1 0 []
def exK (k : Nat) : E := .mk 5 0 (List.replicate k anyE)
def bitsF : Nat → Nat → Nat
  | _, 0 => 0
  | c, j + 1 => 2 ^ c ||| bitsF (c + 1) j
theorem rep_alt : ∀ (j : Nat) (s : St) (a : Sp), (altL (List.replicate j anyE) s a).1.next = s.next ∧ (altL (List.replicate j anyE) s a).1.takers 3 = s.takers 3 ||| bitsF s.count j ∧ (altL (List.replicate j anyE) s a).2.first = a.first ||| bitsF s.count j
  | 0, s, a => by simp [altL, readE.altL, bitsF]
  | j + 1, s, a => by
    rw [List.replicate_succ]
    have e : altL (anyE :: List.replicate j anyE) s a = altL (List.replicate j anyE) (s.leaf 1 0) ⟨a.first ||| 2 ^ s.count, a.last ||| 2 ^ s.count, a.empty || false⟩ := rfl
    rw [e]
    obtain ⟨h1, h2, h3⟩ := rep_alt j (s.leaf 1 0) ⟨a.first ||| 2 ^ s.count, a.last ||| 2 ^ s.count, a.empty || false⟩
    refine ⟨h1, ?_, ?_⟩
    · rw [h2]
      have e2 : (s.leaf 1 0).takers 3 = s.takers 3 ||| 2 ^ s.count := rfl
      have e3 : (s.leaf 1 0).count = s.count + 1 := rfl
      rw [e2, e3, Nat.or_assoc]; rfl
    · rw [h3]
      have e3 : (s.leaf 1 0).count = s.count + 1 := rfl
      rw [e3]
      show (a.first ||| 2 ^ s.count) ||| _ = _
      rw [Nat.or_assoc]; rfl
theorem bitsF_bit : ∀ (j c p : Nat), (bitsF c j).testBit p = decide (c ≤ p ∧ p < c + j)
  | 0, c, p => by simp [bitsF]
  | j + 1, c, p => by
    unfold bitsF
    rw [Nat.testBit_or, Nat.testBit_two_pow, bitsF_bit j (c + 1) p]
    by_cases h1 : c = p
    · simp [h1]
    · simp only [h1, decide_false, Bool.false_or]
      congr 1
      apply propext
      omega
theorem posN_bits (k : Nat) : ∀ t, t ≤ 1024 → (posN (bitsF 1 k) t).length = min (t - 1) k
  | 0, _ => by simp [posN]
  | t + 1, h => by
    rw [posN_succ, List.length_append, posN_bits k t (by omega)]
    unfold inM
    rw [bitsF_bit]
    by_cases h1 : 1 ≤ t ∧ t < 1 + k
    · simp only [h1, show t < 1024 by omega, decide_true, Bool.and_self, and_self, if_true, List.length_singleton]
      omega
    · simp only [h1, decide_false, Bool.and_false, Bool.false_eq_true, if_false, List.length_nil]
      omega
theorem mk_exK (k : Nat) : mkN [exK k] = addE st0 (exK k) 1 := rfl
theorem step_exK (k : Nat) : stepM false (mkN [exK k]) [0] 3 = bitsF 1 k := by
  obtain ⟨h1, h2, h3⟩ := rep_alt k st0 ⟨0, 0, false⟩
  have hr : readE (exK k) st0 = altL (List.replicate k anyE) st0 ⟨0, 0, false⟩ := by unfold exK; rw [readE]; simp
  have hn : (addE st0 (exK k) 1).next 0 = bitsF 1 k := by
    have : (addE st0 (exK k) 1).next 0 = ((readE (exK k) st0).1.link 1 (readE (exK k) st0).2.first).next 0 := by
      unfold addE; dsimp only; split <;> rfl
    rw [this, hr]
    unfold St.link
    dsimp only
    rw [h1, h3]
    simp [inM, st0]
  have ht : (addE st0 (exK k) 1).takers 3 = bitsF 1 k := by
    have : (addE st0 (exK k) 1).takers 3 = (readE (exK k) st0).1.takers 3 := by
      unfold addE; dsimp only; split <;> rfl
    rw [this, hr, h2]
    simp [st0]
  unfold stepM
  rw [mk_exK]
  simp only [Bool.false_eq_true, if_false]
  have e1 : nextU (addE st0 (exK k) 1) [0] = bitsF 1 k := by
    unfold nextU nextU
    rw [if_pos (by omega)]
    show (addE st0 (exK k) 1).next 0 ||| 0 = _
    rw [hn]; simp
  have e2 : takersI (addE st0 (exK k) 1) 3 = bitsF 1 k := by
    unfold takersI
    rw [if_pos (by omega)]
    exact ht
  rw [e1, e2, Nat.and_self]
theorem len_exK {k : Nat} (hk : k ≤ 1000) : (posI (stepM false (mkN [exK k]) [0] 3)).length = k := by
  rw [step_exK]
  unfold posI
  rw [List.length_map, posL_eq, posN_bits k 1024 (by omega)]
  omega
theorem good_rep : ∀ k, goodE.all (List.replicate k anyE) = true
  | 0 => rfl
  | k + 1 => by
    rw [List.replicate_succ]
    have e : goodE.all (anyE :: List.replicate k anyE) = (goodE anyE && goodE.all (List.replicate k anyE)) := rfl
    rw [e, good_rep k]
    rfl
theorem sz_rep : ∀ k, szL (List.replicate k anyE) = k
  | 0 => rfl
  | k + 1 => by
    rw [List.replicate_succ]
    have e : szL (anyE :: List.replicate k anyE) = szE anyE + szL (List.replicate k anyE) := rfl
    have e2 : szE anyE = 1 := rfl
    rw [e, sz_rep k, e2]; omega
theorem lv_rep : ∀ k, lvL (List.replicate k anyE) = k
  | 0 => rfl
  | k + 1 => by
    rw [List.replicate_succ]
    have e : lvL (anyE :: List.replicate k anyE) = leavesE anyE + lvL (List.replicate k anyE) := rfl
    have e2 : leavesE anyE = 1 := rfl
    rw [e, lv_rep k, e2]; omega
theorem right_exK {k : Nat} (h2 : 2 ≤ k) (hk : k ≤ 1999) : rightE (exK k) = true := by
  have hs : szE (exK k) = 1 + k := by unfold exK; rw [szE_eq]; simp only [E.ks]; rw [sz_rep]
  have hg : goodE (exK k) = true := by
    unfold exK
    rw [goodE_eq]
    simp only [E.k, E.c, E.ks, List.length_replicate]
    rw [good_rep]
    have : shapedK 5 0 k = true := by unfold shapedK; simp; omega
    rw [this]
    rfl
  rw [rightE_good (e := exK k) (by show (5 : Int) ≠ 9; omega), hg, hs]
  simp; omega
theorem leaves_exK {k : Nat} (h2 : 2 ≤ k) : leavesE (exK k) = k := by
  unfold exK
  rw [leaves_kids (by intro e; have := congrArg List.length e; simp at this; omega), lv_rep]
theorem fault_exK {k : Nat} (h2 : 2 ≤ k) (hk : k ≤ 1999) : faultL [exK k] = if 1000 < 1 + k then 7 else 0 := by
  unfold faultL
  rw [if_neg (by simp), if_neg (by simp [right_exK h2 hk])]
  have : lvL [exK k] = k := by
    have e : lvL [exK k] = leavesE (exK k) + 0 := rfl
    rw [e, leaves_exK h2]; rfl
  rw [this]
theorem count_exK {k : Nat} (h2 : 2 ≤ k) (hk : k ≤ 1999) : (mkN [exK k]).count = k + 1 := by
  have h := mkL_count [exK k] 0 st0 (by simp [right_exK h2 hk])
  have e : lvL [exK k] = leavesE (exK k) + 0 := rfl
  rw [e, leaves_exK h2] at h
  have e2 : st0.count = 1 := rfl
  unfold mkN
  omega
end Go.Proofs.YtmldgfplnacecaaDoor

namespace Go.Proofs.YtmldgfplnacecaaDoor
open Go.RowKit Go.Shelf Go.Lib Go.Great Go.Maps

set_option maxHeartbeats 1000000 in
theorem nil14 (w : World) : Calls Tryd.prog 17 #[.pointer none] w fun r w' => r = .returned (.slice none 0 0) ∧ w' = w := by
  go_enter Tryd.func17, Tryd.ntmps17
  go_wp2_with fail
  go_ret
  exact ⟨rfl, rfl⟩
set_option maxHeartbeats 1000000 in
theorem nil15 (w : World) : Calls Tryd.prog 18 #[.pointer none] w fun r w' => r = .returned (.int .i64 0) ∧ w' = w := by
  go_enter Tryd.func18, Tryd.ntmps18
  go_wp2_with fail
  go_ret
  exact ⟨rfl, rfl⟩
set_option maxHeartbeats 1000000 in
theorem nil17 (v : Value) (w : World) : Calls Tryd.prog 20 #[.pointer none, v] w fun r w' => r = .returned (.int .u64 0) ∧ w' = w := by
  go_enter Tryd.func20, Tryd.ntmps20
  go_wp2_with fail
  go_ret
  exact ⟨rfl, rfl⟩
set_option maxHeartbeats 1000000 in
theorem nil19 (v : Value) (m : Int) (w : World) : Calls Tryd.prog 22 #[.pointer none, v, .int .i64 m] w fun r w' => r = .returned (.slice none 0 0) ∧ w' = w := by
  go_enter Tryd.func22, Tryd.ntmps22
  go_wp2_with fail
  go_ret
  exact ⟨rfl, rfl⟩
theorem info52 : (Tryd.prog.info? 91).map (fun i => (i.zero, i.size, i.bytes)) = some (some (.agg #[.int .i64 0, .int .i64 0, .slice none 0 0]), 3, 40) := by kernel_rfl
def anyC : List Value := [.int .i64 1, .int .i64 0, .slice none 0 0]
def cellsA : Nat → List Value
  | 0 => []
  | j + 1 => cellsA j ++ anyC
theorem cellsA_len : ∀ j, (cellsA j).length = 3 * j
  | 0 => rfl
  | j + 1 => by unfold cellsA; rw [List.length_append, cellsA_len j]; simp [anyC]; omega
theorem cellsA_get : ∀ (j i : Nat), i < j → (cellsA j)[i * 3]? = some (.int .i64 1) ∧ (cellsA j)[i * 3 + 1]? = some (.int .i64 0) ∧ (cellsA j)[i * 3 + 2]? = some (.slice none 0 0)
  | 0, i, h => by omega
  | j + 1, i, h => by
    have hl := cellsA_len j
    unfold cellsA
    by_cases e : i = j
    · subst e
      refine ⟨?_, ?_, ?_⟩
      · rw [List.getElem?_append_right (by omega), hl, show i * 3 - 3 * i = 0 by omega]; rfl
      · rw [List.getElem?_append_right (by omega), hl, show i * 3 + 1 - 3 * i = 1 by omega]; rfl
      · rw [List.getElem?_append_right (by omega), hl, show i * 3 + 2 - 3 * i = 2 by omega]; rfl
    · obtain ⟨h1, h2, h3⟩ := cellsA_get j i (by omega)
      exact ⟨by rw [List.getElem?_append_left (by omega)]; exact h1, by rw [List.getElem?_append_left (by omega)]; exact h2, by rw [List.getElem?_append_left (by omega)]; exact h3⟩
theorem owns_form {w : World} {base e size n : Nat} {v : Value} {xs : List Value} (h : w.ownsRow base e size v n xs) : ∃ A cap, v = .slice A n cap := by
  rcases h.2 with ⟨h1, h2⟩ | ⟨g, c, _, h1, _⟩
  · exact ⟨none, 0, by rw [h1, h2]⟩
  · exact ⟨_, c, h1⟩
/-- The row of parts, and the node about it. -/
theorem exK_at {w : World} {base K : Nat} {v : Value} (h : w.ownsRow base 91 3 v K (cellsA K)) (h2 : 2 ≤ K) (W : World) (hW : w.alloc (.cells #[.int .i64 5, .int .i64 0, v] 91) = W) :
    KsAt W W.heap.size [exK K] (some ⟨w.heap.size, 0, none⟩) 1 := by
  have bb : Below w.heap.size w W := by rw [← hW]; exact below_new _ _
  have hz : W.heap.size = w.heap.size + 1 := by rw [← hW]; simp
  have y : Cells W w.heap.size 91 #[.int .i64 5, .int .i64 0, v] := by rw [← hW]; exact cells_new _ _ _
  have hrow : ∃ A cap, v = .slice A K cap ∧ KsAt W W.heap.size (List.replicate K anyE) A cap := by
    rcases h.2 with ⟨h1, h3⟩ | ⟨g, cap, cur, h1, h3, h4, h5, h6, h7, h8⟩
    · omega
    · refine ⟨_, cap, h1, ⟨by simp; exact h5, h6, by simp, fun _ => ⟨g, 0, rfl, by have := (Array.getElem?_eq_some_iff.1 h4).1; omega, row_of fun i e he => ?_⟩⟩⟩
      have hi : i < K := by have := (List.getElem?_eq_some_iff.1 he).1; simpa using this
      have hee : e = anyE := by simp [hi] at he; exact he.symm
      subst hee
      obtain ⟨c1, c2, c3⟩ := cellsA_get K i hi
      have cc := fun j u hj => World.ownsRow.cells h (g := g) (by rw [h1]; rfl) j u hj
      have d : ∀ (j : Nat) (u : Value), (cellsA K)[j]? = some u → W.cell? ⟨g, j, none⟩ = some u := fun j u hj =>
        (bb.cell (p := ⟨g, j, none⟩) (Array.getElem?_eq_some_iff.1 h4).1).trans (by have := cc j u hj; rwa [add0] at this)
      refine ⟨_, _, _, ?_, ?_, ?_, nd_leaf 1 0 (by unfold i64; omega) (by unfold i64; omega)⟩
      · rw [Nat.zero_add]; exact d _ _ c1
      · rw [Nat.zero_add]; exact d _ _ c2
      · rw [Nat.zero_add]; exact d _ _ c3
  obtain ⟨A, cap, rfl, hk⟩ := hrow
  refine ⟨by simp, by unfold maxLen; omega, by simp, fun _ => ⟨_, 0, rfl, by omega, ⟨⟨_, _, _, y.cell 0, y.cell 1, y.cell 2, Nd_iff.2 ⟨show i64 5 from by unfold i64; omega, show i64 0 from by unfold i64; omega, A, cap, ?_, hk⟩⟩, trivial⟩⟩⟩
  simp [exK, E.k, E.c, E.ks]
end Go.Proofs.YtmldgfplnacecaaDoor

