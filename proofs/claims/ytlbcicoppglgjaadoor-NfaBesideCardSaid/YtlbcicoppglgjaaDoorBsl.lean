/-
  Contract: virgulelaw08.To, whose answer is the caller's own; a list of expressions appended to one of the call's own.
-/
import Derived.Test.YtlbcicoppglgjaaDoorTol
import Derived.Laws.AppendOwnNone
namespace Go.Proofs.YtlbcicoppglgjaaDoor
open Go.RowKit Go.Shelf Go.Lib

def ToLOwn (w : World) (ks : List E) (r : Ending) (w' : World) : Prop := ∃ v cs, r = .returned v ∧ (0 < ks.length ∨ v = .slice none 0 0) ∧ w'.ownsRow w.heap.size 52 3 v ks.length cs ∧ Kids w' w.heap.size v ks ks.length cs ∧ Below w.heap.size w w'
set_option maxHeartbeats 8000000 in
set_option maxRecDepth 100000 in
theorem toL_own (ks : List E) (hz : szL ks ≤ 100000) (A : Option Addr) (cap : Nat) (w : World) (h : KsAt w w.heap.size ks A cap) : Calls Tryd.prog 11 #[.slice A ks.length cap] w (ToLOwn w ks) := by
  obtain ⟨i0, hi, hz0, hz1, hz2⟩ := info_parts info52
  have hln : ks.length ≤ 100000 := Nat.le_trans (len_le_szL ks) hz
  obtain ⟨n, hn⟩ : ∃ n, ks.length = n := ⟨_, rfl⟩
  have HN := Lib.hid hn
  have HA := Lib.hid (And.intro h hz)
  rw [hn] at hln ⊢
  clear hn h hz
  go_enter Tryd.func11, Tryd.ntmps11
  go_wp2_with fail
  go_loopw [3, 4] (fun u v wr => ∃ (j : Nat) (cs : List Value), v = .int .i64 (j : Int) ∧ j ≤ n ∧ (0 < j ∨ u = .slice none 0 0) ∧ Below w.heap.size w wr ∧ wr.ownsRow w.heap.size 52 3 u j cs ∧ Kids wr w.heap.size u ks j cs) (fun _ v _ => n - (RowKit.intOf v).toNat)
  case atStart => exact ⟨0, [], rfl, by omega, .inr rfl, Below.refl _ _, World.ownsRow_nil _ _ _ _, rfl, fun i f hi => by omega⟩
  case round =>
    obtain ⟨j, cs, rfl, hj, hnil, hb, hown, hkids⟩ := hrel
    by_cases hlt : j < n
    · clear hnil
      have i1 : (j : Int) < (n : Int) := by omega
      obtain ⟨f, hf⟩ : ∃ f, ks[j]? = some f := ⟨ks[j]'(by rw [HN.out]; exact hlt), List.getElem?_eq_getElem _⟩
      obtain ⟨b, o, rfl, hbl, hr⟩ := HA.out.1.r (by rintro rfl; simp at hf)
      obtain ⟨A', cap', c0, c1, c2, hNd⟩ := row_get' hr hf
      have d0 := (hb.cell (p := ⟨b, o + j * 3, none⟩) hbl).trans c0
      have d1 := (hb.cell (p := ⟨b, o + j * 3 + 1, none⟩) hbl).trans c1
      have d2 := (hb.cell (p := ⟨b, o + j * 3 + 2, none⟩) hbl).trans c2
      have hsf := szL_mem (List.mem_of_getElem? hf)
      have hC := Lib.hid (to_any _ f (Nat.le_refl _) (by have := HA.out.2; omega) (.agg #[.int .i64 f.k, .int .i64 f.c, .slice A' f.ks.length cap']) wr ((hNd.below hb).mono hb.size))
      have HK := Lib.hid (And.intro hb (And.intro hown (And.intro hkids hf)))
      clear hb hown hkids hf hr c0 c1 c2 hNd hsf
      go_wp2_with fail
      refine hC.out.mono ?_
      rintro r W5 ⟨v5, rfl, hN5, hb5⟩
      obtain ⟨_, _, A5, c5, rfl, _⟩ := NdP_iff.1 hN5
      have ho5 := ownsRow_below HK.out.2.1 hb5
      have hbw5 := HK.out.1.trans (hb5.mono HK.out.1.size)
      have NB := World.news_of_block (heap_alloc_new W5 (.cells #[.int .i64 f.k, .int .i64 f.c, .slice A5 f.ks.length c5] 52))
      have H5 := Lib.hid (And.intro hN5 (And.intro hb5 (And.intro ho5 (And.intro hbw5 NB))))
      clear hN5 hb5 ho5 hbw5 NB d0 d1 d2
      go_wp2_with (first
        | (at_builtin; refine wpList_append_lies _ rfl _ _ 30 rfl w.heap.size 52 i0 _ 3 40 Tryd.underlying30 hi hz0 hz1 hz2 rfl (by omega) _ j cs rfl (H5.out.2.2.1.alloc _) ⟨W5.heap.size, 0, none⟩ 1 1 [.int .i64 f.k, .int .i64 f.c, .slice A5 f.ks.length c5] rfl rfl H5.out.2.2.2.2 (by simp [Value.oneCell']) (by omega) (by unfold maxLen; omega) (by omega) (by have := H5.out.2.2.2.1.size; simp; omega) (W5.heap.size + 1) (by simp) ?_)
        | fail)
      intro g cap1 W7 hown7 hgrow7 hat7 hlt7
      have hgr57 : W5.grownBy W7 (Value.ownBlock _) := ⟨hgrow7.os, hgrow7.tape, hgrow7.output, by have := hgrow7.size; simp at this; omega, fun k hk hn => (hgrow7.block k (by simp; omega) hn).trans (Below.heap_alloc _ _ _ hk)⟩
      have hk7 := Kids.step (g := g) (v7 := .slice (some ⟨g, 0, none⟩) (j + 1) cap1) HK.out.2.2.1 HK.out.2.2.2 (fun b hb => (HK.out.2.1.lt b hb).2) H5.out.1 H5.out.2.1 HK.out.1.size hgr57 rfl (by rcases hat7 with h | h; exact .inl h; exact .inr (by omega))
      have hb7 : Below w.heap.size w W7 := H5.out.2.2.2.1.grown hgr57 H5.out.2.2.2.1.size (fun k hk => (H5.out.2.2.1.lt k hk).1)
      have hend : ∃ (j' : Nat) (cs' : List Value), Value.int .i64 ((j : Int) + 1) = .int .i64 (j' : Int) ∧ j' ≤ n ∧ (0 < j' ∨ Value.slice (some ⟨g, 0, none⟩) (j + 1) cap1 = .slice none 0 0) ∧ Below w.heap.size w W7 ∧ W7.ownsRow w.heap.size 52 3 (.slice (some ⟨g, 0, none⟩) (j + 1) cap1) j' cs' ∧ Kids W7 w.heap.size (.slice (some ⟨g, 0, none⟩) (j + 1) cap1) ks j' cs' := ⟨j + 1, _, by simp, by omega, .inl (by omega), hb7, hown7, hk7⟩
      have HEND := Lib.hid hend
      clear hown7 hgrow7 hat7 hlt7 hgr57 hk7 hb7 hend
      go_wp2_with fail
      go_roundw
      case rel => exact HEND.out
      case measure => simp [RowKit.intOf]; omega
    · obtain rfl : j = n := by omega
      have i1 : ¬ (j : Int) < (j : Int) := by omega
      have hown' : wr.ownsRow w.heap.size 52 3 u3 ks.length cs := by rw [HN.out]; exact hown
      have hkids' : Kids wr w.heap.size u3 ks ks.length cs := by rw [HN.out]; exact hkids
      rw [← HN.out] at hnil
      have HK := Lib.hid (And.intro hnil (And.intro hown' (And.intro hkids' hb)))
      clear hb hown hkids hown' hkids' hnil
      go_wp2_with fail
      go_ret
      exact ⟨_, cs, rfl, HK.out⟩
theorem kids_cells {w : World} {base : Nat} {v : Value} {ks : List E} {cs : List Value} (h : Kids w base v ks ks.length cs) : ∀ u ∈ cs, u.oneCell' = true := by
  intro u hu
  obtain ⟨j, hj, hju⟩ := List.mem_iff_getElem.1 hu
  have hl := h.1
  have hi : j / 3 < ks.length := by omega
  obtain ⟨x, y, z, c1, c2, c3, hN⟩ := h.2 (j / 3) _ hi (List.getElem?_eq_getElem hi)
  obtain ⟨_, _, A, cap, he, _⟩ := NdP_iff.1 hN
  injection he with he
  have e1 : #[x, y, z] = #[_, _, _] := he
  simp at e1
  obtain ⟨rfl, rfl, rfl⟩ := e1
  have hj' : cs[j]? = some u := by rw [List.getElem?_eq_getElem hj, hju]
  have hcase : j = j / 3 * 3 ∨ j = j / 3 * 3 + 1 ∨ j = j / 3 * 3 + 2 := by omega
  rcases hcase with e | e | e
  · rw [← e, hj'] at c1; injection c1 with c1; subst c1; rfl
  · rw [← e, hj'] at c2; injection c2 with c2; subst c2; rfl
  · rw [← e, hj'] at c3; injection c3 with c3; subst c3; rfl
theorem kids_append {w1 w2 w3 : World} {B g : Nat} {v1 v2 v3 : Value} {ls ms : List E} {cl cm : List Value} (h1 : Kids w1 B v1 ls ls.length cl) (hown1 : ∀ b, v1.ownBlock = some b → b < w1.heap.size) (hB : B ≤ w1.heap.size) (hb : Below w1.heap.size w1 w2)
    (h2 : Kids w2 w1.heap.size v2 ms ms.length cm) (hg3 : w2.grownBy w3 v1.ownBlock) (hv3 : v3.ownBlock = some g) (hg : v1.ownBlock = some g ∨ g = w2.heap.size) : Kids w3 B v3 (ls ++ ms) (ls ++ ms).length (cl ++ cm) := by
  have hl1 := h1.1
  have hl2 := h2.1
  have hs2 := hb.size
  have hs3 := hg3.size
  refine ⟨by rw [List.length_append, List.length_append]; omega, fun i f hi hf => ?_⟩
  rw [List.length_append] at hi
  by_cases hil : i < ls.length
  · rw [List.getElem?_append_left hil] at hf
    obtain ⟨x, y, z, c1, c2, c3, hN⟩ := h1.2 i f hil hf
    refine ⟨x, y, z, by rw [List.getElem?_append_left (by omega)]; exact c1, by rw [List.getElem?_append_left (by omega)]; exact c2, by rw [List.getElem?_append_left (by omega)]; exact c3,
      hN.blocks (fun b hb' => ⟨hb'.1, by omega, ?_⟩) (fun b hb' => (hg3.block b (by omega) (fun e' => hb'.2.2 e'.symm)).trans (hb.block b hb'.2.1))⟩
    rw [hv3]
    intro e'
    injection e' with e'
    rcases hg with hg | hg
    · exact hb'.2.2 (by rw [hg, e'])
    · omega
  · rw [List.getElem?_append_right (by omega)] at hf
    obtain ⟨x, y, z, c1, c2, c3, hN⟩ := h2.2 (i - ls.length) f (by omega) hf
    refine ⟨x, y, z, by rw [List.getElem?_append_right (by omega), show i * 3 - cl.length = (i - ls.length) * 3 by omega]; exact c1,
      by rw [List.getElem?_append_right (by omega), show i * 3 + 1 - cl.length = (i - ls.length) * 3 + 1 by omega]; exact c2,
      by rw [List.getElem?_append_right (by omega), show i * 3 + 2 - cl.length = (i - ls.length) * 3 + 2 by omega]; exact c3,
      hN.blocks (fun b hb' => ⟨by omega, by omega, ?_⟩) (fun b hb' => hg3.block b hb'.2.1 (fun e' => by have := hown1 b e'.symm; omega))⟩
    rw [hv3]
    intro e'
    injection e' with e'
    rcases hg with hg | hg
    · have := hown1 g hg; omega
    · omega
theorem wpList_append_nodes {ops : Array Oper} {rest : List Oper} {o : Oper} {a : Act} {Q : Exit → Act → World → Prop} (hgd : o.guard = none) (s x : Operand)
    (ho : o.op = .call { callee := .builtin .append, args := #[s, x], argTypes := #[30, 30] }) (B : Nat) (w1 w2 : World) (v1 v2 : Value) (ls ms : List E) (cl cm : List Value) (hs : a.eval s = v1) (hx : a.eval x = v2)
    (h1o : w1.ownsRow B 52 3 v1 ls.length cl) (h1k : Kids w1 B v1 ls ls.length cl) (hnil : 0 < ms.length ∨ v2 = .slice none 0 0) (hb : Below w1.heap.size w1 w2) (h2o : w2.ownsRow w1.heap.size 52 3 v2 ms.length cm) (h2k : Kids w2 w1.heap.size v2 ms ms.length cm)
    (hB : B ≤ w1.heap.size) (hlen : ls.length + ms.length ≤ 100)
    (h : ∀ A cap w3, KsP w3 (fun b => B ≤ b ∧ b < w3.heap.size) (ls ++ ms) A cap → Below B w2 w3 → wpList Tryd.prog ops Q rest (a.put o.dst (.slice A (ls ++ ms).length cap)) w3) : wpList Tryd.prog ops Q (o :: rest) a w2 := by
  obtain ⟨i0, hi, hz0, hz1, hz2⟩ := info_parts info52
  have hown : w2.ownsRow B 52 3 v1 ls.length cl := ownsRow_below h1o hb
  have hlt : ∀ b, v1.ownBlock = some b → B ≤ b ∧ b < w1.heap.size := fun b e => h1o.lt b e
  rcases h2o.2 with ⟨h1, h2⟩ | ⟨g, cap, cur, h1, h3, h4, h5, h6, h7, h8⟩
  · have hms : ms = [] := List.eq_nil_of_length_eq_zero h2
    subst hms
    have hk : Kids w2 B v1 ls ls.length cl := h1k.blocks (fun b _ hb' => hb.block b hb') hb.size
    obtain ⟨A, cap, he, hkp⟩ := hk.full hown
    refine wpList_append_own_none hgd s x 30 ho B 52 i0 3 Tryd.underlying30 hi v1 ls.length cl hs hown (hx.trans h1) ?_
    rw [he]
    have := h A cap w2 (by rw [List.append_nil]; exact hkp) (Below.refl _ _)
    rw [List.append_nil] at this
    exact this
  · have hne : 0 < ms.length := by
      rcases hnil with e | e
      · exact e
      · rw [e] at h1
        have h2 : (none : Option Nat) = some g := congrArg Value.ownBlock h1
        exact absurd h2 (by simp)
    refine wpList_append_lies _ hgd s x 30 ho B 52 i0 _ 3 40 Tryd.underlying30 hi hz0 hz1 hz2 rfl (by omega) v1 ls.length cl hs hown ⟨g, 0, none⟩ ms.length cap cm (hx.trans h1) h2k.1
      (fun j u hj => World.ownsRow.cells h2o (g := g) (by rw [h1]; rfl) j u hj) (kids_cells h2k) hne (by unfold maxLen; omega) (by omega) (by have := hb.size; omega) w2.heap.size rfl ?_
    intro g3 cap3 w3 hown3 hgrow3 hat3 hlt3
    have hk3 : Kids w3 B (.slice (some ⟨g3, 0, none⟩) (ls.length + ms.length) cap3) (ls ++ ms) (ls ++ ms).length (cl ++ cm) := kids_append h1k (fun b e => (hlt b e).2) hB hb h2k hgrow3 rfl hat3
    obtain ⟨A, cap4, he, hkp⟩ := hk3.full (by rw [List.length_append]; exact hown3)
    rw [he]
    refine h A cap4 w3 hkp ⟨hgrow3.os, hgrow3.tape, hgrow3.output, Nat.le_trans ?_ hgrow3.size, fun k hk => hgrow3.block k (by have := hb.size; omega) (fun e' => by have := (hlt k e'.symm).1; omega)⟩
    have := hb.size; omega
end Go.Proofs.YtlbcicoppglgjaaDoor
