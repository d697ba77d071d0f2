/-
  DfaMakes: of any expressions' automaton, searching or not, the table is the document's: for all inputs, in whatever memory.
  From what the rows list (three tables) to what the contracts ask.
  The walk of DfaMakes.
  Contract: the document's Make of tables.
  The document's Make of tables: what its walk needs.
  A table while the document makes it: the sets that are known, the rows, what they tell, and the row under way.
  Contracts: the document's Same.
  Contracts: slices.EqualFunc of rows, dfa.Same, the document's Same.
  Contracts: Great, To, slices.EqualFunc of rows, dfa.Same.
  Contracts: slices.Equal of numbers, the document's same.
  Contracts: virgulelaw09.awake: the document's example holds.
  The two tables of the example: what they are.
  Contracts: dfa.Tells, New.
  Contracts: dfa.Run, Tells, New.
  Contracts: dfa.Right, Run, Tells, New.
  A table in memory; contracts: has, Right, Run, Tells.
  Contract: Exprs.Over, of 40.
  Sets in the order in which they are found: there is one such order.
-/
import Derived.Lib.QuietBelow
import Derived.BigRegion
import Derived.Deep.RegionLaw
import Derived.Deep.AppendLies
import Derived.Lay
import Derived.LaidOnce
import Derived.LaidMore
import Derived.ChangeOld
import Derived.SevenTiedAt
import Derived.Test.YtmldgfplnacecaaDoorXqa
import Derived.Test.YtmldgfplnacecaaDoorXqb
import Derived.Test.YtmldgfplnacecaaDoorXqc
import Derived.Test.YtmldgfplnacecaaDoorXqd
import Derived.Test.YtmldgfplnacecaaDoorXqe
import Derived.Test.YtmldgfplnacecaaDoorXqf
import Derived.Test.YtmldgfplnacecaaDoorXqg
import Derived.Test.YtmldgfplnacecaaDoorXqh
import Derived.Test.YtmldgfplnacecaaDoorXqi
import Derived.Test.YtmldgfplnacecaaDoorXqj
import Derived.Test.YtmldgfplnacecaaDoorXqk
import Derived.Test.YtmldgfplnacecaaDoorXql
import Derived.Test.YtmldgfplnacecaaDoorTie
import Derived.Test.YtmldgfplnacecaaDoorCards
import Derived.Test.YtmldgfplnacecaaDoorChecked
namespace Go.Proofs.YtmldgfplnacecaaDoor
open Go.RowKit Go.Shelf Go.Lib Go.Maps

theorem take_eq {S S' : List (List Int)} {j : Nat} (h : ∀ i, i < j → S[i]? = S'[i]?) : S.take j = S'.take j := by
  apply List.ext_getElem?
  intro i
  rw [List.getElem?_take, List.getElem?_take]
  split
  · exact h i (by assumption)
  · rfl
theorem nodup_at {S : List (List Int)} (hn : S.Nodup) {i j : Nat} {y : List Int} (hi : S[i]? = some y) (hj : S[j]? = some y) : i = j := by
  obtain ⟨h1, e1⟩ := List.getElem?_eq_some_iff.1 hi
  obtain ⟨h2, e2⟩ := List.getElem?_eq_some_iff.1 hj
  have hp := List.pairwise_iff_getElem.1 hn
  rcases Nat.lt_trichotomy i j with hlt | rfl | hlt
  · exact absurd (e1.trans e2.symm) (hp i j h1 h2 hlt)
  · rfl
  · exact absurd (e2.trans e1.symm) (hp j i h2 h1 hlt)
theorem not_take {S : List (List Int)} (hn : S.Nodup) {j : Nat} {y : List Int} (hy : S[j]? = some y) : y ∉ S.take j := by
  intro hm
  obtain ⟨i, hi⟩ := List.getElem?_of_mem hm
  rw [List.getElem?_take] at hi
  split at hi
  · have := nodup_at hn hi hy; omega
  · cases hi
theorem sv_pre {se : Bool} {s : St} {S S' : List (List Int)} (h : Sv se s S) (h' : Sv se s S') : ∀ j, j < S.length → j < S'.length → S[j]? = S'[j]? := by
  intro j
  induction j using Nat.strongRecOn with
  | ind j ih =>
    intro h1 h2
    rcases Nat.eq_zero_or_pos j with rfl | h0
    · rw [h.z, h'.z]
    · have ht := take_eq (fun i hi => ih i hi (by omega) (by omega))
      obtain ⟨y, hy⟩ : ∃ y, S[j]? = some y := ⟨_, List.getElem?_eq_getElem h1⟩
      obtain ⟨y', hy'⟩ : ∃ y, S'[j]? = some y := ⟨_, List.getElem?_eq_getElem h2⟩
      obtain ⟨i, m, x, hi, hm, hx, e, hq⟩ := h.o j y h0 hy
      obtain ⟨i', m', x', hi', hm', hx', e', hq'⟩ := h'.o j y' h0 hy'
      have hx2 := (ih i hi (by omega) (by omega)).symm.trans hx
      have hx2' := (ih i' hi' (by omega) (by omega)).trans hx'
      by_cases c1 : i < i' ∨ i = i' ∧ m < m'
      · have := hq' i m x c1 hm hx2
        rw [← e, ← ht] at this
        exact absurd this (not_take h.nd hy)
      · by_cases c2 : i' < i ∨ i' = i ∧ m' < m
        · have := hq i' m' x' c2 hm' hx2'
          rw [← e', ht] at this
          exact absurd this (not_take h'.nd hy')
        · have e1 : i = i' := by omega
          have e2 : m = m' := by omega
          subst e1 e2
          rw [hx2] at hx'
          injection hx' with hx'
          rw [hy, hy', e, e', hx']
/-- Where all have been looked at, no more are found. -/
theorem bf_no_more {se : Bool} {s : St} {S R S' : List (List Int)} {T : List Nat} (h : Bf se s S R T) (hl : R.length = S.length) (h' : Sv se s S') : S'.length ≤ S.length := by
  refine Nat.le_of_not_lt fun hc => ?_
  obtain ⟨y, hy⟩ : ∃ y, S'[S.length]? = some y := ⟨_, List.getElem?_eq_getElem hc⟩
  obtain ⟨i, m, x, hi, hm, hx, e, _⟩ := h'.o S.length y h.sv.pos hy
  have hx2 := (sv_pre h.sv h' i hi (by omega)).trans hx
  obtain ⟨q, hq⟩ : ∃ q, R[i]? = some q := ⟨_, List.getElem?_eq_getElem (show i < R.length by omega)⟩
  obtain ⟨h37, x2, hx3, hr⟩ := h.r i q hq
  rw [hx2] at hx3
  injection hx3 with hx3
  subst hx3
  obtain ⟨j, _, hj⟩ := hr m _ (List.getElem?_eq_getElem (show m < q.length by omega))
  have hjl := (List.getElem?_eq_some_iff.1 hj).1
  rw [← e, sv_pre h.sv h' j hjl (by omega)] at hj
  have := nodup_at h'.nd hj hy
  omega
theorem bf_same {se : Bool} {s : St} {S R S' R' : List (List Int)} {T T' : List Nat} (h : Bf se s S R T) (hl : R.length = S.length) (h' : Bf se s S' R' T') (hl' : R'.length = S'.length) : R = R' ∧ T = T' := by
  have a := bf_no_more h hl h'.sv
  have b := bf_no_more h' hl' h.sv
  have hS : S = S' := by
    apply List.ext_getElem?
    intro i
    rcases Nat.lt_or_ge i S.length with c | c
    · exact sv_pre h.sv h'.sv i c (by omega)
    · rw [List.getElem?_eq_none c, List.getElem?_eq_none (by omega)]
  subst hS
  constructor
  · apply List.ext_getElem?
    intro i
    rcases Nat.lt_or_ge i R.length with c | c
    · obtain ⟨q, hq⟩ : ∃ q, R[i]? = some q := ⟨_, List.getElem?_eq_getElem c⟩
      obtain ⟨q', hq'⟩ : ∃ q, R'[i]? = some q := ⟨_, List.getElem?_eq_getElem (show i < R'.length by omega)⟩
      obtain ⟨l1, x, hx, r1⟩ := h.r i q hq
      obtain ⟨l2, x', hx', r2⟩ := h'.r i q' hq'
      rw [hx] at hx'
      injection hx' with hx'
      subst hx'
      have : q = q' := by
        apply List.ext_getElem?
        intro m
        rcases Nat.lt_or_ge m 37 with d | d
        · have g1 := List.getElem?_eq_getElem (show m < q.length by omega)
          have g2 := List.getElem?_eq_getElem (show m < q'.length by omega)
          obtain ⟨j, e1, j1⟩ := r1 m _ g1
          obtain ⟨j', e2, j2⟩ := r2 m _ g2
          have := nodup_at h.sv.nd j1 j2
          rw [g1, g2, e1, e2, this]
        · rw [List.getElem?_eq_none (by omega), List.getElem?_eq_none (by omega)]
      rw [hq, hq', this]
    · rw [List.getElem?_eq_none c, List.getElem?_eq_none (by omega)]
  · have k1 := h.tl
    have k2 := h'.tl
    apply List.ext_getElem?
    intro i
    rcases Nat.lt_or_ge i T.length with c | c
    · obtain ⟨q, hq⟩ : ∃ q, T[i]? = some q := ⟨_, List.getElem?_eq_getElem c⟩
      obtain ⟨q', hq'⟩ : ∃ q, T'[i]? = some q := ⟨_, List.getElem?_eq_getElem (show i < T'.length by omega)⟩
      obtain ⟨x, hx, e1⟩ := h.t i q hq
      obtain ⟨x', hx', e2⟩ := h'.t i q' hq'
      rw [hx] at hx'
      injection hx' with hx'
      rw [hq, hq', e1, e2, hx']
    · rw [List.getElem?_eq_none c, List.getElem?_eq_none (by omega)]
end Go.Proofs.YtmldgfplnacecaaDoor

namespace Go.Proofs.YtmldgfplnacecaaDoor
open Go.RowKit Go.Shelf Go.Lib

set_option maxHeartbeats 4000000 in
set_option maxRecDepth 100000 in
theorem over40_any (ks : List E) (A : Option Addr) (cap : Nat) (w : World) (h : KsAt w w.heap.size ks A cap) : Calls Tryd.prog 25 #[.slice A ks.length cap, .int .i64 40] w fun r w' => r = .returned (.bool (decide (40 < szL ks))) ∧ Below w.heap.size w w' := by
  have hln : ks.length ≤ 9223372036854775807 := by have := h.l; have := h.m; unfold maxLen at this; omega
  obtain ⟨R, hR⟩ : ∃ R, decide (40 < szL ks) = R := ⟨_, rfl⟩
  rw [hR]
  have HR := Lib.hid hR
  obtain ⟨n, hn⟩ : ∃ n, ks.length = n := ⟨_, rfl⟩
  have HN := Lib.hid hn
  have HK := Lib.hid h
  rw [hn] at hln ⊢
  clear hn h hR
  go_enter Tryd.func25, Tryd.ntmps25
  go_wp2_with fail
  go_loopw [5, 6] (fun s i wr => ∃ k t : Nat, i = .int .i64 k ∧ k ≤ n ∧ s = .int .i64 (t : Int) ∧ t ≤ 200 ∧ (t ≤ 40 → t = szL (ks.take k)) ∧ (40 < t → R = true) ∧ Below w.heap.size w wr) (fun _ i _ => n - (RowKit.intOf i).toNat)
  case atStart => exact ⟨0, 0, rfl, Nat.zero_le _, rfl, by omega, fun _ => by simp [szL, szE.szL], fun h => by omega, Below.refl _ _⟩
  case round =>
    obtain ⟨k, t, rfl, hkn, rfl, ht, hte, htr, hb⟩ := hrel
    by_cases hlt : k < n
    · have i1 : (k : Int) < (n : Int) := by omega
      by_cases h40 : t ≤ 40
      · have i2 : (t : Int) ≤ 40 := by omega
        obtain ⟨f, hf⟩ : ∃ f, ks[k]? = some f := ⟨ks[k]'(by rw [HN.out]; exact hlt), List.getElem?_eq_getElem _⟩
        obtain ⟨b, o, rfl, hbl, hr⟩ := HK.out.r (by rintro rfl; simp at hf)
        obtain ⟨A', cap', c0, c1, c2, hNd⟩ := row_get' hr hf
        have d0 := (hb.cell (p := ⟨b, o + k * 3, none⟩) hbl).trans c0
        have d1 := (hb.cell (p := ⟨b, o + k * 3 + 1, none⟩) hbl).trans c1
        have d2 := (hb.cell (p := ⟨b, o + k * 3 + 2, none⟩) hbl).trans c2
        have hC := size_any _ f (Nat.le_refl _) (.agg #[.int .i64 f.k, .int .i64 f.c, .slice A' f.ks.length cap']) 40 wr ((hNd.below hb).mono hb.size) (by omega)
        have hs := szL_take hf
        have hle := szL_take_le ks (k + 1)
        have hte' := hte h40
        obtain ⟨z, hz⟩ : ∃ z, min (szE f) (40 + 1) = z := ⟨_, rfl⟩
        rw [hz] at hC
        have hC := Lib.hid hC
        have hzb : z ≤ 41 := by omega
        have hn1 : t + z ≤ 40 → t + z = szL (ks.take (k + 1)) := by intro h; omega
        have hn2 : 40 < t + z → R = true := by
          intro h
          rw [← HR.out]
          simp only [decide_eq_true_eq]
          omega
        have hw : wrap64 ((t : Int) + (z : Int)) = (t : Int) + (z : Int) := by unfold wrap64; omega
        have HH := Lib.hid (And.intro hb (And.intro hn1 (And.intro hn2 (And.intro hw hzb))))
        clear hb hn1 hn2 hs hle hte hte' htr hz c0 c1 c2 hNd hr hf
        go_wp2_with fail
        refine hC.out.mono ?_
        rintro r w2 ⟨rfl, hb2⟩
        have HB := Lib.hid (HH.out.1.trans (hb2.mono HH.out.1.size))
        clear hb2 d0 d1 d2
        go_wp2_with fail
        go_roundw
        case rel => exact ⟨k + 1, t + z, by go_num, by omega, by first | (rw [HH.out.2.2.2.1]; simp) | go_num, by have := HH.out.2.2.2.2; omega, HH.out.2.1, HH.out.2.2.1, HB.out⟩
        case measure => simp [RowKit.intOf]; omega
      · have i2 : decide ((t : Int) ≤ 40) = false := by simp; omega
        have i3 : (40 : Int) < (t : Int) := by omega
        obtain rfl : R = true := htr (by omega)
        have HB := Lib.hid hb
        clear hb hte htr
        go_wp2_with fail
        go_ret
        exact ⟨rfl, HB.out⟩
    · obtain rfl : k = n := by omega
      have i1 : decide ((k : Int) < (k : Int)) = false := by simp
      have ht2 : ks.take k = ks := by rw [← HN.out, List.take_length]
      rw [ht2] at hte
      have hfin : R = decide ((40 : Int) < (t : Int)) := by
        rw [← HR.out]
        congr 1
        apply propext
        constructor
        · intro h
          by_cases h40 : t ≤ 40
          · have := hte h40; omega
          · omega
        · intro h
          have := htr (by omega)
          rw [← HR.out] at this
          simpa using this
      have HF := Lib.hid hfin
      have HB := Lib.hid hb
      clear hb hte htr hfin ht2
      go_wp2_with fail
      go_ret
      exact ⟨by rw [HF.out]; rfl, HB.out⟩
end Go.Proofs.YtmldgfplnacecaaDoor

namespace Go.Proofs.YtmldgfplnacecaaDoor
open Go.RowKit Go.Shelf Go.Lib Go.Great Go.Maps

/-- A slice of rows. -/
structure RsAt (w : World) (B : Nat) (R : List (List Int)) (A : Option Addr) (cap : Nat) : Prop where
  l : R.length ≤ cap
  m : cap ≤ maxLen
  z : A = none → cap = 0
  r : R ≠ [] → ∃ b o, A = some ⟨b, o, none⟩ ∧ b < B ∧ ∀ (i : Nat) (r : List Int), R[i]? = some r → ∃ A' c', w.cell? ⟨b, o + i, none⟩ = some (.slice A' r.length c') ∧ IS w B r A' c' ∧ (A' = none → c' = 0)
theorem RsAt.below {w w' : World} {B : Nat} {R : List (List Int)} {A : Option Addr} {cap : Nat} (h : RsAt w B R A cap) (hb : Below B w w') : RsAt w' B R A cap :=
  ⟨h.l, h.m, h.z, fun hne => by
    obtain ⟨b, o, rfl, hl, hr⟩ := h.r hne
    exact ⟨b, o, rfl, hl, fun i r hx => by
      obtain ⟨A', c', h1, h2, h3⟩ := hr i r hx
      exact ⟨A', c', (hb.cell (p := ⟨b, _, none⟩) hl).trans h1, h2.below hb, h3⟩⟩⟩
theorem RsAt.mono {w : World} {B B' : Nat} {R : List (List Int)} {A : Option Addr} {cap : Nat} (h : RsAt w B R A cap) (hB : B ≤ B') : RsAt w B' R A cap :=
  ⟨h.l, h.m, h.z, fun hne => by
    obtain ⟨b, o, rfl, hl, hr⟩ := h.r hne
    exact ⟨b, o, rfl, by omega, fun i r hx => by
      obtain ⟨A', c', h1, h2, h3⟩ := hr i r hx
      exact ⟨A', c', h1, h2.mono hB, h3⟩⟩⟩
theorem RsAt.on {w w' : World} {R : List (List Int)} {A : Option Addr} {cap : Nat} (h : RsAt w w.heap.size R A cap) (hb : Below w.heap.size w w') : RsAt w' w'.heap.size R A cap := (h.below hb).mono hb.size
/-- A slice of what states tell. -/
structure UsAt (w : World) (B : Nat) (T : List Nat) (A : Option Addr) (cap : Nat) : Prop where
  l : T.length ≤ cap
  m : cap ≤ maxLen
  z : A = none → cap = 0
  i : ∀ x ∈ T, x < 18446744073709551616
  r : T ≠ [] → ∃ b o, A = some ⟨b, o, none⟩ ∧ b < B ∧ ∀ (i : Nat) (x : Nat), T[i]? = some x → w.cell? ⟨b, o + i, none⟩ = some (.int .u64 (x : Int))
theorem UsAt.below {w w' : World} {B : Nat} {T : List Nat} {A : Option Addr} {cap : Nat} (h : UsAt w B T A cap) (hb : Below B w w') : UsAt w' B T A cap :=
  ⟨h.l, h.m, h.z, h.i, fun hne => by
    obtain ⟨b, o, rfl, hl, hr⟩ := h.r hne
    exact ⟨b, o, rfl, hl, fun i x hx => (hb.cell (p := ⟨b, _, none⟩) hl).trans (hr i x hx)⟩⟩
theorem UsAt.mono {w : World} {B B' : Nat} {T : List Nat} {A : Option Addr} {cap : Nat} (h : UsAt w B T A cap) (hB : B ≤ B') : UsAt w B' T A cap :=
  ⟨h.l, h.m, h.z, h.i, fun hne => by
    obtain ⟨b, o, rfl, hl, hr⟩ := h.r hne
    exact ⟨b, o, rfl, by omega, hr⟩⟩
theorem UsAt.on {w w' : World} {T : List Nat} {A : Option Addr} {cap : Nat} (h : UsAt w w.heap.size T A cap) (hb : Below w.heap.size w w') : UsAt w' w'.heap.size T A cap := (h.below hb).mono hb.size
/-- A table as a value. -/
def TbV (w : World) (R : List (List Int)) (T : List Nat) (v : Value) : Prop := ∃ A c A2 c2, v = .agg #[.slice A R.length c, .slice A2 T.length c2] ∧ RsAt w w.heap.size R A c ∧ UsAt w w.heap.size T A2 c2
theorem TbV.on {w w' : World} {R : List (List Int)} {T : List Nat} {v : Value} (h : TbV w R T v) (hb : Below w.heap.size w w') : TbV w' R T v := by
  obtain ⟨A, c, A2, c2, e, h1, h2⟩ := h
  exact ⟨A, c, A2, c2, e, h1.on hb, h2.on hb⟩
theorem tbv_of {w : World} {base : Nat} {X : Nat → Prop} {R : List (List Int)} {T : List Nat} {vN vT : Value} (hrn : Rn w base X R vN) (hrt : w.ownsRow base 37 1 vT T.length (u64C T)) (ht : ∀ x ∈ T, x < 18446744073709551616) : TbV w R T (.agg #[vN, vT]) := by
  obtain ⟨gs, hn, hgs⟩ := hrn
  have h1 : ∃ A c, vN = .slice A R.length c ∧ RsAt w w.heap.size R A c := by
    rcases hn.2 with ⟨h1, h2⟩ | ⟨g, cap, cur, h1, h2, h3, h4, h5, h6, h7⟩
    · have hn : R = [] := List.eq_nil_of_length_eq_zero h2
      subst hn
      exact ⟨none, 0, by rw [h1]; rfl, Nat.le_refl _, by unfold maxLen; omega, fun _ => rfl, fun hn => absurd rfl hn⟩
    · refine ⟨_, cap, h1, h4, h5, fun e => (by cases e), fun _ => ⟨g, 0, rfl, (Array.getElem?_eq_some_iff.1 h3).1, fun i r hr => ?_⟩⟩
      obtain ⟨u, hu, hsl⟩ := hgs i r hr
      obtain ⟨A', c', rfl, hi, hz⟩ := hsl.is
      have hc := World.ownsRow.cells hn (g := g) (by rw [h1]; rfl) i _ hu
      rw [add0] at hc
      rw [Nat.zero_add]
      exact ⟨A', c', hc, hi, hz⟩
  have h2 : ∃ A c, vT = .slice A T.length c ∧ UsAt w w.heap.size T A c := by
    rcases hrt.2 with ⟨h1, h2⟩ | ⟨g, cap, cur, h1, h2, h3, h4, h5, h6, h7⟩
    · have hn : T = [] := List.eq_nil_of_length_eq_zero h2
      subst hn
      exact ⟨none, 0, by rw [h1]; rfl, Nat.le_refl _, by unfold maxLen; omega, fun _ => rfl, ht, fun hn => absurd rfl hn⟩
    · refine ⟨_, cap, h1, h4, h5, fun e => (by cases e), ht, fun _ => ⟨g, 0, rfl, (Array.getElem?_eq_some_iff.1 h3).1, fun i x hx => ?_⟩⟩
      have hc := World.ownsRow.cells hrt (g := g) (by rw [h1]; rfl) i (.int .u64 (x : Int)) (by simp [u64C, hx])
      rw [add0] at hc
      rw [Nat.zero_add]
      exact hc
  obtain ⟨A, c, e1, r1⟩ := h1
  obtain ⟨A2, c2, e2, r2⟩ := h2
  exact ⟨A, c, A2, c2, by rw [e1, e2], r1, r2⟩

def okIx (n : Nat) (x : Int) : Bool := decide (0 ≤ x) && decide (x < (n : Int))
def rowOk (n : Nat) (r : List Int) : Bool := decide (r.length = 37) && r.all (okIx n)
def rightT (R : List (List Int)) (T : List Nat) : Bool := decide (1 ≤ R.length) && decide (R.length ≤ 1000) && decide (T.length = R.length) && R.all (rowOk R.length)
set_option maxHeartbeats 4000000 in
set_option maxRecDepth 100000 in
theorem has_any (A A2 : Option Addr) (n c n2 c2 : Nat) (x : Int) (_hx : i64 x) (_hn : n ≤ 9223372036854775807) (w : World) :
    Calls Tryd.prog 76 #[.agg #[.slice A n c, .slice A2 n2 c2], .int .i64 x] w fun r w' => r = .returned (.bool (okIx n x)) ∧ Below w.heap.size w w' := by
  have bb := Lib.hid (below_new w (.cells #[.slice A n c, .slice A2 n2 c2] 54))
  unfold i64 at _hx
  by_cases h0 : 0 ≤ x
  · have d0 : decide (0 ≤ x) = true := by simpa using h0
    obtain ⟨R, hR⟩ : ∃ R, okIx n x = R := ⟨_, rfl⟩
    have HR := Lib.hid (show decide (x < (n : Int)) = R by rw [← hR]; unfold okIx; rw [d0]; simp)
    rw [hR]
    clear hR
    go_enter Tryd.func76, Tryd.ntmps76
    go_wp2_with fail
    go_ret
    exact ⟨ret_bool HR.out, bb.out⟩
  · have d0 : decide (0 ≤ x) = false := by simpa using h0
    have hR : okIx n x = false := by unfold okIx; rw [d0]; simp
    rw [hR]
    clear hR
    go_enter Tryd.func76, Tryd.ntmps76
    go_wp2_with fail
    go_ret
    exact ⟨rfl, bb.out⟩
set_option maxHeartbeats 4000000 in
set_option maxRecDepth 100000 in
theorem none_any (A A2 : Option Addr) (n c n2 c2 g : Nat) (x : Int) (hx : i64 x) (hn : n ≤ 9223372036854775807) (w : World) (hg : Cells w g 54 #[.slice A n c, .slice A2 n2 c2]) :
    Calls Tryd.prog 75 #[.int .i64 x, .pointer (some ⟨g, 0, none⟩)] w fun r w' => r = .returned (.bool (!okIx n x)) ∧ Below w.heap.size w w' := by
  have C := Lib.hid (has_any A A2 n c n2 c2 x hx hn w)
  have c0 := hg.cell 0
  have c1 := hg.cell 1
  simp at c0 c1
  clear hg hx hn
  generalize okIx n x = b at *
  go_enter Tryd.func75, Tryd.ntmps75
  go_wp2_with fail
  refine C.out.mono ?_
  rintro r w2 ⟨rfl, hb⟩
  have HB := Lib.hid hb
  clear hb
  go_wp2_with fail
  go_ret
  exact ⟨rfl, HB.out⟩
theorem any_take {xs : List Int} {k : Nat} {x : Int} (p : Int → Bool) (h : xs[k]? = some x) : (xs.take (k + 1)).any p = ((xs.take k).any p || p x) := by
  rw [List.take_add_one, h, Option.toList_some, List.any_append]
  simp
theorem any_hit {xs : List Int} {k : Nat} {x : Int} {p : Int → Bool} (h : xs[k]? = some x) (hp : p x = true) : xs.any p = true := List.any_eq_true.2 ⟨x, List.mem_of_getElem? h, hp⟩
def IdxOk (w : World) (b : Bool) (r : Ending) (w' : World) : Prop := ∃ i : Int, r = .returned (.int .i64 i) ∧ i64 i ∧ (decide (0 ≤ i) = b) ∧ Below w.heap.size w w'
set_option maxHeartbeats 4000000 in
set_option maxRecDepth 100000 in
theorem index_any (A A2 : Option Addr) (n c n2 c2 g : Nat) (hn : n ≤ 9223372036854775807) (xs : List Int) (A' : Option Addr) (c' : Nat) (w : World) (hg : Cells w g 54 #[.slice A n c, .slice A2 n2 c2]) (hx : IS w w.heap.size xs A' c') :
    Calls Tryd.prog 90 #[.slice A' xs.length c', .func (.func 75) #[] #[.pointer (some ⟨g, 0, none⟩)]] w (IdxOk w (xs.any fun x => !okIx n x)) := by
  have hln : xs.length ≤ 9223372036854775807 := by have := hx.l; have := hx.m; unfold maxLen at this; omega
  obtain ⟨N, hN⟩ : ∃ N, xs.length = N := ⟨_, rfl⟩
  obtain ⟨R, hR⟩ : ∃ R, (xs.any fun x => !okIx n x) = R := ⟨_, rfl⟩
  have H := Lib.hid (And.intro hN (And.intro hR (And.intro hg hx)))
  rw [hN] at hln ⊢
  rw [hR]
  clear hN hR hg hx
  go_enter Tryd.func90, Tryd.ntmps90
  go_wp2_with fail
  go_loopw [8] (fun i wr => ∃ k : Nat, i = .int .i64 (k : Int) ∧ k ≤ N ∧ ((xs.take k).any fun x => !okIx n x) = false ∧ Below w.heap.size w wr) (fun i _ => N - (RowKit.intOf i).toNat)
  case atStart => exact ⟨0, rfl, by omega, rfl, Below.refl _ _⟩
  case round =>
    obtain ⟨k, rfl, hk, hno, hb⟩ := hrel
    by_cases hlt : k < N
    · have i1 : (k : Int) < (N : Int) := by omega
      obtain ⟨x, hx⟩ : ∃ x, xs[k]? = some x := ⟨xs[k]'(by rw [H.out.1]; exact hlt), List.getElem?_eq_getElem _⟩
      obtain ⟨b, o, rfl, hbl, hc⟩ := H.out.2.2.2.r (by rintro rfl; simp at hx)
      have d0 := (hb.cell (p := ⟨b, o + k, none⟩) hbl).trans (hc k x hx)
      have C := none_any A A2 n c n2 c2 g x (H.out.2.2.2.i x (List.mem_of_getElem? hx)) hn wr ((hb.block _ H.out.2.2.1.lt).trans H.out.2.2.1)
      have ht := any_take (fun x => !okIx n x) hx
      have hh := fun hp => any_hit (p := fun x => !okIx n x) hx hp
      rw [hno] at ht
      generalize (!okIx n x) = p at *
      have HC := Lib.hid C
      have HK := Lib.hid (And.intro ht (And.intro hh hb))
      clear C ht hh hb hno hx hc
      cases p
      · go_wp2_with fail
        refine HC.out.mono ?_
        rintro r w2 ⟨rfl, hb2⟩
        have HB2 := Lib.hid (HK.out.2.2.trans (hb2.mono HK.out.2.2.size))
        clear hb2
        go_wp2_with fail
        go_roundw
        case rel => exact ⟨k + 1, by go_num, by omega, by rw [HK.out.1]; rfl, HB2.out⟩
        case measure => simp [RowKit.intOf]; omega
      · go_wp2_with fail
        refine HC.out.mono ?_
        rintro r w2 ⟨rfl, hb2⟩
        have HB2 := Lib.hid (HK.out.2.2.trans (hb2.mono HK.out.2.2.size))
        clear hb2
        go_wp2_with fail
        go_ret
        have hRt : R = true := by rw [← H.out.2.1]; exact HK.out.2.1 (by simp)
        exact ⟨_, rfl, nat64 (by omega), by rw [hRt]; simp, HB2.out⟩
    · obtain rfl : k = N := by omega
      have i1 : ¬ (k : Int) < (k : Int) := by omega
      have e1 : xs.take k = xs := by rw [← H.out.1, List.take_length]
      rw [e1] at hno
      have hRf : R = false := by rw [← H.out.2.1]; exact hno
      have HB := Lib.hid (And.intro hRf hb)
      clear e1 hno hRf hb
      go_wp2_with fail
      go_ret
      exact ⟨_, rfl, by unfold i64; omega, by rw [HB.out.1]; rfl, HB.out.2⟩
set_option maxHeartbeats 4000000 in
set_option maxRecDepth 100000 in
theorem contains_any (A A2 : Option Addr) (n c n2 c2 g : Nat) (hn : n ≤ 9223372036854775807) (xs : List Int) (A' : Option Addr) (c' : Nat) (w : World) (hg : Cells w g 54 #[.slice A n c, .slice A2 n2 c2]) (hx : IS w w.heap.size xs A' c') :
    Calls Tryd.prog 77 #[.slice A' xs.length c', .func (.func 75) #[] #[.pointer (some ⟨g, 0, none⟩)]] w fun r w' => r = .returned (.bool (xs.any fun x => !okIx n x)) ∧ Below w.heap.size w w' := by
  have C := Lib.hid (index_any A A2 n c n2 c2 g hn xs A' c' w hg hx)
  clear hg hx
  generalize (xs.any fun x => !okIx n x) = R at *
  obtain ⟨N, hN⟩ : ∃ N, xs.length = N := ⟨_, rfl⟩
  rw [hN] at C ⊢
  clear hN
  go_enter Tryd.func77, Tryd.ntmps77
  go_wp2_with fail
  refine C.out.mono ?_
  rintro r w2 ⟨i, rfl, hi, hd, hb⟩
  have H := Lib.hid (And.intro hd hb)
  unfold i64 at hi
  clear hd hb
  go_wp2_with fail
  go_ret
  exact ⟨ret_bool H.out.1, H.out.2⟩
end Go.Proofs.YtmldgfplnacecaaDoor

namespace Go.Proofs.YtmldgfplnacecaaDoor
open Go.RowKit Go.Shelf Go.Lib Go.Great Go.Maps

theorem all_okIx {n : Nat} (r : List Int) : (r.all (okIx n)) = !(r.any fun x => !okIx n x) := by
  induction r with
  | nil => rfl
  | cons x t ih => simp [ih]
theorem allT_take {α : Type} {xs : List α} {k : Nat} {x : α} (p : α → Bool) (h : xs[k]? = some x) : (xs.take (k + 1)).all p = ((xs.take k).all p && p x) := by
  rw [List.take_add_one, h, Option.toList_some, List.all_append]
  simp
theorem allT_miss {α : Type} {xs : List α} {k : Nat} {x : α} {p : α → Bool} (h : xs[k]? = some x) (hp : p x = false) : xs.all p = false := by
  rw [List.all_eq_false]
  exact ⟨x, List.mem_of_getElem? h, by simp [hp]⟩
set_option maxHeartbeats 4000000 in
set_option maxRecDepth 100000 in
theorem right_small (A A2 : Option Addr) (n c n2 c2 : Nat) (h63 : n ≤ 9223372036854775807) (_h64 : n2 ≤ 9223372036854775807) (w : World) (h : n < 1 ∨ 1000 < n ∨ n2 ≠ n) :
    Calls Tryd.prog 45 #[.agg #[.slice A n c, .slice A2 n2 c2]] w fun r w' => r = .returned (.bool false) ∧ Below w.heap.size w w' := by
  have bb := Lib.hid (below_new w (.cells #[.slice A n c, .slice A2 n2 c2] 54))
  by_cases h1 : n < 1
  · have i1 : (n : Int) < 1 := by omega
    clear h
    go_enter Tryd.func45, Tryd.ntmps45
    go_wp2_with fail
    go_ret
    exact ⟨rfl, bb.out⟩
  · have i1 : ¬ (n : Int) < 1 := by omega
    have j1 : decide ((n : Int) < 1) = false := by simpa using i1
    by_cases h2 : 1000 < n
    · have i2 : (1000 : Int) < n := by omega
      have j2 : decide ((1000 : Int) < n) = true := by simpa using i2
      clear h
      go_enter Tryd.func45, Tryd.ntmps45
      go_wp2_with fail
      go_ret
      exact ⟨rfl, bb.out⟩
    · have i2 : ¬ (1000 : Int) < n := by omega
      have j2 : decide ((1000 : Int) < n) = false := by simpa using i2
      have i3 : ((n2 : Int) != (n : Int)) = true := by simp; omega
      have i4 : ((n2 : Int) == (n : Int)) = false := by simp; omega
      clear h
      go_enter Tryd.func45, Tryd.ntmps45
      go_wp2_with fail
      go_ret
      exact ⟨rfl, bb.out⟩
set_option maxHeartbeats 4000000 in
set_option maxRecDepth 100000 in
theorem right_big (R : List (List Int)) (A A2 : Option Addr) (c n2 c2 : Nat) (w : World) (hR : RsAt w w.heap.size R A c) (h1 : 1 ≤ R.length) (h2 : R.length ≤ 1000) (h3 : n2 = R.length) :
    Calls Tryd.prog 45 #[.agg #[.slice A R.length c, .slice A2 n2 c2]] w fun r w' => r = .returned (.bool (R.all (rowOk R.length))) ∧ Below w.heap.size w w' := by
  obtain ⟨W0, hW0⟩ : ∃ W, w.alloc (.cells #[.slice A R.length c, .slice A2 n2 c2] 54) = W := ⟨_, rfl⟩
  have b0 : Below w.heap.size w W0 := by rw [← hW0]; exact below_new _ _
  have z0 : W0.heap.size = w.heap.size + 1 := by rw [← hW0]; simp
  have x0 : Cells W0 w.heap.size 54 #[.slice A R.length c, .slice A2 n2 c2] := by rw [← hW0]; exact cells_new _ _ _
  have e0 := x0.cell 0
  have e1 := x0.cell 1
  simp at e0 e1
  obtain ⟨X, hX⟩ : ∃ X, R.all (rowOk R.length) = X := ⟨_, rfl⟩
  obtain ⟨n, hn⟩ : ∃ n, R.length = n := ⟨_, rfl⟩
  subst h3
  rw [hn] at hX x0 hW0 e0 e1 h1 h2 ⊢
  rw [hX]
  have H := Lib.hid (And.intro hR (And.intro hn (And.intro hX (And.intro b0 (And.intro z0 x0)))))
  have HW := Lib.hid hW0
  have i1 : ¬ (n : Int) < 1 := by omega
  have j1 : decide ((n : Int) < 1) = false := by simpa using i1
  have i2 : ¬ (1000 : Int) < n := by omega
  have j2 : decide ((1000 : Int) < n) = false := by simpa using i2
  have i3 : ((n : Int) != (n : Int)) = false := by simp
  clear hR hn hX b0 z0 x0 hW0 h1
  go_enter Tryd.func45, Tryd.ntmps45
  go_wp2_with fail
  rw [HW.out]
  go_loopw [27] (fun i wr => ∃ k : Nat, i = .int .i64 (k : Int) ∧ k ≤ n ∧ (R.take k).all (rowOk n) = true ∧ Below W0.heap.size W0 wr) (fun i _ => n - (RowKit.intOf i).toNat)
  case atStart => exact ⟨0, rfl, by omega, rfl, Below.refl _ _⟩
  case round =>
    obtain ⟨k, rfl, hk, hall, hb⟩ := hrel
    by_cases hlt : k < n
    · have i5 : (k : Int) < (n : Int) := by omega
      obtain ⟨x, hx⟩ : ∃ x, R[k]? = some x := ⟨R[k]'(by rw [H.out.2.1]; exact hlt), List.getElem?_eq_getElem _⟩
      obtain ⟨b, o, rfl, hbl, hc⟩ := H.out.1.r (by rintro rfl; simp at hx)
      obtain ⟨A', c', d0, his, _⟩ := hc k x hx
      have bw : Below w.heap.size w wr := H.out.2.2.2.1.trans (hb.mono H.out.2.2.2.1.size)
      have d1 := (bw.cell (p := ⟨b, o + k, none⟩) hbl).trans d0
      have his' := (his.below bw).mono bw.size
      have C := contains_any (some ⟨b, o, none⟩) A2 n c n c2 w.heap.size (by omega) x A' c' wr ((hb.block _ (by have := H.out.2.2.2.2.1; omega)).trans H.out.2.2.2.2.2) his'
      have hrow : rowOk n x = (decide (x.length = 37) && !(x.any fun y => !okIx n y)) := by unfold rowOk; rw [all_okIx]
      have ht := allT_take (rowOk n) hx
      have hm := fun hp => allT_miss (p := rowOk n) hx hp
      rw [hall, hrow] at ht
      rw [hrow] at hm
      have hxl : x.length ≤ 9223372036854775807 := by have := his.l; have := his.m; unfold maxLen at this; omega
      obtain ⟨l, hl⟩ : ∃ l, x.length = l := ⟨_, rfl⟩
      rw [hl] at C d1 ht hm hxl
      generalize (x.any fun y => !okIx n y) = p at *
      have HC := Lib.hid C
      have HK := Lib.hid (And.intro ht (And.intro hm (And.intro hb bw)))
      clear C ht hm hb bw hall hx hc d0 his his' hrow hl
      by_cases h37 : l = 37
      · have i6 : ((l : Int) != 37) = false := by simp; omega
        have i7 : ((l : Int) == 37) = true := by simp; omega
        have HL := Lib.hid h37
        clear h37
        cases p
        · go_wp2_with fail
          refine HC.out.mono ?_
          rintro r w2 ⟨rfl, hb2⟩
          have HB2 := Lib.hid (HK.out.2.2.1.trans (hb2.mono HK.out.2.2.1.size))
          clear hb2
          go_wp2_with fail
          go_roundw
          case rel => exact ⟨k + 1, by go_num, by omega, by rw [HK.out.1, HL.out]; rfl, HB2.out⟩
          case measure => simp [RowKit.intOf]; omega
        · go_wp2_with fail
          refine HC.out.mono ?_
          rintro r w2 ⟨rfl, hb2⟩
          have HB2 := Lib.hid (HK.out.2.2.2.trans (hb2.mono HK.out.2.2.2.size))
          clear hb2
          go_wp2_with fail
          go_ret
          exact ⟨ret_bool (by rw [← H.out.2.2.1]; exact (HK.out.2.1 (by rw [HL.out]; rfl)).symm), HB2.out⟩
      · have i6 : ((l : Int) != 37) = true := by simp; omega
        have i7 : ((l : Int) == 37) = false := by simp; omega
        have HL := Lib.hid h37
        clear h37
        go_wp2_with fail
        go_ret
        exact ⟨ret_bool (by rw [← H.out.2.2.1]; exact (HK.out.2.1 (by simp [HL.out])).symm), HK.out.2.2.2⟩
    · obtain rfl : k = n := by omega
      have i5 : ¬ (k : Int) < (k : Int) := by omega
      have e1 : R.take k = R := by rw [← H.out.2.1, List.take_length]
      rw [e1] at hall
      have bw : Below w.heap.size w wr := H.out.2.2.2.1.trans (hb.mono H.out.2.2.2.1.size)
      have HB := Lib.hid (And.intro hall bw)
      clear e1 hall hb bw
      go_wp2_with fail
      go_ret
      exact ⟨ret_bool (by rw [← H.out.2.2.1]; exact HB.out.1.symm), HB.out.2⟩
theorem rightD_any {R : List (List Int)} {T : List Nat} {v : Value} {w : World} (h : TbV w R T v) : Calls Tryd.prog 45 #[v] w fun r w' => r = .returned (.bool (rightT R T)) ∧ Below w.heap.size w w' := by
  obtain ⟨A, c, A2, c2, rfl, hR, hT⟩ := h
  have n1 : R.length ≤ 9223372036854775807 := by have := hR.l; have := hR.m; unfold maxLen at this; omega
  have n2 : T.length ≤ 9223372036854775807 := by have := hT.l; have := hT.m; unfold maxLen at this; omega
  by_cases hs : R.length < 1 ∨ 1000 < R.length ∨ T.length ≠ R.length
  · have : rightT R T = false := by
      unfold rightT
      rcases hs with h | h | h
      · simp [show ¬ 1 ≤ R.length by omega]
      · simp [show ¬ R.length ≤ 1000 by omega]
      · simp [h]
    rw [this]
    exact right_small A A2 R.length c T.length c2 n1 n2 w hs
  · have : rightT R T = R.all (rowOk R.length) := by
      unfold rightT
      simp [show 1 ≤ R.length by omega, show R.length ≤ 1000 by omega, show T.length = R.length by omega]
    rw [this]
    exact right_big R A A2 c T.length c2 w hR (by omega) (by omega) (by omega)
end Go.Proofs.YtmldgfplnacecaaDoor

namespace Go.Proofs.YtmldgfplnacecaaDoor
open Go.RowKit Go.Shelf Go.Lib Go.Great Go.Maps

def stR (R : List (List Int)) (a m : Int) : Int := (R.getD a.toNat []).getD m.toNat 0
def okM (m : Int) : Bool := decide (0 ≤ m) && decide (m < 37)
def runR (R : List (List Int)) (from' : Int) (ms : List Int) : Int := if ms.all okM then ms.foldl (stR R) from' else -1
theorem right_parts {R : List (List Int)} {T : List Nat} (h : rightT R T = true) : 1 ≤ R.length ∧ R.length ≤ 1000 ∧ T.length = R.length ∧ ∀ (i : Nat) r, R[i]? = some r → r.length = 37 ∧ ∀ (m : Nat) x, r[m]? = some x → 0 ≤ x ∧ x < R.length := by
  unfold rightT at h
  simp only [Bool.and_eq_true, decide_eq_true_eq] at h
  obtain ⟨⟨⟨h1, h2⟩, h3⟩, h4⟩ := h
  refine ⟨h1, h2, h3, fun i r hr => ?_⟩
  have := List.all_eq_true.1 h4 r (List.mem_of_getElem? hr)
  unfold rowOk at this
  simp only [Bool.and_eq_true, decide_eq_true_eq] at this
  refine ⟨this.1, fun m x hx => ?_⟩
  have h5 := List.all_eq_true.1 this.2 x (List.mem_of_getElem? hx)
  unfold okIx at h5
  simp only [Bool.and_eq_true, decide_eq_true_eq] at h5
  exact h5
/-- One mark. -/
theorem stR_ok {R : List (List Int)} {T : List Nat} (h : rightT R T = true) {a m : Int} (ha : okIx R.length a = true) (hm : okM m = true) :
    ∃ r x, R[a.toNat]? = some r ∧ r[m.toNat]? = some x ∧ stR R a m = x ∧ okIx R.length x = true := by
  obtain ⟨h1, h2, h3, h4⟩ := right_parts h
  unfold okIx at ha
  unfold okM at hm
  simp only [Bool.and_eq_true, decide_eq_true_eq] at ha hm
  have hr : R[a.toNat]? = some (R[a.toNat]'(by omega)) := List.getElem?_eq_getElem _
  obtain ⟨hl, hx⟩ := h4 _ _ hr
  have hx' : (R[a.toNat]'(by omega))[m.toNat]? = some ((R[a.toNat]'(by omega))[m.toNat]'(by omega)) := List.getElem?_eq_getElem _
  refine ⟨_, _, hr, hx', ?_, ?_⟩
  · unfold stR
    simp [List.getD_eq_getElem?_getD, hr, hx']
  · unfold okIx
    have := hx _ _ hx'
    simp only [Bool.and_eq_true, decide_eq_true_eq]
    exact this
set_option maxHeartbeats 4000000 in
set_option maxRecDepth 100000 in
theorem run_wrong {R : List (List Int)} {T : List Nat} {v : Value} {w : World} (h : TbV w R T v) (a : Int) (ha : i64 a) (ms : Value) (hno : rightT R T = false ∨ okIx R.length a = false) :
    Calls Tryd.prog 47 #[v, .int .i64 a, ms] w fun r w' => r = .returned (.int .i64 (-1)) ∧ Below w.heap.size w w' := by
  obtain ⟨A, c, A2, c2, rfl, hR, hT⟩ := h
  obtain ⟨W0, hW0⟩ : ∃ W, w.alloc (.cells #[.slice A R.length c, .slice A2 T.length c2] 54) = W := ⟨_, rfl⟩
  have b0 : Below w.heap.size w W0 := by rw [← hW0]; exact below_new _ _
  have z0 : W0.heap.size = w.heap.size + 1 := by rw [← hW0]; simp
  have x0 : Cells W0 w.heap.size 54 #[.slice A R.length c, .slice A2 T.length c2] := by rw [← hW0]; exact cells_new _ _ _
  have n1 : R.length ≤ 9223372036854775807 := by have := hR.l; have := hR.m; unfold maxLen at this; omega
  have C := rightD_any (R := R) (T := T) (v := .agg #[.slice A R.length c, .slice A2 T.length c2]) (w := W0) ⟨A, c, A2, c2, rfl, (hR.below b0).mono (by omega), (hT.below b0).mono (by omega)⟩
  have D := fun w' => has_any A A2 R.length c T.length c2 a ha n1 w'
  obtain ⟨n, hn⟩ : ∃ n, R.length = n := ⟨_, rfl⟩
  obtain ⟨n2, hn2⟩ : ∃ n, T.length = n := ⟨_, rfl⟩
  rw [hn, hn2] at C x0 hW0 ⊢
  rw [hn, hn2] at D
  rw [hn] at hno
  have e0 := x0.cell 0
  have e1 := x0.cell 1
  simp at e0 e1
  have H := Lib.hid (And.intro b0 (And.intro z0 x0))
  have HW := Lib.hid hW0
  have HC := Lib.hid C
  have HD := Lib.hid D
  clear b0 z0 x0 hW0 C D hR hT hn hn2 n1
  cases hq : rightT R T with
  | false =>
    rw [hq] at HC
    clear hq hno
    go_enter Tryd.func47, Tryd.ntmps47
    go_wp2_with fail
    rw [HW.out]
    refine HC.out.mono ?_
    rintro r w2 ⟨rfl, hb⟩
    have HB := Lib.hid (H.out.1.trans (hb.mono H.out.1.size))
    clear hb
    go_wp2_with fail
    go_ret
    exact ⟨rfl, HB.out⟩
  | true =>
    rw [hq] at HC hno
    have hno : okIx n a = false := by simpa using hno
    rw [hno] at HD
    clear hq hno
    go_enter Tryd.func47, Tryd.ntmps47
    go_wp2_with fail
    rw [HW.out]
    refine HC.out.mono ?_
    rintro r w2 ⟨rfl, hb⟩
    have bw : Below w.heap.size w w2 := H.out.1.trans (hb.mono H.out.1.size)
    have x2 : Cells w2 w.heap.size 54 #[.slice A n c, .slice A2 n2 c2] := (hb.block _ (by have := H.out.2.1; omega)).trans H.out.2.2
    have e2 := x2.cell 0
    have e3 := x2.cell 1
    simp at e2 e3
    have HB := Lib.hid bw
    clear bw x2 hb
    go_wp2_with fail
    refine (HD.out w2).mono ?_
    rintro r w3 ⟨rfl, hb3⟩
    have HB3 := Lib.hid (HB.out.trans (hb3.mono HB.out.size))
    clear hb3
    go_wp2_with fail
    go_ret
    exact ⟨rfl, HB3.out⟩
theorem foldl_take {R : List (List Int)} {ms : List Int} {k : Nat} {m a : Int} (h : ms[k]? = some m) : (ms.take (k + 1)).foldl (stR R) a = stR R ((ms.take k).foldl (stR R) a) m := by
  rw [List.take_add_one, h, Option.toList_some, List.foldl_append]
  rfl
set_option maxHeartbeats 4000000 in
set_option maxRecDepth 100000 in
theorem run_right {R : List (List Int)} {T : List Nat} {v : Value} {w : World} (h : TbV w R T v) (a : Int) (ha : i64 a) (ms : List Int) (Am : Option Addr) (cm : Nat) (hms : IS w w.heap.size ms Am cm) (hr : rightT R T = true) (hi : okIx R.length a = true) :
    Calls Tryd.prog 47 #[v, .int .i64 a, .slice Am ms.length cm] w fun r w' => r = .returned (.int .i64 (runR R a ms)) ∧ Below w.heap.size w w' := by
  obtain ⟨A, c, A2, c2, rfl, hR, hT⟩ := h
  obtain ⟨W0, hW0⟩ : ∃ W, w.alloc (.cells #[.slice A R.length c, .slice A2 T.length c2] 54) = W := ⟨_, rfl⟩
  have b0 : Below w.heap.size w W0 := by rw [← hW0]; exact below_new _ _
  have z0 : W0.heap.size = w.heap.size + 1 := by rw [← hW0]; simp
  have x0 : Cells W0 w.heap.size 54 #[.slice A R.length c, .slice A2 T.length c2] := by rw [← hW0]; exact cells_new _ _ _
  have n1 : R.length ≤ 9223372036854775807 := by have := hR.l; have := hR.m; unfold maxLen at this; omega
  have lm : ms.length ≤ 9223372036854775807 := by have := hms.l; have := hms.m; unfold maxLen at this; omega
  have C := rightD_any (R := R) (T := T) (v := .agg #[.slice A R.length c, .slice A2 T.length c2]) (w := W0) ⟨A, c, A2, c2, rfl, (hR.below b0).mono (by omega), (hT.below b0).mono (by omega)⟩
  have D := fun w' => has_any A A2 R.length c T.length c2 a ha n1 w'
  rw [hr] at C
  obtain ⟨n, hn⟩ : ∃ n, R.length = n := ⟨_, rfl⟩
  obtain ⟨n2, hn2⟩ : ∃ n, T.length = n := ⟨_, rfl⟩
  obtain ⟨l, hl⟩ : ∃ n, ms.length = n := ⟨_, rfl⟩
  obtain ⟨X, hX⟩ : ∃ X, runR R a ms = X := ⟨_, rfl⟩
  rw [hX]
  rw [hn, hn2] at C x0 hW0 ⊢
  rw [hn, hn2] at D
  rw [hn] at hi
  rw [hi] at D
  rw [hl] at lm ⊢
  have e0 := x0.cell 0
  have e1 := x0.cell 1
  simp at e0 e1
  have hn1000 : n ≤ 1000 := by have := (right_parts hr).2.1; omega
  have H := Lib.hid (And.intro b0 (And.intro z0 (And.intro x0 (And.intro hR (And.intro hr (And.intro hms (And.intro hn (And.intro hl (And.intro hX hi)))))))))
  have HW := Lib.hid hW0
  have HC := Lib.hid C
  have HD := Lib.hid D
  clear b0 z0 x0 hW0 C D hR hT hn hn2 n1 hr hms hl hX hi
  go_enter Tryd.func47, Tryd.ntmps47
  go_wp2_with fail
  rw [HW.out]
  refine HC.out.mono ?_
  rintro r w2 ⟨rfl, hb⟩
  have bw : Below W0.heap.size W0 w2 := hb
  have x2 : Cells w2 w.heap.size 54 #[.slice A n c, .slice A2 n2 c2] := (hb.block _ (by have := H.out.2.1; omega)).trans H.out.2.2.1
  have e2 := x2.cell 0
  have e3 := x2.cell 1
  simp at e2 e3
  have HB := Lib.hid bw
  clear bw x2 hb
  go_wp2_with fail
  refine (HD.out w2).mono ?_
  rintro r w3 ⟨rfl, hb3⟩
  have HB3 := Lib.hid (HB.out.trans (hb3.mono HB.out.size))
  clear hb3 e2 e3 e0 e1
  go_wp2_with fail
  unfold i64 at ha
  go_loopw [1, 20] (fun v i wr => ∃ (k : Nat) (x : Int), v = .int .i64 x ∧ i = .int .i64 (k : Int) ∧ k ≤ l ∧ (ms.take k).all okM = true ∧ (ms.take k).foldl (stR R) a = x ∧ okIx n x = true ∧ wr = w3) (fun _ i _ => l - (RowKit.intOf i).toNat)
  case atStart => exact ⟨0, a, rfl, rfl, by omega, rfl, rfl, H.out.2.2.2.2.2.2.2.2.2, rfl⟩
  case round =>
    obtain ⟨k, x, rfl, rfl, hk, hall, hf, hx, rfl⟩ := hrel
    by_cases hlt : k < l
    · have i5 : (k : Int) < (l : Int) := by omega
      obtain ⟨m, hm⟩ : ∃ m, ms[k]? = some m := ⟨ms[k]'(by rw [H.out.2.2.2.2.2.2.2.1]; exact hlt), List.getElem?_eq_getElem _⟩
      have his := H.out.2.2.2.2.2.1
      obtain ⟨b, o, rfl, hbl, hc⟩ := his.r (by rintro rfl; simp at hm)
      have bw3 : Below w.heap.size w wr := H.out.1.trans (HB3.out.mono H.out.1.size)
      have d0 := (bw3.cell (p := ⟨b, o + k, none⟩) hbl).trans (hc k m hm)
      have h64 := his.i m (List.mem_of_getElem? hm)
      have x3 : Cells wr w.heap.size 54 #[.slice A n c, .slice A2 n2 c2] := (HB3.out.block _ (by have := H.out.2.1; omega)).trans H.out.2.2.1
      have y0 := x3.cell 0
      simp at y0
      have ht := allT_take okM hm
      have hmiss := fun hp => allT_miss (p := okM) hm hp
      have hft := foldl_take (R := R) (a := a) hm
      rw [hall] at ht
      rw [hf] at hft
      unfold i64 at h64
      cases hok : okM m with
      | false =>
        have hX1 : X = -1 := by rw [← H.out.2.2.2.2.2.2.2.2.1]; unfold runR; rw [hmiss hok]; rfl
        have HE := Lib.hid (And.intro hX1 bw3)
        have hok' : ¬ (0 ≤ m ∧ m < 37) := by unfold okM at hok; simp at hok; omega
        clear hX1 bw3 hmiss hft ht hok hall hf hx hm hc his x3
        by_cases h0 : m < 0
        · have j0 : decide (m < 0) = true := by simpa using h0
          go_wp2_with fail
          go_ret
          exact ⟨by rw [HE.out.1]; rfl, HE.out.2⟩
        · have j0 : decide (m < 0) = false := by simpa using h0
          have j1 : (37 : Int) ≤ m := by omega
          have j2 : decide ((37 : Int) ≤ m) = true := by simpa using j1
          go_wp2_with fail
          go_ret
          exact ⟨by rw [HE.out.1]; rfl, HE.out.2⟩
      | true =>
        obtain ⟨r, z, hr1, hr2, hr3, hr4⟩ := stR_ok H.out.2.2.2.2.1 (a := x) (m := m) (by rw [H.out.2.2.2.2.2.2.1]; exact hx) hok
        rw [H.out.2.2.2.2.2.2.1] at hr4
        have hR := H.out.2.2.2.1
        obtain ⟨b', o', rfl, hbl', hc'⟩ := hR.r (by rintro rfl; simp at hr1)
        obtain ⟨A', c', d1, his', _⟩ := hc' x.toNat r hr1
        obtain ⟨b2, o2, rfl, hbl2, hc2⟩ := his'.r (by rintro rfl; simp at hr2)
        have d2 := (bw3.cell (p := ⟨b', o' + x.toNat, none⟩) hbl').trans d1
        have d3 := (bw3.cell (p := ⟨b2, o2 + m.toNat, none⟩) hbl2).trans (hc2 m.toNat z hr2)
        have hrl : r.length = 37 := ((right_parts H.out.2.2.2.2.1).2.2.2 _ _ hr1).1
        rw [hrl] at d2
        have hx' := hx
        unfold okIx at hx'
        simp only [Bool.and_eq_true, decide_eq_true_eq] at hx'
        obtain ⟨x1, x2⟩ := hx'
        unfold okM at hok
        simp only [Bool.and_eq_true, decide_eq_true_eq] at hok
        obtain ⟨m1, m2⟩ := hok
        have j0 : decide (m < 0) = false := by simp; omega
        have j1 : decide ((37 : Int) ≤ m) = false := by simp; omega
        have hend : ∃ (k' : Nat) (x' : Int), Value.int .i64 z = .int .i64 x' ∧ Value.int .i64 ((k : Int) + 1) = .int .i64 (k' : Int) ∧ k' ≤ l ∧ (ms.take k').all okM = true ∧ (ms.take k').foldl (stR R) a = x' ∧ okIx n x' = true ∧ True :=
          ⟨k + 1, z, rfl, by simp, by omega, by rw [ht]; simp [okM, m1, m2], by rw [hft, hr3], hr4, trivial⟩
        have HEND := Lib.hid hend
        clear hend hft ht hmiss hr1 hr2 hr3 hr4 hall hf hx hm hc his x3 hR hc' hc2 his' hrl d1 bw3
        go_wp2_with fail
        go_roundw
        case rel => exact HEND.out
        case measure => simp [RowKit.intOf]; omega
    · obtain rfl : k = l := by omega
      have i5 : ¬ (k : Int) < (k : Int) := by omega
      have e1 : ms.take k = ms := by rw [← H.out.2.2.2.2.2.2.2.1, List.take_length]
      rw [e1] at hall hf
      have hX2 : X = x := by rw [← H.out.2.2.2.2.2.2.2.2.1]; unfold runR; rw [hall]; exact hf
      have HE := Lib.hid (And.intro hX2 (H.out.1.trans (HB3.out.mono H.out.1.size)))
      clear e1 hall hf hX2
      go_wp2_with fail
      go_ret
      exact ⟨by rw [HE.out.1]; rfl, HE.out.2⟩
end Go.Proofs.YtmldgfplnacecaaDoor

namespace Go.Proofs.YtmldgfplnacecaaDoor
open Go.RowKit Go.Shelf Go.Lib Go.Great Go.Maps

def tellR (R : List (List Int)) (T : List Nat) (a : Int) : Nat := if rightT R T && okIx R.length a then T.getD a.toNat 0 else 0
def NewOkD (w : World) (se : Bool) (s : St) (r : Ending) (w' : World) : Prop :=
  ∃ R T v e, r = .returned (.tuple #[v, .int .i64 e]) ∧ TbV w' R T v ∧ Below w.heap.size w w' ∧
    ((e = 7 ∧ R = [] ∧ T = [] ∧ ∃ S, Sv se s S ∧ 1000 < S.length) ∨ (e = 0 ∧ ∃ S, Bf se s S R T ∧ R.length = S.length ∧ S.length ≤ 1000))
theorem tbv_nil (w : World) : TbV w [] [] (.agg #[.slice none 0 0, .slice none 0 0]) :=
  ⟨none, 0, none, 0, rfl, ⟨Nat.le_refl _, by unfold maxLen; omega, fun _ => rfl, fun h => absurd rfl h⟩, ⟨Nat.le_refl _, by unfold maxLen; omega, fun _ => rfl, fun x hx => by simp at hx, fun h => absurd rfl h⟩⟩
set_option maxHeartbeats 4000000 in
set_option maxRecDepth 100000 in
theorem newD_nil (w : World) : Calls Tryd.prog 27 #[.pointer none] w fun r w' => r = .returned (.tuple #[.agg #[.slice none 0 0, .slice none 0 0], .int .i64 1]) ∧ Below w.heap.size w w' := by
  have bb := Lib.hid (below_new w (.cells #[.slice none 0 0, .slice none 0 0] 54))
  go_enter Tryd.func27, Tryd.ntmps27
  go_wp2_with fail
  refine bodyPost_ret (v := .tuple #[.agg #[.slice none 0 0, .slice none 0 0], .int .i64 1]) (by simp [results, Tryd.results27, go_sem]) rfl ⟨rfl, ?_⟩
  exact bb.out
set_option maxHeartbeats 4000000 in
set_option maxRecDepth 100000 in
theorem newD_any {q : Np} {n : Nat} {se : Bool} {s : St} {w : World} (h : NfaAt w q n se s) (hT : TZ w) (hP : PW w) : Calls Tryd.prog 27 #[.pointer (some ⟨q.b, 0, none⟩)] w (NewOkD w se s) := by
  obtain ⟨W0, hW0⟩ : ∃ W, w.alloc (.cells #[.slice none 0 0, .slice none 0 0] 54) = W := ⟨_, rfl⟩
  have b0 : Below w.heap.size w W0 := by rw [← hW0]; exact below_new _ _
  have z0 : W0.heap.size = w.heap.size + 1 := by rw [← hW0]; simp
  have x0 : Cells W0 w.heap.size 54 #[.slice none 0 0, .slice none 0 0] := by rw [← hW0]; exact cells_new _ _ _
  have C := build_any (h.below b0) (hT.below b0 hT.lt) (hP.below b0 hP.lt)
  have htl : ∀ x, tellsU s x < 18446744073709551616 := fun x => tellsU_lt h.t x
  have H := Lib.hid (And.intro b0 (And.intro z0 (And.intro x0 htl)))
  have HW := Lib.hid hW0
  have HC := Lib.hid C
  clear b0 z0 x0 hW0 C h hT hP htl
  go_enter Tryd.func27, Tryd.ntmps27
  go_wp2_with fail
  rw [HW.out]
  refine HC.out.mono ?_
  intro r w2 hr
  rcases hr with ⟨S, hS, h1000, rfl, hb⟩ | ⟨S, R, T, vN, vT, hB, hl, hs, rfl, ht⟩
  · have x2 : Cells w2 w.heap.size 54 #[.slice none 0 0, .slice none 0 0] := (hb.block _ (by have := H.out.2.1; omega)).trans H.out.2.2.1
    have e0 := x2.cell 0
    have e1 := x2.cell 1
    have f0 := x2.froz 0
    have f1 := x2.froz 1
    simp at e0 e1
    have HB := Lib.hid (And.intro (H.out.1.trans (hb.mono H.out.1.size)) (And.intro hS (And.intro h1000 x2)))
    clear hb hS h1000 x2
    go_wp2_with fail
    have xx := (HB.out.2.2.2.set 0 (.slice none 0 0)).set 1 (.slice none 0 0)
    have g0 := xx.cell 0
    have g1 := xx.cell 1
    simp at g0 g1
    refine bodyPost_ret (v := .tuple #[.agg #[.slice none 0 0, .slice none 0 0], .int .i64 7]) (by simp [results, Tryd.results27, go_sem, g0, g1]) rfl ?_
    exact ⟨[], [], _, 7, rfl, tbv_nil _, (HB.out.1.trans (set_below _ _ _ _ (Nat.le_refl _))).trans (set_below _ _ _ _ (Nat.le_refl _)), .inl ⟨rfl, rfl, rfl, S, HB.out.2.1, HB.out.2.2.1⟩⟩
  · have hv := tbv_of ht.rn ht.rt (fun x hx => by
      obtain ⟨i, hi⟩ := List.getElem?_of_mem hx
      obtain ⟨y, _, rfl⟩ := hB.t i x hi
      exact H.out.2.2.2 y)
    have hb := ht.low
    obtain ⟨A, c, A2, c2, e, hR, hT⟩ := hv
    injection e with e
    simp only [Array.mk.injEq, List.cons.injEq, and_true] at e
    obtain ⟨rfl, rfl⟩ := e
    have x2 : Cells w2 w.heap.size 54 #[.slice none 0 0, .slice none 0 0] := (hb.block _ (by have := H.out.2.1; omega)).trans H.out.2.2.1
    have e0 := x2.cell 0
    have e1 := x2.cell 1
    have f0 := x2.froz 0
    have f1 := x2.froz 1
    simp at e0 e1
    have HB := Lib.hid (And.intro (H.out.1.trans (hb.mono H.out.1.size)) (And.intro hB (And.intro hl (And.intro hs (And.intro x2 ht)))))
    obtain ⟨n1, hn1⟩ : ∃ n, R.length = n := ⟨_, rfl⟩
    obtain ⟨n2, hn2⟩ : ∃ n, T.length = n := ⟨_, rfl⟩
    have HN := Lib.hid (And.intro hn1 hn2)
    rw [hn1, hn2]
    clear hb hB hl hs x2 hR hT ht hn1 hn2
    go_wp2_with fail
    have xx := (HB.out.2.2.2.2.1.set 0 (.slice A n1 c)).set 1 (.slice A2 n2 c2)
    have g0 := xx.cell 0
    have g1 := xx.cell 1
    simp at g0 g1
    refine bodyPost_ret (v := .tuple #[.agg #[.slice A n1 c, .slice A2 n2 c2], .int .i64 0]) (by simp [results, Tryd.results27, go_sem, g0, g1]) rfl ?_
    refine ⟨R, T, .agg #[.slice A n1 c, .slice A2 n2 c2], 0, rfl, ?_, (HB.out.1.trans (set_below _ _ _ _ (Nat.le_refl _))).trans (set_below _ _ _ _ (Nat.le_refl _)), .inr ⟨rfl, S, HB.out.2.1, HB.out.2.2.1, HB.out.2.2.2.1⟩⟩
    rw [← HN.out.1, ← HN.out.2]
    have ho := HB.out.2.2.2.2.2
    have hz := H.out.2.1
    have m1 := grown_setc w2 w.heap.size 0 (.slice A R.length c)
    have m2 := grown_setc (w2.setCell ⟨w.heap.size, 0, none⟩ (.slice A R.length c)) w.heap.size 1 (.slice A2 T.length c2)
    have k1 : (Value.slice A R.length c).ownBlock ≠ some w.heap.size := fun e => by have := (ho.rn.lt _ e).1; omega
    have k2 : (Value.slice A2 T.length c2).ownBlock ≠ some w.heap.size := fun e => by have := (own_block_lt ho.rt _ e).1; omega
    refine tbv_of ((ho.rn.move (X' := fun b => W0.heap.size + 5 ≤ b) m1 (.inr k1) (fun b hb _ => ⟨hb, fun e => by injection e with e; omega⟩)).move (X' := fun b => W0.heap.size + 5 ≤ b) m2 (.inr k1) (fun b hb _ => ⟨hb, fun e => by injection e with e; omega⟩)) ((ho.rt.kept m1 (.inr k2)).kept m2 (.inr k2)) (fun x hx => ?_)
    obtain ⟨i, hi⟩ := List.getElem?_of_mem hx
    obtain ⟨y, _, rfl⟩ := HB.out.2.1.t i x hi
    exact H.out.2.2.2 y
end Go.Proofs.YtmldgfplnacecaaDoor

namespace Go.Proofs.YtmldgfplnacecaaDoor
open Go.RowKit Go.Shelf Go.Lib Go.Great Go.Maps

theorem mk_nil : mkN [] = st0 := rfl
theorem nextU_st0 (l : List Int) : nextU st0 l = 0 := by
  induction l with
  | nil => rfl
  | cons x r ih => unfold nextU; rw [ih]; simp [st0]
theorem nxt_st0 (se : Bool) (x : List Int) (m : Nat) : nxt se st0 x m = if se then [0] else [] := by
  rw [← nxt_eq]
  unfold stepM
  rw [nextU_st0]
  have z : (0 : Nat) &&& takersI st0 (m : Int) = 0 := Nat.zero_and _
  simp only [z]
  cases se
  · simp only [Bool.false_eq_true, if_false]
    decide +kernel
  · simp only [if_true]
    decide +kernel
theorem sv_all {se : Bool} {S : List (List Int)} (h : Sv se st0 S) {i : Nat} {y : List Int} (hy : S[i]? = some y) : y = [0] ∨ y = if se then [0] else [] := by
  rcases Nat.eq_zero_or_pos i with rfl | h0
  · rw [h.z] at hy
    injection hy with hy
    exact .inl hy.symm
  · obtain ⟨_, _, x, _, m, _, he⟩ := h.j i y h0 hy
    rw [nxt_st0] at he
    exact .inr he
theorem nodup_get {S : List (List Int)} (h : S.Nodup) {i j : Nat} {y : List Int} (hi : S[i]? = some y) (hj : S[j]? = some y) : i = j := by
  obtain ⟨h1, e1⟩ := List.getElem?_eq_some_iff.1 hi
  obtain ⟨h2, e2⟩ := List.getElem?_eq_some_iff.1 hj
  have hp := List.pairwise_iff_getElem.1 h
  rcases Nat.lt_trichotomy i j with hlt | rfl | hlt
  · exact absurd (e1.trans e2.symm) (hp i j h1 h2 hlt)
  · rfl
  · exact absurd (e2.trans e1.symm) (hp j i h2 h1 hlt)
theorem sv_true {S : List (List Int)} (h : Sv true st0 S) : S.length = 1 := by
  have hp := h.pos
  rcases Nat.lt_or_ge 1 S.length with h1 | h1
  · have e := sv_all h (List.getElem?_eq_getElem h1)
    have e2 : S[1] = [0] := by rcases e with e | e; exact e; simpa using e
    have := nodup_get h.nd h.z (show S[1]? = some [0] by rw [List.getElem?_eq_getElem h1, e2])
    omega
  · omega
theorem sv_false {S : List (List Int)} (h : Sv false st0 S) : S.length ≤ 2 := by
  rcases Nat.lt_or_ge 2 S.length with h2 | h2
  · have h1 : 1 < S.length := by omega
    have k1 : S[1] = [] := by
      rcases sv_all h (List.getElem?_eq_getElem h1) with e | e
      · have := nodup_get h.nd h.z (show S[1]? = some [0] by rw [List.getElem?_eq_getElem h1, e]); omega
      · simpa using e
    have k2 : S[2] = [] := by
      rcases sv_all h (List.getElem?_eq_getElem h2) with e | e
      · have := nodup_get h.nd h.z (show S[2]? = some [0] by rw [List.getElem?_eq_getElem h2, e]); omega
      · simpa using e
    have := nodup_get h.nd (show S[1]? = some [] by rw [List.getElem?_eq_getElem h1, k1]) (show S[2]? = some [] by rw [List.getElem?_eq_getElem h2, k2])
    omega
  · exact h2
/-- An entry of a table. -/
theorem bf_get {se : Bool} {s : St} {S R : List (List Int)} {T : List Nat} (h : Bf se s S R T) {i m : Nat} {x : List Int} (hx : S[i]? = some x) (hi : i < R.length) (hm : m < 37) : ∃ j : Nat, stR R (i : Int) (m : Int) = (j : Int) ∧ S[j]? = some (nxt se s x m) := by
  have hr : R[i]? = some R[i] := List.getElem?_eq_getElem hi
  obtain ⟨hl, y, hy, ho⟩ := h.r i _ hr
  rw [hx] at hy
  injection hy with hy
  subst hy
  have hv : R[i][m]? = some (R[i][m]'(by omega)) := List.getElem?_eq_getElem _
  obtain ⟨j, e, hj⟩ := ho m _ hv
  refine ⟨j, ?_, hj⟩
  unfold stR
  simp only [Int.toNat_natCast, List.getD_eq_getElem?_getD, hr, Option.getD_some, hv]
  exact e
theorem bf_right {se : Bool} {s : St} {S R : List (List Int)} {T : List Nat} (h : Bf se s S R T) (hl : R.length = S.length) (hs : S.length ≤ 1000) : rightT R T = true := by
  unfold rightT
  have hp := h.sv.pos
  simp only [Bool.and_eq_true, decide_eq_true_eq]
  refine ⟨⟨⟨by omega, by omega⟩, h.tl⟩, List.all_eq_true.2 fun r hr => ?_⟩
  obtain ⟨i, hi⟩ := List.getElem?_of_mem hr
  obtain ⟨hrl, x, hx, ho⟩ := h.r i r hi
  unfold rowOk
  simp only [Bool.and_eq_true, decide_eq_true_eq]
  refine ⟨hrl, List.all_eq_true.2 fun v hv => ?_⟩
  obtain ⟨m, hm⟩ := List.getElem?_of_mem hv
  obtain ⟨j, rfl, hj⟩ := ho m v hm
  have := (List.getElem?_eq_some_iff.1 hj).1
  unfold okIx
  simp only [Bool.and_eq_true, decide_eq_true_eq]
  omega
theorem ex_false {S R : List (List Int)} {T : List Nat} (h : Bf false st0 S R T) (hl : R.length = S.length) (hs : S.length ≤ 1000) : R.length = 2 ∧ rightT R T = true ∧ runR R 0 [36, 5] = 1 := by
  have hr := bf_right h hl hs
  have hp := h.sv.pos
  obtain ⟨j, hj, hj2⟩ := bf_get h h.sv.z (m := 36) (by omega) (by omega)
  rw [nxt_st0] at hj2
  simp only [Bool.false_eq_true, if_false] at hj2
  have hjl := (List.getElem?_eq_some_iff.1 hj2).1
  have h2 := sv_false h.sv
  have hj1 : j = 1 := by
    rcases Nat.eq_zero_or_pos j with rfl | hj0
    · rw [h.sv.z] at hj2; simp at hj2
    · omega
  subst hj1
  obtain ⟨k, hk, hk2⟩ := bf_get h hj2 (m := 5) (by omega) (by omega)
  rw [nxt_st0] at hk2
  simp only [Bool.false_eq_true, if_false] at hk2
  have hk1 := nodup_get h.sv.nd hj2 hk2
  subst hk1
  refine ⟨by omega, hr, ?_⟩
  unfold runR
  rw [show ([36, 5] : List Int).all okM = true by decide]
  simp only [if_true, List.foldl_cons, List.foldl_nil]
  have e1 : stR R 0 36 = 1 := hj
  rw [e1]
  exact hk
theorem ex_true {S R : List (List Int)} {T : List Nat} (h : Bf true st0 S R T) (hl : R.length = S.length) : R.length = 1 := by rw [hl]; exact sv_true h.sv
end Go.Proofs.YtmldgfplnacecaaDoor

namespace Go.Proofs.YtmldgfplnacecaaDoor
open Go.RowKit Go.Shelf Go.Lib Go.Great Go.Maps

theorem ks_nil (w : World) : KsAt w w.heap.size [] none 0 := ⟨Nat.le_refl _, by unfold maxLen; omega, fun _ => rfl, fun h => absurd rfl h⟩
theorem fault_nil : faultL [] = 0 := by decide +kernel
theorem is_ex (w : World) : IS (w.alloc (.cells #[.int .i64 36, .int .i64 5] 3)) (w.alloc (.cells #[.int .i64 36, .int .i64 5] 3)).heap.size [36, 5] (some ⟨w.heap.size, 0, none⟩) 2 :=
  ⟨by simp, by unfold maxLen; omega, fun x hx => by simp at hx; rcases hx with rfl | rfl <;> (unfold i64; omega), fun _ => ⟨_, 0, rfl, by simp, fun i x hx => by
    match i, hx with
    | 0, hx => simp at hx; subst hx; rw [World.cell?_alloc_new]; rfl
    | 1, hx => simp at hx; subst hx; rw [World.cell?_alloc_new]; rfl
    | i + 2, hx => simp at hx⟩⟩
set_option maxHeartbeats 4000000 in
set_option maxRecDepth 100000 in
theorem awake9_any (w : World) (hT : TZ w) (hP : PW w) : Calls Tryd.prog 26 #[] w fun r w' => r = .returned (.bool true) ∧ Below w.heap.size w w' := by
  have C1 := Lib.hid (new_any false [] none 0 w (ks_nil w) fault_nil hT)
  have H := Lib.hid (And.intro hT hP)
  clear hT hP
  go_enter Tryd.func26, Tryd.ntmps26
  go_wp2_with fail
  refine C1.out.mono ?_
  rintro r w1 ⟨q1, n1, rfl, _, hn1, hb1⟩
  have t1 := H.out.1.below hb1 H.out.1.lt
  have C2 := Lib.hid (new_any true [] none 0 w1 (ks_nil w1) fault_nil t1)
  have H1 := Lib.hid (And.intro hn1 (And.intro hb1 t1))
  clear hn1 hb1 t1
  go_wp2_with fail
  refine C2.out.mono ?_
  rintro r w2 ⟨q2, n2, rfl, _, hn2, hb2⟩
  have bw2 := H1.out.2.1.trans (hb2.mono H1.out.2.1.size)
  have C3 := Lib.hid (newD_any (H1.out.1.below hb2) (H1.out.2.2.below hb2 H1.out.2.2.lt) (H.out.2.below bw2 H.out.2.lt))
  have H2 := Lib.hid (And.intro hn2 bw2)
  clear hn2 hb2 bw2
  go_wp2_with fail
  refine C3.out.mono ?_
  rintro r w3 ⟨R1, T1, v1, e1, rfl, hv1, hb3, hc1⟩
  rw [mk_nil] at hc1
  rcases hc1 with ⟨_, _, _, S, hs, h1000⟩ | ⟨rfl, S1, hB1, hl1, hs1⟩
  · have := sv_false hs; omega
  obtain ⟨x1, x2, x3⟩ := ex_false hB1 hl1 hs1
  obtain ⟨A1, c1, A2, c2, rfl, hR1, hT1⟩ := hv1
  have l2 : T1.length = 2 := by rw [hB1.tl, x1]
  rw [x1, l2]
  have hv1 : TbV w3 R1 T1 (.agg #[.slice A1 2 c1, .slice A2 2 c2]) := ⟨A1, c1, A2, c2, by rw [x1, l2], hR1, hT1⟩
  have H3 := Lib.hid (And.intro hv1 (And.intro hb3 (And.intro x2 x3)))
  clear hv1 hb3 hB1 hl1 hs1 x1 x2 x3 hR1 hT1 l2
  obtain ⟨w4, hw4⟩ : ∃ W, w3.alloc (.cells #[.slice A1 2 c1, .slice A2 2 c2] 54) = W := ⟨_, rfl⟩
  have b4 : Below w3.heap.size w3 w4 := by rw [← hw4]; exact below_new _ _
  have y4 : Cells w4 w3.heap.size 54 #[.slice A1 2 c1, .slice A2 2 c2] := by rw [← hw4]; exact cells_new _ _ _
  have bw4 := H2.out.2.trans ((H3.out.2.1.trans (b4.mono H3.out.2.1.size)).mono H2.out.2.size)
  have HW4 := Lib.hid hw4
  have C5 := Lib.hid (newD_any (H2.out.1.below (H3.out.2.1.trans (b4.mono H3.out.2.1.size))) (H.out.1.below bw4 H.out.1.lt) (H.out.2.below bw4 H.out.2.lt))
  have H4 := Lib.hid (And.intro (H3.out.1.on b4) (And.intro y4 bw4))
  clear hw4 b4 y4 bw4
  go_wp2_with fail
  rw [HW4.out]
  refine C5.out.mono ?_
  rintro r w5 ⟨R2, T2, v2, e2, rfl, hv2, hb5, hc2⟩
  rw [mk_nil] at hc2
  rcases hc2 with ⟨_, _, _, S, hs, h1000⟩ | ⟨rfl, S2, hB2, hl2, hs2⟩
  · have := sv_true hs; omega
  have x1 := ex_true hB2 hl2
  obtain ⟨A3, c3, A4, c4, rfl, hR2, hT2⟩ := hv2
  have l1 : T2.length = 1 := by rw [hB2.tl, x1]
  rw [x1, l1]
  clear hB2 hl2 hs2 x1 hR2 hT2 l1
  have y5 : Cells w5 w3.heap.size 54 #[.slice A1 2 c1, .slice A2 2 c2] := (hb5.block _ H4.out.2.1.lt).trans H4.out.2.1
  have e0 := y5.cell 0
  have e1 := y5.cell 1
  simp at e0 e1
  have hv5 := H4.out.1.on hb5
  have bw5 := H4.out.2.2.trans (hb5.mono H4.out.2.2.size)
  obtain ⟨w6, hw6⟩ : ∃ W, w5.alloc (.cells #[.slice A3 1 c3, .slice A4 1 c4] 54) = W := ⟨_, rfl⟩
  have b6 : Below w5.heap.size w5 w6 := by rw [← hw6]; exact below_new _ _
  obtain ⟨w7, hw7⟩ : ∃ W, w6.alloc (.cells #[.int .i64 36, .int .i64 5] 3) = W := ⟨_, rfl⟩
  have b7 : Below w6.heap.size w6 w7 := by rw [← hw7]; exact below_new _ _
  have i7 := is_ex w6
  rw [hw7] at i7
  have C6 := run_right ((hv5.on b6).on b7) 0 (by unfold i64; omega) [36, 5] _ 2 i7 H3.out.2.2.1 (by
    have := (right_parts H3.out.2.2.1).1
    unfold okIx
    simp only [Bool.and_eq_true, decide_eq_true_eq]; omega)
  rw [H3.out.2.2.2] at C6
  have C6 : Calls Tryd.prog 47 #[.agg #[.slice A1 2 c1, .slice A2 2 c2], .int .i64 0, .slice (some ⟨w6.heap.size, 0, none⟩) 2 2] w7 fun r w' => r = .returned (.int .i64 1) ∧ Below w7.heap.size w7 w' := C6
  have z6 : w6.heap.size = w5.heap.size + 1 := by rw [← hw6]; simp
  rw [z6] at C6
  have HC6 := Lib.hid C6
  clear z6
  have HW := Lib.hid (And.intro hw6 hw7)
  have H5 := Lib.hid ((bw5.trans (b6.mono bw5.size)).trans (b7.mono (bw5.trans (b6.mono bw5.size)).size))
  have z5 : w3.heap.size < w5.heap.size := y5.lt
  clear C6 hw6 hw7 b6 b7 i7 hv5 bw5 y5 hb5
  go_wp2_with fail
  rw [HW.out.1, HW.out.2]
  refine HC6.out.mono ?_
  rintro r w8 ⟨rfl, hb8⟩
  have H8 := Lib.hid (H5.out.trans (hb8.mono H5.out.size))
  clear hb8
  go_wp2_with fail
  go_ret
  exact ⟨rfl, H8.out⟩
end Go.Proofs.YtmldgfplnacecaaDoor

namespace Go.Proofs.YtmldgfplnacecaaDoor
open Go.RowKit Go.Shelf Go.Lib Go.Great Go.Maps

theorem take_eq_snocN {xs ys : List Nat} {k : Nat} {x y : Nat} (h : xs.take k = ys.take k) (hx : xs[k]? = some x) (hy : ys[k]? = some y) (he : x = y) : xs.take (k + 1) = ys.take (k + 1) := by
  rw [List.take_add_one, List.take_add_one, h, hx, hy, he]
set_option maxHeartbeats 4000000 in
set_option maxRecDepth 100000 in
theorem same55_any (xs ys : List Int) (A A' : Option Addr) (cap cap' : Nat) (w : World) (hx : IS w w.heap.size xs A cap) (hy : IS w w.heap.size ys A' cap') :
    Calls Tryd.prog 65 #[.slice A xs.length cap, .slice A' ys.length cap'] w fun r w' => r = .returned (.bool (decide (xs = ys))) ∧ Below w.heap.size w w' := by
  have hl1 : xs.length ≤ 9223372036854775807 := by have := hx.l; have := hx.m; unfold maxLen at this; omega
  obtain ⟨R, hR⟩ : ∃ R, decide (xs = ys) = R := ⟨_, rfl⟩
  obtain ⟨N, hN⟩ : ∃ N, xs.length = N := ⟨_, rfl⟩
  obtain ⟨M, hM⟩ : ∃ M, ys.length = M := ⟨_, rfl⟩
  rw [hN] at hl1
  rw [hR, hN, hM]
  have HH := Lib.hid (And.intro hx (And.intro hy (And.intro hR (And.intro hN hM))))
  clear hx hy hR hN hM
  by_cases hlen : N = M
  · subst hlen
    go_enter Tryd.func65, Tryd.ntmps65
    go_wp2_with fail
    go_loopw [5] (fun i wr => ∃ k : Nat, i = .int .i64 (k : Int) ∧ k ≤ N ∧ xs.take k = ys.take k ∧ Below w.heap.size w wr) (fun i _ => N - (RowKit.intOf i).toNat)
    case atStart => exact ⟨0, rfl, by omega, by simp, Below.refl _ _⟩
    case round =>
      obtain ⟨k, rfl, hk, htk, hb⟩ := hrel
      by_cases hlt : k < N
      · have i1 : (k : Int) < (N : Int) := by omega
        obtain ⟨x, hx⟩ : ∃ x, xs[k]? = some x := ⟨xs[k]'(by rw [HH.out.2.2.2.1]; exact hlt), List.getElem?_eq_getElem _⟩
        obtain ⟨y, hy⟩ : ∃ y, ys[k]? = some y := ⟨ys[k]'(by rw [HH.out.2.2.2.2]; exact hlt), List.getElem?_eq_getElem _⟩
        obtain ⟨b, o, rfl, hbl, hc⟩ := HH.out.1.r (by rintro rfl; simp at hx)
        obtain ⟨b', o', rfl, hbl', hc'⟩ := HH.out.2.1.r (by rintro rfl; simp at hy)
        have d0 : wr.cell? ⟨b, o + k, none⟩ = some (.int .i64 x) := (hb.cell (p := ⟨b, o + k, none⟩) hbl).trans (hc k x hx)
        have d1 : wr.cell? ⟨b', o' + k, none⟩ = some (.int .i64 y) := (hb.cell (p := ⟨b', o' + k, none⟩) hbl').trans (hc' k y hy)
        have HK := Lib.hid (And.intro htk (And.intro hb (And.intro hx hy)))
        clear htk hb hc hc' hx hy
        by_cases he : x = y
        · have hq : (x == y) = true := by simpa using he
          have HE := Lib.hid he
          clear he
          go_wp2_with fail
          go_region
          go_wp2_with fail
          go_roundw
          case rel => exact ⟨k + 1, by go_num, by omega, take_eq_snoc HK.out.1 HK.out.2.2.1 HK.out.2.2.2 HE.out, HK.out.2.1.drew⟩
          case measure => simp [RowKit.intOf]; omega
        · have hq : (x == y) = false := by simpa using he
          have : R = false := by
            rw [← HH.out.2.2.1]
            simp only [decide_eq_false_iff_not]
            intro e
            have h1 := HK.out.2.2.1
            rw [e, HK.out.2.2.2] at h1
            injection h1 with h1
            exact he h1.symm
          subst this
          clear he
          go_wp2_with fail
          go_region
          go_wp2_with fail
          go_ret
          exact ⟨rfl, HK.out.2.1.drew⟩
      · obtain rfl : k = N := by omega
        have i1 : ¬ (k : Int) < (k : Int) := by omega
        have : R = true := by
          rw [← HH.out.2.2.1]
          have e1 : xs.take k = xs := by rw [← HH.out.2.2.2.1, List.take_length]
          have e2 : ys.take k = ys := by rw [← HH.out.2.2.2.2, List.take_length]
          rw [e1, e2] at htk
          simp [htk]
        subst this
        have HB := Lib.hid hb
        clear hb htk
        go_wp2_with fail
        go_ret
        exact ⟨rfl, HB.out⟩
  · have hq : ((N : Int) == (M : Int)) = false := by simp; omega
    have : R = false := by
      rw [← HH.out.2.2.1]
      simp only [decide_eq_false_iff_not]
      intro e
      have := HH.out.2.2.2
      rw [e] at this
      omega
    subst this
    go_enter Tryd.func65, Tryd.ntmps65
    go_wp2_with fail
    go_ret
    exact ⟨rfl, Below.refl _ _⟩
set_option maxHeartbeats 4000000 in
set_option maxRecDepth 100000 in
theorem eq61_any (xs ys : List Int) (A A' : Option Addr) (cap cap' : Nat) (w : World) (hx : IS w w.heap.size xs A cap) (hy : IS w w.heap.size ys A' cap') :
    Calls Tryd.prog 68 #[.slice A xs.length cap, .slice A' ys.length cap'] w fun r w' => r = .returned (.bool (decide (xs = ys))) ∧ Below w.heap.size w w' := by
  have hl1 : xs.length ≤ 9223372036854775807 := by have := hx.l; have := hx.m; unfold maxLen at this; omega
  obtain ⟨R, hR⟩ : ∃ R, decide (xs = ys) = R := ⟨_, rfl⟩
  obtain ⟨N, hN⟩ : ∃ N, xs.length = N := ⟨_, rfl⟩
  obtain ⟨M, hM⟩ : ∃ M, ys.length = M := ⟨_, rfl⟩
  rw [hN] at hl1
  rw [hR, hN, hM]
  have HH := Lib.hid (And.intro hx (And.intro hy (And.intro hR (And.intro hN hM))))
  clear hx hy hR hN hM
  by_cases hlen : N = M
  · subst hlen
    go_enter Tryd.func68, Tryd.ntmps68
    go_wp2_with fail
    go_loopw [13] (fun i wr => ∃ k : Nat, i = .int .i64 (k : Int) ∧ k ≤ N ∧ xs.take k = ys.take k ∧ Below w.heap.size w wr) (fun i _ => N - (RowKit.intOf i).toNat)
    case atStart => exact ⟨0, rfl, by omega, by simp, Below.refl _ _⟩
    case round =>
      obtain ⟨k, rfl, hk, htk, hb⟩ := hrel
      by_cases hlt : k < N
      · have i1 : (k : Int) < (N : Int) := by omega
        obtain ⟨x, hx⟩ : ∃ x, xs[k]? = some x := ⟨xs[k]'(by rw [HH.out.2.2.2.1]; exact hlt), List.getElem?_eq_getElem _⟩
        obtain ⟨y, hy⟩ : ∃ y, ys[k]? = some y := ⟨ys[k]'(by rw [HH.out.2.2.2.2]; exact hlt), List.getElem?_eq_getElem _⟩
        obtain ⟨b, o, rfl, hbl, hc⟩ := HH.out.1.r (by rintro rfl; simp at hx)
        obtain ⟨b', o', rfl, hbl', hc'⟩ := HH.out.2.1.r (by rintro rfl; simp at hy)
        have d0 : wr.cell? ⟨b, o + k, none⟩ = some (.int .i64 x) := (hb.cell (p := ⟨b, o + k, none⟩) hbl).trans (hc k x hx)
        have d1 : wr.cell? ⟨b', o' + k, none⟩ = some (.int .i64 y) := (hb.cell (p := ⟨b', o' + k, none⟩) hbl').trans (hc' k y hy)
        have HK := Lib.hid (And.intro htk (And.intro hb (And.intro hx hy)))
        clear htk hb hc hc' hx hy
        by_cases he : x = y
        · have hq : (x == y) = true := by simpa using he
          have HE := Lib.hid he
          clear he
          go_wp2_with fail
          go_region
          go_wp2_with fail
          go_roundw
          case rel => exact ⟨k + 1, by go_num, by omega, take_eq_snoc HK.out.1 HK.out.2.2.1 HK.out.2.2.2 HE.out, HK.out.2.1.drew⟩
          case measure => simp [RowKit.intOf]; omega
        · have hq : (x == y) = false := by simpa using he
          have : R = false := by
            rw [← HH.out.2.2.1]
            simp only [decide_eq_false_iff_not]
            intro e
            have h1 := HK.out.2.2.1
            rw [e, HK.out.2.2.2] at h1
            injection h1 with h1
            exact he h1.symm
          subst this
          clear he
          go_wp2_with fail
          go_region
          go_wp2_with fail
          go_ret
          exact ⟨rfl, HK.out.2.1.drew⟩
      · obtain rfl : k = N := by omega
        have i1 : ¬ (k : Int) < (k : Int) := by omega
        have : R = true := by
          rw [← HH.out.2.2.1]
          have e1 : xs.take k = xs := by rw [← HH.out.2.2.2.1, List.take_length]
          have e2 : ys.take k = ys := by rw [← HH.out.2.2.2.2, List.take_length]
          rw [e1, e2] at htk
          simp [htk]
        subst this
        have HB := Lib.hid hb
        clear hb htk
        go_wp2_with fail
        go_ret
        exact ⟨rfl, HB.out⟩
  · have hq : ((N : Int) == (M : Int)) = false := by simp; omega
    have : R = false := by
      rw [← HH.out.2.2.1]
      simp only [decide_eq_false_iff_not]
      intro e
      have := HH.out.2.2.2
      rw [e] at this
      omega
    subst this
    go_enter Tryd.func68, Tryd.ntmps68
    go_wp2_with fail
    go_ret
    exact ⟨rfl, Below.refl _ _⟩
set_option maxHeartbeats 4000000 in
set_option maxRecDepth 100000 in
theorem eq62_any (xs ys : List Nat) (A A' : Option Addr) (cap cap' : Nat) (w : World) (hx : UsAt w w.heap.size xs A cap) (hy : UsAt w w.heap.size ys A' cap') :
    Calls Tryd.prog 79 #[.slice A xs.length cap, .slice A' ys.length cap'] w fun r w' => r = .returned (.bool (decide (xs = ys))) ∧ Below w.heap.size w w' := by
  have hl1 : xs.length ≤ 9223372036854775807 := by have := hx.l; have := hx.m; unfold maxLen at this; omega
  obtain ⟨R, hR⟩ : ∃ R, decide (xs = ys) = R := ⟨_, rfl⟩
  obtain ⟨N, hN⟩ : ∃ N, xs.length = N := ⟨_, rfl⟩
  obtain ⟨M, hM⟩ : ∃ M, ys.length = M := ⟨_, rfl⟩
  rw [hN] at hl1
  rw [hR, hN, hM]
  have HH := Lib.hid (And.intro hx (And.intro hy (And.intro hR (And.intro hN hM))))
  clear hx hy hR hN hM
  by_cases hlen : N = M
  · subst hlen
    go_enter Tryd.func79, Tryd.ntmps79
    go_wp2_with fail
    go_loopw [13] (fun i wr => ∃ k : Nat, i = .int .i64 (k : Int) ∧ k ≤ N ∧ xs.take k = ys.take k ∧ Below w.heap.size w wr) (fun i _ => N - (RowKit.intOf i).toNat)
    case atStart => exact ⟨0, rfl, by omega, by simp, Below.refl _ _⟩
    case round =>
      obtain ⟨k, rfl, hk, htk, hb⟩ := hrel
      by_cases hlt : k < N
      · have i1 : (k : Int) < (N : Int) := by omega
        obtain ⟨x, hx⟩ : ∃ x, xs[k]? = some x := ⟨xs[k]'(by rw [HH.out.2.2.2.1]; exact hlt), List.getElem?_eq_getElem _⟩
        obtain ⟨y, hy⟩ : ∃ y, ys[k]? = some y := ⟨ys[k]'(by rw [HH.out.2.2.2.2]; exact hlt), List.getElem?_eq_getElem _⟩
        obtain ⟨b, o, rfl, hbl, hc⟩ := HH.out.1.r (by rintro rfl; simp at hx)
        obtain ⟨b', o', rfl, hbl', hc'⟩ := HH.out.2.1.r (by rintro rfl; simp at hy)
        have d0 : wr.cell? ⟨b, o + k, none⟩ = some (.int .u64 (x : Int)) := (hb.cell (p := ⟨b, o + k, none⟩) hbl).trans (hc k x hx)
        have d1 : wr.cell? ⟨b', o' + k, none⟩ = some (.int .u64 (y : Int)) := (hb.cell (p := ⟨b', o' + k, none⟩) hbl').trans (hc' k y hy)
        have HK := Lib.hid (And.intro htk (And.intro hb (And.intro hx hy)))
        clear htk hb hc hc' hx hy
        by_cases he : x = y
        · have hq : ((x : Int) == (y : Int)) = true := by simp; omega
          have HE := Lib.hid he
          clear he
          go_wp2_with fail
          go_region
          go_wp2_with fail
          go_roundw
          case rel => exact ⟨k + 1, by go_num, by omega, take_eq_snocN HK.out.1 HK.out.2.2.1 HK.out.2.2.2 HE.out, HK.out.2.1.drew⟩
          case measure => simp [RowKit.intOf]; omega
        · have hq : ((x : Int) == (y : Int)) = false := by simp; omega
          have : R = false := by
            rw [← HH.out.2.2.1]
            simp only [decide_eq_false_iff_not]
            intro e
            have h1 := HK.out.2.2.1
            rw [e, HK.out.2.2.2] at h1
            injection h1 with h1
            exact he h1.symm
          subst this
          clear he
          go_wp2_with fail
          go_region
          go_wp2_with fail
          go_ret
          exact ⟨rfl, HK.out.2.1.drew⟩
      · obtain rfl : k = N := by omega
        have i1 : ¬ (k : Int) < (k : Int) := by omega
        have : R = true := by
          rw [← HH.out.2.2.1]
          have e1 : xs.take k = xs := by rw [← HH.out.2.2.2.1, List.take_length]
          have e2 : ys.take k = ys := by rw [← HH.out.2.2.2.2, List.take_length]
          rw [e1, e2] at htk
          simp [htk]
        subst this
        have HB := Lib.hid hb
        clear hb htk
        go_wp2_with fail
        go_ret
        exact ⟨rfl, HB.out⟩
  · have hq : ((N : Int) == (M : Int)) = false := by simp; omega
    have : R = false := by
      rw [← HH.out.2.2.1]
      simp only [decide_eq_false_iff_not]
      intro e
      have := HH.out.2.2.2
      rw [e] at this
      omega
    subst this
    go_enter Tryd.func79, Tryd.ntmps79
    go_wp2_with fail
    go_ret
    exact ⟨rfl, Below.refl _ _⟩
end Go.Proofs.YtmldgfplnacecaaDoor

namespace Go.Proofs.YtmldgfplnacecaaDoor
open Go.RowKit Go.Shelf Go.Lib Go.Great Go.Maps

def greatT (R : List (List Int)) (T : List Nat) : Bool := decide (20 < R.length) || decide (20 < T.length) || R.any fun r => decide (60 < r.length)
theorem anyT_take {α : Type} {xs : List α} {k : Nat} {x : α} (p : α → Bool) (h : xs[k]? = some x) : (xs.take (k + 1)).any p = ((xs.take k).any p || p x) := by
  rw [List.take_add_one, h, Option.toList_some, List.any_append]
  simp
set_option maxHeartbeats 4000000 in
set_option maxRecDepth 100000 in
theorem great_tab {R : List (List Int)} {T : List Nat} {v : Value} {w : World} (h : TbV w R T v) : Calls Tryd.prog 31 #[v] w fun r w' => r = .returned (.bool (greatT R T)) ∧ Below w.heap.size w w' := by
  obtain ⟨A, c, A2, c2, rfl, hR, hT⟩ := h
  obtain ⟨W0, hW0⟩ : ∃ W, w.alloc (.cells #[.slice A R.length c, .slice A2 T.length c2] 63) = W := ⟨_, rfl⟩
  have b0 : Below w.heap.size w W0 := by rw [← hW0]; exact below_new _ _
  have z0 : W0.heap.size = w.heap.size + 1 := by rw [← hW0]; simp
  have x0 : Cells W0 w.heap.size 63 #[.slice A R.length c, .slice A2 T.length c2] := by rw [← hW0]; exact cells_new _ _ _
  have n1 : R.length ≤ 9223372036854775807 := by have := hR.l; have := hR.m; unfold maxLen at this; omega
  have n2' : T.length ≤ 9223372036854775807 := by have := hT.l; have := hT.m; unfold maxLen at this; omega
  obtain ⟨X, hX⟩ : ∃ X, greatT R T = X := ⟨_, rfl⟩
  rw [hX]
  have hX1 : 20 < R.length ∨ 20 < T.length → X = true := fun e => by
    rw [← hX]; unfold greatT
    rcases e with e | e <;> simp [e]
  have hX2 : R.length ≤ 20 → T.length ≤ 20 → X = R.any fun r => decide (60 < r.length) := fun e1 e2 => by
    rw [← hX]; unfold greatT
    simp [show ¬ 20 < R.length by omega, show ¬ 20 < T.length by omega]
  obtain ⟨n, hn⟩ : ∃ n, R.length = n := ⟨_, rfl⟩
  obtain ⟨n2, hn2⟩ : ∃ n, T.length = n := ⟨_, rfl⟩
  rw [hn, hn2] at x0 hW0 hX1 hX2 ⊢
  rw [hn] at n1
  rw [hn2] at n2'
  have e0 := x0.cell 0
  have e1 := x0.cell 1
  simp at e0 e1
  have H := Lib.hid (And.intro b0 (And.intro z0 (And.intro x0 (And.intro hR (And.intro hn (And.intro hX1 hX2))))))
  have HW := Lib.hid hW0
  clear b0 z0 x0 hW0 hR hT hn hn2 hX hX1 hX2
  by_cases h1 : 20 < n
  · have i1 : (20 : Int) < n := by omega
    have j1 : decide ((20 : Int) < n) = true := by simpa using i1
    go_enter Tryd.func31, Tryd.ntmps31
    go_wp2_with fail
    rw [HW.out]
    go_ret
    exact ⟨ret_bool (H.out.2.2.2.2.2.1 (.inl h1)).symm, H.out.1⟩
  · have i1 : ¬ (20 : Int) < n := by omega
    have j1 : decide ((20 : Int) < n) = false := by simpa using i1
    by_cases h2 : 20 < n2
    · have i2 : (20 : Int) < n2 := by omega
      have j2 : decide ((20 : Int) < n2) = true := by simpa using i2
      go_enter Tryd.func31, Tryd.ntmps31
      go_wp2_with fail
      rw [HW.out]
      go_ret
      exact ⟨ret_bool (H.out.2.2.2.2.2.1 (.inr h2)).symm, H.out.1⟩
    · have i2 : ¬ (20 : Int) < n2 := by omega
      have j2 : decide ((20 : Int) < n2) = false := by simpa using i2
      have hXX := Lib.hid (H.out.2.2.2.2.2.2 (by omega) (by omega))
      go_enter Tryd.func31, Tryd.ntmps31
      go_wp2_with fail
      rw [HW.out]
      go_loopw [3] (fun i wr => ∃ k : Nat, i = .int .i64 (k : Int) ∧ k ≤ n ∧ ((R.take k).any fun r => decide (60 < r.length)) = false ∧ wr = W0) (fun i _ => n - (RowKit.intOf i).toNat)
      case atStart => exact ⟨0, rfl, by omega, rfl, rfl⟩
      case round =>
        obtain ⟨k, rfl, hk, hno, hw⟩ := hrel
        obtain rfl := hw.symm
        by_cases hlt : k < n
        · have i5 : (k : Int) < (n : Int) := by omega
          obtain ⟨x, hx⟩ : ∃ x, R[k]? = some x := ⟨R[k]'(by rw [H.out.2.2.2.2.1]; exact hlt), List.getElem?_eq_getElem _⟩
          obtain ⟨b, o, rfl, hbl, hc⟩ := H.out.2.2.2.1.r (by rintro rfl; simp at hx)
          obtain ⟨A', c', d0, his, _⟩ := hc k x hx
          have d1 := (H.out.1.cell (p := ⟨b, o + k, none⟩) hbl).trans d0
          have ht := anyT_take (fun r : List Int => decide (60 < r.length)) hx
          have hh : decide (60 < x.length) = true → (R.any fun r => decide (60 < r.length)) = true := fun hp => List.any_eq_true.2 ⟨x, List.mem_of_getElem? hx, hp⟩
          rw [hno] at ht
          have hxl : x.length ≤ 9223372036854775807 := by have := his.l; have := his.m; unfold maxLen at this; omega
          obtain ⟨l, hl⟩ : ∃ l, x.length = l := ⟨_, rfl⟩
          rw [hl] at d1 hxl hh
          have ht : ((R.take (k + 1)).any fun r => decide (60 < r.length)) = (false || decide (60 < l)) := by rw [ht, hl]
          have HK := Lib.hid (And.intro ht hh)
          clear ht hh hno hx hc d0 his hl hw
          by_cases h60 : 60 < l
          · have i6 : (60 : Int) < l := by omega
            go_wp2_with fail
            go_ret
            exact ⟨ret_bool (by rw [hXX.out]; exact (HK.out.2 (by simpa using h60)).symm), H.out.1⟩
          · have i6 : ¬ (60 : Int) < l := by omega
            go_wp2_with fail
            go_roundw
            case rel => exact ⟨k + 1, by go_num, by omega, by rw [HK.out.1]; simpa using h60, trivial⟩
            case measure => simp [RowKit.intOf]; omega
        · obtain rfl : k = n := by omega
          have i5 : ¬ (k : Int) < (k : Int) := by omega
          have e1 : R.take k = R := by rw [← H.out.2.2.2.2.1, List.take_length]
          rw [e1] at hno
          have HB := Lib.hid hno
          clear e1 hno hw
          go_wp2_with fail
          go_ret
          exact ⟨ret_bool (by rw [hXX.out]; exact HB.out.symm), H.out.1⟩
set_option maxHeartbeats 4000000 in
set_option maxRecDepth 100000 in
theorem to_tab (A A2 : Option Addr) (n c n2 c2 : Nat) (w : World) : Calls Tryd.prog 32 #[.agg #[.slice A n c, .slice A2 n2 c2]] w fun r w' => r = .returned (.agg #[.slice A n c, .slice A2 n2 c2]) ∧ Below w.heap.size w w' := by
  go_enter Tryd.func32, Tryd.ntmps32
  go_wp2_with fail
  refine bodyPost_ret (v := .agg #[.slice A n c, .slice A2 n2 c2]) (by simp [results, Tryd.results32, go_sem]) rfl ⟨rfl, ?_⟩
  exact (below_new w _).trans ((below_new _ _).mono (by simp))
end Go.Proofs.YtmldgfplnacecaaDoor

namespace Go.Proofs.YtmldgfplnacecaaDoor
open Go.RowKit Go.Shelf Go.Lib Go.Great Go.Maps

theorem take_eq_snocR {xs ys : List (List Int)} {k : Nat} {x y : List Int} (h : xs.take k = ys.take k) (hx : xs[k]? = some x) (hy : ys[k]? = some y) (he : x = y) : xs.take (k + 1) = ys.take (k + 1) := by
  rw [List.take_add_one, List.take_add_one, h, hx, hy, he]
set_option maxHeartbeats 4000000 in
set_option maxRecDepth 100000 in
theorem eqf_any (xs ys : List (List Int)) (A A' : Option Addr) (cap cap' : Nat) (w : World) (hx : RsAt w w.heap.size xs A cap) (hy : RsAt w w.heap.size ys A' cap') :
    Calls Tryd.prog 78 #[.slice A xs.length cap, .slice A' ys.length cap', .func (.func 68) #[] #[]] w fun r w' => r = .returned (.bool (decide (xs = ys))) ∧ Below w.heap.size w w' := by
  have hl1 : xs.length ≤ 9223372036854775807 := by have := hx.l; have := hx.m; unfold maxLen at this; omega
  obtain ⟨R, hR⟩ : ∃ R, decide (xs = ys) = R := ⟨_, rfl⟩
  obtain ⟨N, hN⟩ : ∃ N, xs.length = N := ⟨_, rfl⟩
  obtain ⟨M, hM⟩ : ∃ M, ys.length = M := ⟨_, rfl⟩
  rw [hN] at hl1
  rw [hR, hN, hM]
  have HH := Lib.hid (And.intro hx (And.intro hy (And.intro hR (And.intro hN hM))))
  clear hx hy hR hN hM
  by_cases hlen : N = M
  · subst hlen
    have hq0 : ((N : Int) == (N : Int)) = true := by simp
    go_enter Tryd.func78, Tryd.ntmps78
    go_wp2_with fail
    go_loopw [17] (fun i wr => ∃ k : Nat, i = .int .i64 (k : Int) ∧ k ≤ N ∧ xs.take k = ys.take k ∧ Below w.heap.size w wr) (fun i _ => N - (RowKit.intOf i).toNat)
    case atStart => exact ⟨0, rfl, by omega, by simp, Below.refl _ _⟩
    case round =>
      obtain ⟨k, rfl, hk, htk, hb⟩ := hrel
      by_cases hlt : k < N
      · have i1 : (k : Int) < (N : Int) := by omega
        obtain ⟨x, hx⟩ : ∃ x, xs[k]? = some x := ⟨xs[k]'(by rw [HH.out.2.2.2.1]; exact hlt), List.getElem?_eq_getElem _⟩
        obtain ⟨y, hy⟩ : ∃ y, ys[k]? = some y := ⟨ys[k]'(by rw [HH.out.2.2.2.2]; exact hlt), List.getElem?_eq_getElem _⟩
        obtain ⟨b, o, rfl, hbl, hc⟩ := HH.out.1.r (by rintro rfl; simp at hx)
        obtain ⟨b', o', rfl, hbl', hc'⟩ := HH.out.2.1.r (by rintro rfl; simp at hy)
        obtain ⟨A1, c1, x1, x2, _⟩ := hc k x hx
        obtain ⟨A2, c2, y1, y2, _⟩ := hc' k y hy
        have d0 := (hb.cell (p := ⟨b, o + k, none⟩) hbl).trans x1
        have d1 := (hb.cell (p := ⟨b', o' + k, none⟩) hbl').trans y1
        have C := eq61_any x y A1 A2 c1 c2 wr ((x2.below hb).mono hb.size) ((y2.below hb).mono hb.size)
        obtain ⟨lx, hlx⟩ : ∃ n, x.length = n := ⟨_, rfl⟩
        obtain ⟨ly, hly⟩ : ∃ n, y.length = n := ⟨_, rfl⟩
        rw [hlx] at C d0
        rw [hly] at C d1
        have HK := Lib.hid (And.intro htk (And.intro hb (And.intro hx hy)))
        by_cases he : x = y
        · have hq : decide (x = y) = true := by simpa using he
          rw [hq] at C
          have HC := Lib.hid C
          have HE := Lib.hid he
          clear he hq C htk hb hc hc' hx hy x1 x2 y1 y2 hlx hly
          go_wp2_with fail
          refine HC.out.mono ?_
          rintro r w2 ⟨rfl, hb2⟩
          have HB := Lib.hid (HK.out.2.1.trans (hb2.mono HK.out.2.1.size))
          clear hb2
          go_wp2_with fail
          go_roundw
          case rel => exact ⟨k + 1, by go_num, by omega, take_eq_snocR HK.out.1 HK.out.2.2.1 HK.out.2.2.2 HE.out, HB.out⟩
          case measure => simp [RowKit.intOf]; omega
        · have hq : decide (x = y) = false := by simpa using he
          rw [hq] at C
          have HC := Lib.hid C
          have : R = false := by
            rw [← HH.out.2.2.1]
            simp only [decide_eq_false_iff_not]
            intro e
            have h1 := HK.out.2.2.1
            rw [e, HK.out.2.2.2] at h1
            injection h1 with h1
            exact he h1.symm
          subst this
          clear he hq C htk hb hc hc' hx hy x1 x2 y1 y2 hlx hly
          go_wp2_with fail
          refine HC.out.mono ?_
          rintro r w2 ⟨rfl, hb2⟩
          have HB := Lib.hid (HK.out.2.1.trans (hb2.mono HK.out.2.1.size))
          clear hb2
          go_wp2_with fail
          go_ret
          exact ⟨rfl, HB.out⟩
      · obtain rfl : k = N := by omega
        have i1 : ¬ (k : Int) < (k : Int) := by omega
        have : R = true := by
          rw [← HH.out.2.2.1]
          have e1 : xs.take k = xs := by rw [← HH.out.2.2.2.1, List.take_length]
          have e2 : ys.take k = ys := by rw [← HH.out.2.2.2.2, List.take_length]
          rw [e1, e2] at htk
          simp [htk]
        subst this
        have HB := Lib.hid hb
        clear hb htk
        go_wp2_with fail
        go_ret
        exact ⟨rfl, HB.out⟩
  · have hq : ((N : Int) == (M : Int)) = false := by simp; omega
    have : R = false := by
      rw [← HH.out.2.2.1]
      simp only [decide_eq_false_iff_not]
      intro e
      have := HH.out.2.2.2
      rw [e] at this
      omega
    subst this
    go_enter Tryd.func78, Tryd.ntmps78
    go_wp2_with fail
    go_ret
    exact ⟨rfl, Below.refl _ _⟩
set_option maxHeartbeats 4000000 in
set_option maxRecDepth 100000 in
theorem sameD_any {R R' : List (List Int)} {T T' : List Nat} {v v' : Value} {w : World} (h : TbV w R T v) (h' : TbV w R' T' v') :
    Calls Tryd.prog 46 #[v, v'] w fun r w' => r = .returned (.bool (decide (R = R') && decide (T = T'))) ∧ Below w.heap.size w w' := by
  obtain ⟨A, c, A2, c2, rfl, hR, hT⟩ := h
  obtain ⟨A', c', A2', c2', rfl, hR', hT'⟩ := h'
  obtain ⟨W0, hW0⟩ : ∃ W, (w.alloc (.cells #[.slice A R.length c, .slice A2 T.length c2] 54)).alloc (.cells #[.slice A' R'.length c', .slice A2' T'.length c2'] 54) = W := ⟨_, rfl⟩
  have b0 : Below w.heap.size w W0 := by rw [← hW0]; exact (below_new w _).trans ((below_new _ _).mono (by simp))
  have z0 : W0.heap.size = w.heap.size + 1 + 1 := by rw [← hW0]; simp
  have x0 : Cells W0 w.heap.size 54 #[.slice A R.length c, .slice A2 T.length c2] := by rw [← hW0]; exact ((below_new _ _).block _ (by simp)).trans (cells_new _ _ _)
  have x1 : Cells W0 (w.heap.size + 1) 54 #[.slice A' R'.length c', .slice A2' T'.length c2'] := by
    rw [← hW0]
    have := cells_new (w.alloc (.cells #[.slice A R.length c, .slice A2 T.length c2] 54)) #[.slice A' R'.length c', .slice A2' T'.length c2'] 54
    simpa using this
  have C1 := eqf_any R R' A A' c c' W0 (hR.on b0) (hR'.on b0)
  have C2 := fun w' (hb : Below W0.heap.size W0 w') => eq62_any T T' A2 A2' c2 c2' w' ((hT.on b0).on hb) ((hT'.on b0).on hb)
  have e0 := x0.cell 0
  have e1 := x0.cell 1
  have e2 := x1.cell 0
  have e3 := x1.cell 1
  simp at e0 e1 e2 e3
  obtain ⟨n1, hn1⟩ : ∃ n, R.length = n := ⟨_, rfl⟩
  obtain ⟨n2, hn2⟩ : ∃ n, T.length = n := ⟨_, rfl⟩
  obtain ⟨n3, hn3⟩ : ∃ n, R'.length = n := ⟨_, rfl⟩
  obtain ⟨n4, hn4⟩ : ∃ n, T'.length = n := ⟨_, rfl⟩
  rw [hn1, hn2] at hW0 x0
  rw [hn1] at C1 e0
  rw [hn2] at C2 e1
  rw [hn3] at C1 e2
  rw [hn3, hn4] at hW0 x1
  rw [hn4] at C2 e3
  rw [hn1, hn2, hn3, hn4]
  generalize decide (R = R') = p at *
  generalize decide (T = T') = q at *
  have H := Lib.hid (And.intro b0 (And.intro z0 (And.intro x0 x1)))
  have HW := Lib.hid hW0
  have HC1 := Lib.hid C1
  have HC2 := Lib.hid C2
  clear b0 z0 x0 x1 hW0 C1 C2 hR hT hR' hT' hn1 hn2 hn3 hn4
  cases p
  · go_enter Tryd.func46, Tryd.ntmps46
    go_wp2_with fail
    rw [HW.out]
    refine HC1.out.mono ?_
    rintro r w2 ⟨rfl, hb⟩
    have HB := Lib.hid (H.out.1.trans (hb.mono H.out.1.size))
    clear hb
    go_wp2_with fail
    go_ret
    exact ⟨rfl, HB.out⟩
  · go_enter Tryd.func46, Tryd.ntmps46
    go_wp2_with fail
    rw [HW.out]
    refine HC1.out.mono ?_
    rintro r w2 ⟨rfl, hb⟩
    have y0 : Cells w2 w.heap.size 54 #[.slice A n1 c, .slice A2 n2 c2] := (hb.block _ H.out.2.2.1.lt).trans H.out.2.2.1
    have y1 : Cells w2 (w.heap.size + 1) 54 #[.slice A' n3 c', .slice A2' n4 c2'] := (hb.block _ H.out.2.2.2.lt).trans H.out.2.2.2
    have g0 := y0.cell 0
    have g1 := y0.cell 1
    have g2 := y1.cell 0
    have g3 := y1.cell 1
    simp at g0 g1 g2 g3
    have HB := Lib.hid hb
    clear hb y0 y1
    go_wp2_with fail
    refine (HC2.out w2 HB.out).mono ?_
    rintro r w3 ⟨rfl, hb3⟩
    have HB3 := Lib.hid (H.out.1.trans ((HB.out.trans (hb3.mono HB.out.size)).mono H.out.1.size))
    clear hb3
    go_wp2_with fail
    go_ret
    exact ⟨rfl, HB3.out⟩
end Go.Proofs.YtmldgfplnacecaaDoor

namespace Go.Proofs.YtmldgfplnacecaaDoor
open Go.RowKit Go.Shelf Go.Lib Go.Great Go.Maps Go.Sort

set_option maxHeartbeats 8000000 in
set_option maxRecDepth 100000 in
theorem refSame_any {R R' : List (List Int)} {T T' : List Nat} {v v' : Value} {w : World} (h : TbV w R T v) (h' : TbV w R' T' v') :
    Calls Tryd.prog 29 #[v, v'] w fun r w' => r = .returned (.bool (decide (R = R') && decide (T = T'))) ∧ Below w.heap.size w w' := by
  obtain ⟨A, c, A2, c2, rfl, hR, hT⟩ := h
  obtain ⟨A', c', A2', c2', rfl, hR', hT'⟩ := h'
  obtain ⟨W0, hW0⟩ : ∃ W, (w.alloc (.cells #[.slice A R.length c, .slice A2 T.length c2] 57)).alloc (.cells #[.slice A' R'.length c', .slice A2' T'.length c2'] 57) = W := ⟨_, rfl⟩
  have b0 : Below w.heap.size w W0 := by rw [← hW0]; exact (below_new w _).trans ((below_new _ _).mono (by simp))
  have z0 : W0.heap.size = w.heap.size + 1 + 1 := by rw [← hW0]; simp
  have x0 : Cells W0 w.heap.size 57 #[.slice A R.length c, .slice A2 T.length c2] := by rw [← hW0]; exact ((below_new _ _).block _ (by simp)).trans (cells_new _ _ _)
  have x1 : Cells W0 (w.heap.size + 1) 57 #[.slice A' R'.length c', .slice A2' T'.length c2'] := by
    rw [← hW0]
    have := cells_new (w.alloc (.cells #[.slice A R.length c, .slice A2 T.length c2] 57)) #[.slice A' R'.length c', .slice A2' T'.length c2'] 57
    simpa using this
  have e0 := x0.cell 0
  have e1 := x0.cell 1
  have e2 := x1.cell 0
  have e3 := x1.cell 1
  simp at e0 e1 e2 e3
  have l1 : R.length ≤ 9223372036854775807 := by have := hR.l; have := hR.m; unfold maxLen at this; omega
  have l2 : T.length ≤ 9223372036854775807 := by have := hT.l; have := hT.m; unfold maxLen at this; omega
  have l3 : R'.length ≤ 9223372036854775807 := by have := hR'.l; have := hR'.m; unfold maxLen at this; omega
  have l4 : T'.length ≤ 9223372036854775807 := by have := hT'.l; have := hT'.m; unfold maxLen at this; omega
  obtain ⟨X, hX⟩ : ∃ X, (decide (R = R') && decide (T = T')) = X := ⟨_, rfl⟩
  rw [hX]
  have hXf : R ≠ R' ∨ T ≠ T' → X = false := fun e => by
    rw [← hX]
    rcases e with e | e <;> simp [e]
  have hXt : R = R' → T = T' → X = true := fun e f => by rw [← hX]; simp [e, f]
  obtain ⟨n1, hn1⟩ : ∃ n, R.length = n := ⟨_, rfl⟩
  obtain ⟨n2, hn2⟩ : ∃ n, T.length = n := ⟨_, rfl⟩
  obtain ⟨n3, hn3⟩ : ∃ n, R'.length = n := ⟨_, rfl⟩
  obtain ⟨n4, hn4⟩ : ∃ n, T'.length = n := ⟨_, rfl⟩
  rw [hn1, hn2] at hW0 x0
  rw [hn1] at e0 l1
  rw [hn2] at e1 l2
  rw [hn3] at e2 l3
  rw [hn3, hn4] at hW0 x1
  rw [hn4] at e3 l4
  rw [hn1, hn2, hn3, hn4]
  have H := Lib.hid (And.intro b0 (And.intro z0 (And.intro x0 x1)))
  have HT := Lib.hid (And.intro hR (And.intro hT (And.intro hR' hT')))
  have HX := Lib.hid (And.intro hXf hXt)
  have HN := Lib.hid (And.intro hn1 (And.intro hn2 (And.intro hn3 hn4)))
  have HW := Lib.hid hW0
  clear b0 z0 x0 x1 hW0 hR hT hR' hT' hX hXf hXt
  by_cases h1 : n1 = n3
  · by_cases h2 : n2 = n4
    · have HNn := Lib.hid (And.intro hn1 (And.intro hn2 (And.intro hn3 hn4)))
      clear hn1 hn2 hn3 hn4
      subst h1 h2
      have i1 : ((n1 : Int) != (n1 : Int)) = false := by simp
      have i2 : ((n2 : Int) != (n2 : Int)) = false := by simp
      have i3 : ((n1 : Int) == (n1 : Int)) = true := by simp
      have i4 : ((n2 : Int) == (n2 : Int)) = true := by simp
      go_enter Tryd.func29, Tryd.ntmps29
      go_wp2_with fail
      rw [HW.out]
      clear e0 e1 e2 e3
      go_loopw [5] (fun i wr => ∃ k : Nat, i = .int .i64 (k : Int) ∧ k ≤ n1 ∧ R.take k = R'.take k ∧ Below W0.heap.size W0 wr) (fun i _ => n1 - (RowKit.intOf i).toNat)
      case atStart => exact ⟨0, rfl, by omega, by simp, Below.refl _ _⟩
      case round =>
        obtain ⟨k, rfl, hk, htk, hb⟩ := hrel
        have y0 : Cells wr w.heap.size 57 #[.slice A n1 c, .slice A2 n2 c2] := (hb.block _ H.out.2.2.1.lt).trans H.out.2.2.1
        have y1 : Cells wr (w.heap.size + 1) 57 #[.slice A' n1 c', .slice A2' n2 c2'] := (hb.block _ H.out.2.2.2.lt).trans H.out.2.2.2
        have g0 := y0.cell 0
        have g1 := y0.cell 1
        have g2 := y1.cell 0
        have g3 := y1.cell 1
        simp at g0 g1 g2 g3
        have bw : Below w.heap.size w wr := H.out.1.trans (hb.mono H.out.1.size)
        by_cases hlt : k < n1
        · have i5 : (k : Int) < (n1 : Int) := by omega
          obtain ⟨x, hx⟩ : ∃ x, R[k]? = some x := ⟨R[k]'(by rw [HN.out.1]; exact hlt), List.getElem?_eq_getElem _⟩
          obtain ⟨y, hy⟩ : ∃ y, R'[k]? = some y := ⟨R'[k]'(by rw [HN.out.2.2.1]; exact hlt), List.getElem?_eq_getElem _⟩
          obtain ⟨b, o, rfl, hbl, hc⟩ := HT.out.1.r (by rintro rfl; simp at hx)
          obtain ⟨b', o', rfl, hbl', hc'⟩ := HT.out.2.2.1.r (by rintro rfl; simp at hy)
          obtain ⟨A1, c1, x1, x2, _⟩ := hc k x hx
          obtain ⟨A3, c3, y1', y2, _⟩ := hc' k y hy
          have d0 := (bw.cell (p := ⟨b, o + k, none⟩) hbl).trans x1
          have d1 := (bw.cell (p := ⟨b', o' + k, none⟩) hbl').trans y1'
          have x2' := (x2.below bw).mono bw.size
          have y2' := (y2.below bw).mono bw.size
          have C : ∀ d os, Calls Tryd.prog 65 #[.slice A1 x.length c1, .slice A3 y.length c3] (grow (redrawn wr d) os) fun e w'' => e = .returned (.bool (decide (x = y))) ∧ ∃ p : Regrown, w'' = grow (redrawn wr p.d) p.os :=
            fun d os => Calls.regrown_of (same55_any x y A1 A3 c1 c3 _ (x2'.on (below_regrown wr d os)) (y2'.on (below_regrown wr d os)))
          obtain ⟨lx, hlx⟩ : ∃ n, x.length = n := ⟨_, rfl⟩
          obtain ⟨ly, hly⟩ : ∃ n, y.length = n := ⟨_, rfl⟩
          rw [hlx] at C d0
          rw [hly] at C d1
          have q0 := cell_regrown g0
          have q2 := cell_regrown g2
          have q4 := cell_regrown d0
          have q5 := cell_regrown d1
          have HK := Lib.hid (And.intro htk (And.intro hb (And.intro hx (And.intro hy bw))))
          by_cases he : x = y
          · have hq : decide (x = y) = true := by simpa using he
            rw [hq] at C
            have HE := Lib.hid he
            clear he hq htk hb hc hc' hx hy x1 x2 y1' y2 hlx hly x2' y2' bw y0 y1 d0 d1
            go_wp2_with fail
            clear g0 g1 g2 g3
            refine wp_region_quiet_below (by kernel_rfl) (by kernel_rfl) ?_
            repeat (go_big_quiet_step (exact C _ _))
            refine wpQuiet_nil ?_
            intro _ hw'
            obtain ⟨⟨dq, osq⟩, hw''⟩ := hw'
            subst hw''
            have HB := Lib.hid (HK.out.2.1.trans ((below_regrown wr dq osq).mono HK.out.2.1.size))
            clear q0 q2 q4 q5 C
            go_wp2_with fail
            go_roundw
            case rel => exact ⟨k + 1, by go_num, by omega, take_eq_snocR HK.out.1 HK.out.2.2.1 HK.out.2.2.2.1 HE.out, HB.out⟩
            case measure => simp [RowKit.intOf]; omega
          · have hq : decide (x = y) = false := by simpa using he
            rw [hq] at C
            have : X = false := HX.out.1 (.inl (fun e => by
              have h1 := HK.out.2.2.1
              rw [e, HK.out.2.2.2.1] at h1
              injection h1 with h1
              exact he h1.symm))
            subst this
            clear he hq htk hb hc hc' hx hy x1 x2 y1' y2 hlx hly x2' y2' bw y0 y1 d0 d1
            go_wp2_with fail
            clear g0 g1 g2 g3
            refine wp_region_quiet_below (by kernel_rfl) (by kernel_rfl) ?_
            repeat (go_big_quiet_step (exact C _ _))
            refine wpQuiet_nil ?_
            intro _ hw'
            obtain ⟨⟨dq, osq⟩, hw''⟩ := hw'
            subst hw''
            have HB := Lib.hid (HK.out.2.2.2.2.trans ((below_regrown wr dq osq).mono HK.out.2.2.2.2.size))
            clear q0 q2 q4 q5 C
            go_wp2_with fail
            go_ret
            exact ⟨rfl, HB.out⟩
        · obtain rfl : k = n1 := by omega
          have i5 : ¬ (k : Int) < (k : Int) := by omega
          have hRR : R = R' := by
            have e1 : R.take k = R := by rw [← HN.out.1, List.take_length]
            have e2 : R'.take k = R' := by rw [← HN.out.2.2.1, List.take_length]
            rw [e1, e2] at htk
            exact htk
          have HRR := Lib.hid hRR
          have HB := Lib.hid hb
          clear htk hRR hb bw y0 y1
          go_wp2_with fail
          clear g0 g1 g2 g3
          go_loopw [6] (fun i wr2 => ∃ m : Nat, i = .int .i64 (m : Int) ∧ m ≤ n2 ∧ T.take m = T'.take m ∧ Below W0.heap.size W0 wr2) (fun i _ => n2 - (RowKit.intOf i).toNat)
          case atStart => exact ⟨0, rfl, by omega, by simp, HB.out⟩
          case round =>
            rename_i wr2
            obtain ⟨m, rfl, hm, htm, hb⟩ := hrel
            have y0 : Cells wr w.heap.size 57 #[.slice A k c, .slice A2 n2 c2] := (hb.block _ H.out.2.2.1.lt).trans H.out.2.2.1
            have y1 : Cells wr (w.heap.size + 1) 57 #[.slice A' k c', .slice A2' n2 c2'] := (hb.block _ H.out.2.2.2.lt).trans H.out.2.2.2
            have g1 := y0.cell 1
            have g3 := y1.cell 1
            simp at g1 g3
            have bw : Below w.heap.size w wr := H.out.1.trans (hb.mono H.out.1.size)
            by_cases hlt2 : m < n2
            · have i6 : (m : Int) < (n2 : Int) := by omega
              obtain ⟨x, hx⟩ : ∃ x, T[m]? = some x := ⟨T[m]'(by rw [HN.out.2.1]; exact hlt2), List.getElem?_eq_getElem _⟩
              obtain ⟨y, hy⟩ : ∃ y, T'[m]? = some y := ⟨T'[m]'(by rw [HN.out.2.2.2]; exact hlt2), List.getElem?_eq_getElem _⟩
              obtain ⟨b, o, rfl, hbl, hc⟩ := HT.out.2.1.r (by rintro rfl; simp at hx)
              obtain ⟨b', o', rfl, hbl', hc'⟩ := HT.out.2.2.2.r (by rintro rfl; simp at hy)
              have d0 := (bw.cell (p := ⟨b, o + m, none⟩) hbl).trans (hc m x hx)
              have d1 := (bw.cell (p := ⟨b', o' + m, none⟩) hbl').trans (hc' m y hy)
              have HK := Lib.hid (And.intro htm (And.intro hb (And.intro hx (And.intro hy bw))))
              clear htm hb hc hc' hx hy bw y0 y1
              by_cases he : x = y
              · have hq : ((x : Int) == (y : Int)) = true := by simp; omega
                have hq' : ((x : Int) != (y : Int)) = false := by simp; omega
                have HE := Lib.hid he
                clear he
                go_wp2_with fail
                go_quiet (fail)
                rename_i nq _
                have HB2 := Lib.hid (below_drewN HK.out.2.1 nq)
                go_wp2_with fail
                go_roundw
                case rel => exact ⟨m + 1, by go_num, by omega, take_eq_snocN HK.out.1 HK.out.2.2.1 HK.out.2.2.2.1 HE.out, HB2.out⟩
                case measure => simp [RowKit.intOf]; omega
              · have hq : ((x : Int) == (y : Int)) = false := by simp; omega
                have hq' : ((x : Int) != (y : Int)) = true := by simp; omega
                have : X = false := HX.out.1 (.inr (fun e => by
                  have h1 := HK.out.2.2.1
                  rw [e, HK.out.2.2.2.1] at h1
                  injection h1 with h1
                  exact he h1.symm))
                subst this
                clear he
                go_wp2_with fail
                go_quiet (fail)
                rename_i nq _
                have HB2 := Lib.hid (below_drewN HK.out.2.2.2.2 nq)
                go_wp2_with fail
                go_ret
                exact ⟨rfl, HB2.out⟩
            · obtain rfl : m = n2 := by omega
              have i6 : ¬ (m : Int) < (m : Int) := by omega
              have : X = true := HX.out.2 HRR.out (by
                have e1 : T.take m = T := by rw [← HN.out.2.1, List.take_length]
                have e2 : T'.take m = T' := by rw [← HN.out.2.2.2, List.take_length]
                rw [e1, e2] at htm
                exact htm)
              subst this
              have HB2 := Lib.hid bw
              clear htm hb bw y0 y1
              go_wp2_with fail
              go_ret
              exact ⟨rfl, HB2.out⟩
    · have i1 : ((n1 : Int) != (n3 : Int)) = false := by simp; omega
      have j1 : ((n1 : Int) == (n3 : Int)) = true := by simp; omega
      have i2 : ((n2 : Int) != (n4 : Int)) = true := by simp; omega
      have j2 : ((n2 : Int) == (n4 : Int)) = false := by simp; omega
      have : X = false := HX.out.1 (.inr (fun e => by rw [e] at hn2; omega))
      subst this
      clear hn1 hn2 hn3 hn4 h1
      go_enter Tryd.func29, Tryd.ntmps29
      go_wp2_with fail
      rw [HW.out]
      go_ret
      exact ⟨rfl, H.out.1⟩
  · have i1 : ((n1 : Int) != (n3 : Int)) = true := by simp; omega
    have j1 : ((n1 : Int) == (n3 : Int)) = false := by simp; omega
    have : X = false := HX.out.1 (.inl (fun e => by rw [e] at hn1; omega))
    subst this
    clear hn1 hn2 hn3 hn4
    go_enter Tryd.func29, Tryd.ntmps29
    go_wp2_with fail
    rw [HW.out]
    go_ret
    exact ⟨rfl, H.out.1⟩
end Go.Proofs.YtmldgfplnacecaaDoor

namespace Go.Proofs.YtmldgfplnacecaaDoor
open Go.RowKit Go.Shelf Go.Lib Go.Great Go.Maps

theorem own_base {w : World} {B B' e z n : Nat} {v : Value} {xs : List Value} (h : w.ownsRow B e z v n xs) (hB : B' ≤ B) : w.ownsRow B' e z v n xs := by
  refine ⟨h.1, ?_⟩
  rcases h.2 with h2 | ⟨g, c, cur, h1, h2, h3⟩
  · exact .inl h2
  · exact .inr ⟨g, c, cur, h1, Nat.le_trans hB h2, h3⟩
theorem own_shape {w : World} {B e z n : Nat} {v : Value} {xs : List Value} (h : w.ownsRow B e z v n xs) : ∃ A cap, v = .slice A n cap := by
  rcases h.2 with ⟨h1, h2⟩ | ⟨g, c, cur, h1, _⟩
  · subst h2; exact ⟨none, 0, h1⟩
  · exact ⟨_, c, h1⟩
theorem own_not_cells {w : World} {B e z n k t : Nat} {v : Value} {xs : List Value} {cs : Array Value} (h : w.ownsRow B e z v n xs) (hc : Cells w k t cs) (hne : t ≠ e) : v.ownBlock ≠ some k := by
  intro hk
  rcases h.2 with ⟨h1, _⟩ | ⟨g1, c1, cur1, h1, _, h3, _⟩
  · rw [h1] at hk; simp [Value.ownBlock] at hk
  · rw [h1] at hk
    simp [Value.ownBlock] at hk
    subst hk
    unfold Cells at hc
    rw [hc] at h3
    simp at h3
    exact hne h3.2
theorem rs_of_rows {w : World} {B : Nat} {rows : List (List Int)} {v : Value} {xs : List Value} (ho : w.ownsRow B 23 1 v rows.length xs) (hr : ∀ (i : Nat) x, rows[i]? = some x → ∃ u, xs[i]? = some u ∧ OwnI w B x u)
    (hl : ∀ r ∈ rows, ∀ x ∈ r, i64 x) : ∃ A cap, v = .slice A rows.length cap ∧ RsAt w w.heap.size rows A cap := by
  rcases ho.2 with ⟨h1, h2⟩ | ⟨g, cap, cur, h1, h2, h3, h4, h5, h6, h7⟩
  · have hn : rows = [] := List.eq_nil_of_length_eq_zero h2
    subst hn
    exact ⟨none, 0, by rw [h1]; rfl, ⟨Nat.le_refl _, by unfold maxLen; omega, fun _ => rfl, fun hn => absurd rfl hn⟩⟩
  · refine ⟨_, cap, h1, ⟨h4, h5, fun e => (by cases e), fun _ => ⟨g, 0, rfl, (Array.getElem?_eq_some_iff.1 h3).1, fun i r hir => ?_⟩⟩⟩
    obtain ⟨u, hu, hf⟩ := hr i r hir
    obtain ⟨A', c', rfl, his, hz⟩ := hf.is (hl r (List.mem_of_getElem? hir))
    have hc0 := World.ownsRow.cells ho (g := g) (by rw [h1]; rfl) i _ hu
    rw [add0] at hc0
    exact ⟨A', c', by rw [Nat.zero_add]; exact hc0, his, hz⟩
theorem us_own {w : World} {B : Nat} {T : List Nat} {v : Value} (ho : w.ownsRow B 37 1 v T.length (u64C T)) (hl : ∀ x ∈ T, x < 18446744073709551616) : ∃ A cap, v = .slice A T.length cap ∧ UsAt w w.heap.size T A cap := by
  rcases ho.2 with ⟨h1, h2⟩ | ⟨g, cap, cur, h1, h2, h3, h4, h5, h6, h7⟩
  · have hn : T = [] := List.eq_nil_of_length_eq_zero h2
    subst hn
    exact ⟨none, 0, by rw [h1]; rfl, ⟨Nat.le_refl _, by unfold maxLen; omega, fun _ => rfl, fun x hx => absurd hx (by simp), fun hn => absurd rfl hn⟩⟩
  · refine ⟨_, cap, h1, ⟨h4, h5, fun e => (by cases e), hl, fun _ => ⟨g, 0, rfl, (Array.getElem?_eq_some_iff.1 h3).1, fun i x hx => ?_⟩⟩⟩
    have hc := World.ownsRow.cells ho (g := g) (by rw [h1]; rfl) i (.int .u64 (x : Int)) (by simp [u64C, hx])
    rw [add0] at hc
    rw [Nat.zero_add]; exact hc
def nil2 : Array Value := #[.slice none 0 0, .slice none 0 0]
/-- The table while it is made. -/
structure Rd (w0 w : World) (G : Nat) (vS vN vT vr : Value) (S R : List (List Int)) (T : List Nat) (r : List Int) (xs ys : List Value) : Prop where
  b : Below G w0 w
  z : G + 4 ≤ w.heap.size
  e : Cells w G 57 nil2
  s : Cells w (G + 3) 57 #[vN, vT]
  oS : w.ownsRow (G + 1) 23 1 vS S.length xs
  oN : w.ownsRow (G + 1) 23 1 vN R.length ys
  oT : w.ownsRow (G + 1) 37 1 vT T.length (u64C T)
  oR : OwnI w (G + 1) r vr
  n1 : ∀ g, vS.ownBlock = some g → vN.ownBlock ≠ some g
  rS : ∀ (i : Nat) x, S[i]? = some x → ∃ u, xs[i]? = some u ∧ OwnI w (G + 1) x u ∧ ∀ g, vr.ownBlock = some g → u.ownBlock ≠ some g
  rN : ∀ (i : Nat) x, R[i]? = some x → ∃ u, ys[i]? = some u ∧ OwnI w (G + 1) x u ∧ ∀ g, vr.ownBlock = some g → u.ownBlock ≠ some g
section
variable {w0 w w' : World} {G : Nat} {vS vN vT vr : Value} {S R : List (List Int)} {T : List Nat} {r : List Int} {xs ys : List Value}
theorem Rd.on (h : Rd w0 w G vS vN vT vr S R T r xs ys) (hb : Below w.heap.size w w') : Rd w0 w' G vS vN vT vr S R T r xs ys :=
  ⟨h.b.trans (hb.mono (by have := h.z; omega)), Nat.le_trans h.z hb.size, h.e.on hb, h.s.on hb, ownsRow_below h.oS hb, ownsRow_below h.oN hb, ownsRow_below h.oT hb, h.oR.below hb, h.n1,
    fun i x hx => by obtain ⟨u, a, b, c⟩ := h.rS i x hx; exact ⟨u, a, b.below hb, c⟩, fun i x hx => by obtain ⟨u, a, b, c⟩ := h.rN i x hx; exact ⟨u, a, b.below hb, c⟩⟩
/-- A set more. -/
theorem Rd.addS (h : Rd w0 w G vS vN vT vr S R T r xs ys) {g cp : Nat} {x : List Int} {u : Value} (ho : w'.ownsRow (G + 1) 23 1 (.slice (some ⟨g, 0, none⟩) (S.length + 1) cp) (S.length + 1) (xs ++ [u])) (hg : w.grownBy w' vS.ownBlock)
    (hat : vS.ownBlock = some g ∨ g = w.heap.size) (hu : OwnI w (G + 1) x u) (hne : ∀ g, vr.ownBlock = some g → u.ownBlock ≠ some g) : Rd w0 w' G (.slice (some ⟨g, 0, none⟩) (S.length + 1) cp) vN vT vr (S ++ [x]) R T r (xs ++ [u]) ys := by
  have F : Fz (fun k => vS.ownBlock = some k) w w' := Fz.of_grown hg (fun k e => e)
  have mv : ∀ {l : List Int} {a : Value}, OwnI w (G + 1) l a → OwnI w' (G + 1) l a := fun ha => own_fz F ha (fun k hk => own_types h.oS ha (by decide) k hk)
  have hxl : xs.length = S.length := by have := h.oS.1; omega
  refine ⟨h.b.trans (below_grown' hg (own_base h.oS (Nat.le_succ G)) (by have := h.z; omega)), Nat.le_trans h.z F.size, (F.block G h.e.lt (own_not_cells h.oS h.e (by decide))).trans h.e, (F.block _ h.s.lt (own_not_cells h.oS h.s (by decide))).trans h.s,
    by rw [List.length_append]; exact ho, own_fz F h.oN h.n1, own_fz F h.oT (own_types h.oS h.oT (by decide)), mv h.oR, ?_, ?_, ?_⟩
  · intro g' e e2
    have e : g = g' := by injection e
    subst e
    rcases hat with hat | hat
    · exact h.n1 g hat e2
    · have := (own_block_lt h.oN g e2).2; omega
  · intro i y hy
    rcases Nat.lt_or_ge i S.length with hlt | hge
    · rw [List.getElem?_append_left hlt] at hy
      obtain ⟨a, h1, h2, h3⟩ := h.rS i y hy
      exact ⟨a, by rw [List.getElem?_append_left (by omega)]; exact h1, mv h2, h3⟩
    · have hl2 := (List.getElem?_eq_some_iff.1 hy).1
      simp at hl2
      obtain rfl : i = S.length := by omega
      simp at hy
      subst hy
      exact ⟨u, by rw [← hxl]; simp, mv hu, hne⟩
  · intro i y hy
    obtain ⟨a, h1, h2, h3⟩ := h.rN i y hy
    exact ⟨a, h1, mv h2, h3⟩
/-- The row is longer. -/
theorem Rd.addR (h : Rd w0 w G vS vN vT vr S R T r xs ys) {g cp n : Nat} {r' : List Int} (ho : OwnI w' (G + 1) r' (.slice (some ⟨g, 0, none⟩) n cp)) (hg : w.grownBy w' vr.ownBlock) (hat : vr.ownBlock = some g ∨ g = w.heap.size) :
    Rd w0 w' G vS vN vT (.slice (some ⟨g, 0, none⟩) n cp) S R T r' xs ys := by
  have F : Fz (fun k => vr.ownBlock = some k) w w' := Fz.of_grown hg (fun k e => e)
  have ne : ∀ {l : List Int} {a : Value}, OwnI w (G + 1) l a → (∀ g, vr.ownBlock = some g → a.ownBlock ≠ some g) → ∀ g', (Value.slice (some ⟨g, 0, none⟩) n cp).ownBlock = some g' → a.ownBlock ≠ some g' := by
    intro l a ha hn g' e e2
    have e : g = g' := by injection e
    subst e
    rcases hat with hat | hat
    · exact hn g hat e2
    · have := (own_block_lt ha g e2).2; omega
  refine ⟨h.b.trans (below_grown' hg (own_base h.oR (Nat.le_succ G)) (by have := h.z; omega)), Nat.le_trans h.z F.size, (F.block G h.e.lt (own_not_cells h.oR h.e (by decide))).trans h.e, (F.block _ h.s.lt (own_not_cells h.oR h.s (by decide))).trans h.s,
    own_fz F h.oS (own_types h.oR h.oS (by decide)), own_fz F h.oN (own_types h.oR h.oN (by decide)), own_fz F h.oT (own_types h.oR h.oT (by decide)), ho, h.n1, ?_, ?_⟩
  · intro i y hy
    obtain ⟨a, h1, h2, h3⟩ := h.rS i y hy
    exact ⟨a, h1, own_fz F h2 h3, ne h2 h3⟩
  · intro i y hy
    obtain ⟨a, h1, h2, h3⟩ := h.rN i y hy
    exact ⟨a, h1, own_fz F h2 h3, ne h2 h3⟩
theorem ownI_none (w : World) (B : Nat) : OwnI w B [] (.slice none 0 0) := World.ownsRow_nil _ _ _ _
/-- No row is under way. -/
theorem Rd.noRow (h : Rd w0 w G vS vN vT vr S R T r xs ys) : Rd w0 w G vS vN vT (.slice none 0 0) S R T [] xs ys :=
  ⟨h.b, h.z, h.e, h.s, h.oS, h.oN, h.oT, ownI_none _ _, h.n1, fun i x hx => by obtain ⟨u, a, b, _⟩ := h.rS i x hx; exact ⟨u, a, b, fun g e => by cases e⟩, fun i x hx => by obtain ⟨u, a, b, _⟩ := h.rN i x hx; exact ⟨u, a, b, fun g e => by cases e⟩⟩
/-- The row is one of the table's. -/
theorem Rd.addN (h : Rd w0 w G vS vN vT vr S R T r xs ys) {g cp : Nat} (ho : w'.ownsRow (G + 1) 23 1 (.slice (some ⟨g, 0, none⟩) (R.length + 1) cp) (R.length + 1) (ys ++ [vr])) (hg : w.grownBy w' vN.ownBlock)
    (hat : vN.ownBlock = some g ∨ g = w.heap.size) : Cells w' (G + 3) 57 #[vN, vT] ∧ Rd w0 (w'.setCell ⟨G + 3, 0, none⟩ (.slice (some ⟨g, 0, none⟩) (R.length + 1) cp)) G vS (.slice (some ⟨g, 0, none⟩) (R.length + 1) cp) vT (.slice none 0 0) S (R ++ [r]) T [] xs (ys ++ [vr]) := by
  have s1 : Cells w' (G + 3) 57 #[vN, vT] := (hg.block _ h.s.lt (fun e => own_not_cells h.oN h.s (by decide) e.symm)).trans h.s
  have F1 : Fz (fun k => vN.ownBlock = some k ∨ k = G + 3) w w' := Fz.of_grown hg (fun k e => .inl e)
  have F2 : Fz (fun k => vN.ownBlock = some k ∨ k = G + 3) w' (w'.setCell ⟨G + 3, 0, none⟩ (.slice (some ⟨g, 0, none⟩) (R.length + 1) cp)) := Fz.set w' (G + 3) 0 _ (.inr rfl)
  have F := F1.trans F2
  have hyl : ys.length = R.length := by have := h.oN.1; omega
  have mv : ∀ {l : List Int} {a : Value}, OwnI w (G + 1) l a → OwnI (w'.setCell ⟨G + 3, 0, none⟩ (.slice (some ⟨g, 0, none⟩) (R.length + 1) cp)) (G + 1) l a := fun ha => own_fz F ha (fun k hk e => by
    rcases hk with hk | hk
    · exact own_types h.oN ha (by decide) k hk e
    · subst hk; exact own_not_cells ha h.s (by decide) e)
  refine ⟨s1, ?_, Nat.le_trans h.z F.size, ?_, s1.set 0 _, ?_, ?_, ?_, ownI_none _ _, ?_, ?_, ?_⟩
  · exact (h.b.trans (below_grown' hg (own_base h.oN (Nat.le_succ G)) (by have := h.z; omega))).setCell (Nat.le_add_right G 3) _
  · exact (F.block G h.e.lt (fun hk => by rcases hk with hk | hk; exact own_not_cells h.oN h.e (by decide) hk; exact absurd (show G = G + 3 from hk) (by omega))).trans h.e
  · exact own_fz F h.oS (fun k hk e => by
      rcases hk with hk | hk
      · exact h.n1 k e hk
      · subst hk; exact own_not_cells h.oS h.s (by decide) e)
  · rw [List.length_append]
    exact own_fz (Fz.set (X := fun k => k = G + 3) w' (G + 3) 0 _ rfl) ho (fun k hk e => by subst hk; exact own_not_cells ho s1 (by decide) e)
  · exact own_fz F h.oT (fun k hk e => by
      rcases hk with hk | hk
      · exact own_types h.oN h.oT (by decide) k hk e
      · subst hk; exact own_not_cells h.oT h.s (by decide) e)
  · intro g' e e2
    have e2 : g = g' := by injection e2
    subst e2
    rcases hat with hat | hat
    · exact h.n1 g e hat
    · have := (own_block_lt h.oS g e).2; omega
  · intro i y hy
    obtain ⟨a, h1, h2, _⟩ := h.rS i y hy
    exact ⟨a, h1, mv h2, fun g e => by cases e⟩
  · intro i y hy
    rcases Nat.lt_or_ge i R.length with hlt | hge
    · rw [List.getElem?_append_left hlt] at hy
      obtain ⟨a, h1, h2, h3⟩ := h.rN i y hy
      exact ⟨a, by rw [List.getElem?_append_left (by omega)]; exact h1, mv h2, fun g e => by cases e⟩
    · have hl2 := (List.getElem?_eq_some_iff.1 hy).1
      simp at hl2
      obtain rfl : i = R.length := by omega
      simp at hy
      subst hy
      exact ⟨vr, by rw [← hyl]; simp, mv h.oR, fun g e => by cases e⟩
/-- What a state more tells. -/
theorem Rd.addT (h : Rd w0 w G vS vN vT vr S R T r xs ys) {g cp t : Nat} (ho : w'.ownsRow (G + 1) 37 1 (.slice (some ⟨g, 0, none⟩) (T.length + 1) cp) (T.length + 1) (u64C T ++ [.int .u64 (t : Int)])) (hg : w.grownBy w' vT.ownBlock) :
    Cells w' (G + 3) 57 #[vN, vT] ∧ Rd w0 (w'.setCell ⟨G + 3, 1, none⟩ (.slice (some ⟨g, 0, none⟩) (T.length + 1) cp)) G vS vN (.slice (some ⟨g, 0, none⟩) (T.length + 1) cp) vr S R (T ++ [t]) r xs ys := by
  have s1 : Cells w' (G + 3) 57 #[vN, vT] := (hg.block _ h.s.lt (fun e => own_not_cells h.oT h.s (by decide) e.symm)).trans h.s
  have F1 : Fz (fun k => vT.ownBlock = some k ∨ k = G + 3) w w' := Fz.of_grown hg (fun k e => .inl e)
  have F2 : Fz (fun k => vT.ownBlock = some k ∨ k = G + 3) w' (w'.setCell ⟨G + 3, 1, none⟩ (.slice (some ⟨g, 0, none⟩) (T.length + 1) cp)) := Fz.set w' (G + 3) 1 _ (.inr rfl)
  have F := F1.trans F2
  have mv : ∀ {l : List Int} {a : Value}, OwnI w (G + 1) l a → OwnI (w'.setCell ⟨G + 3, 1, none⟩ (.slice (some ⟨g, 0, none⟩) (T.length + 1) cp)) (G + 1) l a := fun ha => own_fz F ha (fun k hk e => by
    rcases hk with hk | hk
    · exact own_types h.oT ha (by decide) k hk e
    · subst hk; exact own_not_cells ha h.s (by decide) e)
  have mr : ∀ {v : Value} {n : Nat} {zs : List Value}, w.ownsRow (G + 1) 23 1 v n zs → (w'.setCell ⟨G + 3, 1, none⟩ (.slice (some ⟨g, 0, none⟩) (T.length + 1) cp)).ownsRow (G + 1) 23 1 v n zs := fun ha => own_fz F ha (fun k hk e => by
    rcases hk with hk | hk
    · exact own_types h.oT ha (by decide) k hk e
    · subst hk; exact own_not_cells ha h.s (by decide) e)
  refine ⟨s1, ?_, Nat.le_trans h.z F.size, ?_, s1.set 1 _, mr h.oS, mr h.oN, ?_, mv h.oR, h.n1, ?_, ?_⟩
  · exact (h.b.trans (below_grown' hg (own_base h.oT (Nat.le_succ G)) (by have := h.z; omega))).setCell (Nat.le_add_right G 3) _
  · exact (F.block G h.e.lt (fun hk => by rcases hk with hk | hk; exact own_not_cells h.oT h.e (by decide) hk; exact absurd (show G = G + 3 from hk) (by omega))).trans h.e
  · rw [List.length_append, u64C_snoc]
    exact own_fz (Fz.set (X := fun k => k = G + 3) w' (G + 3) 1 _ rfl) ho (fun k hk e => by subst hk; exact own_not_cells ho s1 (by decide) e)
  · intro i y hy
    obtain ⟨a, h1, h2, h3⟩ := h.rS i y hy
    exact ⟨a, h1, mv h2, h3⟩
  · intro i y hy
    obtain ⟨a, h1, h2, h3⟩ := h.rN i y hy
    exact ⟨a, h1, mv h2, h3⟩
/-- The table, as a value. -/
theorem Rd.tb (h : Rd w0 w G vS vN vT vr S R T r xs ys) (h1 : ∀ r ∈ R, ∀ x ∈ r, i64 x) (h2 : ∀ x ∈ T, x < 18446744073709551616) : TbV w R T (.agg #[vN, vT]) := by
  obtain ⟨A, c, rfl, k1⟩ := rs_of_rows h.oN (fun i x hx => by obtain ⟨u, a, b, _⟩ := h.rN i x hx; exact ⟨u, a, b⟩) h1
  obtain ⟨A2, c2, rfl, k2⟩ := us_own h.oT h2
  exact ⟨A, c, A2, c2, rfl, k1, k2⟩
end
end Go.Proofs.YtmldgfplnacecaaDoor

namespace Go.Proofs.YtmldgfplnacecaaDoor
open Go.RowKit Go.Shelf Go.Lib Go.Great Go.Maps

theorem results_one57 {fn : Func} {p : Tmp} (h : fn.results = #[.cell p 57]) (tmps : Array Value) (w : World) (g : Nat) (cs : Array Value)
    (hp : tmps.getD p undef = .pointer (some ⟨g, 0, none⟩)) (hg : Cells w g 57 cs) (hi : (Tryd.prog.info? 57).map (·.size) = some cs.size) : (results fn tmps).run Tryd.prog w = .ok (.agg cs) w := by
  have := run_loadVar_row (P := Tryd.prog) w g 57 57 cs (0, 0) _ hg Tryd.underlying57 rfl hi
  have e : (results fn tmps).run Tryd.prog w = ((asAddr (tmps.getD p undef)).run Tryd.prog w).andThen fun a w₁ => (loadVar 57 a).run Tryd.prog w₁ := by
    simp only [results, h]
    simp [Sem.run_bind, Result.andThen]
  rw [e, hp]
  simp [asAddr, this, Result.andThen]
theorem info57 : (Tryd.prog.info? 57).map (·.size) = some nil2.size := by kernel_rfl
def RefD (w : World) (se : Bool) (s : St) (r : Ending) (w' : World) : Prop :=
  ∃ R T v, r = .returned v ∧ TbV w' R T v ∧ Below w.heap.size w w' ∧ ((R = [] ∧ T = [] ∧ ∃ S, Sv se s S ∧ 120 < S.length) ∨ (∃ S, Bf se s S R T ∧ R.length = S.length ∧ S.length ≤ 120))
def ref4 (w : World) : World := (((w.alloc (.cells #[.slice none 0 0, .slice none 0 0] 57)).alloc (.cells #[.int .i64 0] 3)).alloc (.cells #[.slice (some ⟨w.heap.size + 1, 0, none⟩) 1 1] 23)).alloc (.cells #[.slice none 0 0, .slice none 0 0] 57)
theorem rd_start (w : World) : Rd w (ref4 w) w.heap.size (.slice (some ⟨w.heap.size + 1 + 1, 0, none⟩) 1 1) (.slice none 0 0) (.slice none 0 0) (.slice none 0 0) [[0]] [] [] [] [.slice (some ⟨w.heap.size + 1, 0, none⟩) 1 1] [] := by
  obtain ⟨W1, h1⟩ : ∃ W, w.alloc (.cells #[.slice none 0 0, .slice none 0 0] 57) = W := ⟨_, rfl⟩
  obtain ⟨W2, h2⟩ : ∃ W, W1.alloc (.cells #[.int .i64 0] 3) = W := ⟨_, rfl⟩
  obtain ⟨W3, h3⟩ : ∃ W, W2.alloc (.cells #[.slice (some ⟨w.heap.size + 1, 0, none⟩) 1 1] 23) = W := ⟨_, rfl⟩
  obtain ⟨W4, h4⟩ : ∃ W, W3.alloc (.cells #[.slice none 0 0, .slice none 0 0] 57) = W := ⟨_, rfl⟩
  have hr : ref4 w = W4 := by unfold ref4; rw [h1, h2, h3, h4]
  rw [hr]
  have z1 : W1.heap.size = w.heap.size + 1 := by rw [← h1]; simp
  have z2 : W2.heap.size = w.heap.size + 1 + 1 := by rw [← h2]; simp [z1]
  have z3 : W3.heap.size = w.heap.size + 1 + 1 + 1 := by rw [← h3]; simp [z2]
  have z4 : W4.heap.size = w.heap.size + 1 + 1 + 1 + 1 := by rw [← h4]; simp [z3]
  have b1 : Below w.heap.size w W1 := by rw [← h1]; exact below_new _ _
  have b2 : Below W1.heap.size W1 W2 := by rw [← h2]; exact below_new _ _
  have b3 : Below W2.heap.size W2 W3 := by rw [← h3]; exact below_new _ _
  have b4 : Below W3.heap.size W3 W4 := by rw [← h4]; exact below_new _ _
  have b24 := b3.trans (b4.mono b3.size)
  have b14 := b2.trans (b24.mono b2.size)
  have c1 : Cells W1 w.heap.size 57 nil2 := by rw [← h1]; exact cells_new _ _ _
  have c2 : Cells W2 (w.heap.size + 1) 3 #[.int .i64 0] := by rw [← z1, ← h2]; exact cells_new _ _ _
  have c3 : Cells W3 (w.heap.size + 1 + 1) 23 #[.slice (some ⟨w.heap.size + 1, 0, none⟩) 1 1] := by rw [← z2, ← h3]; exact cells_new _ _ _
  have c4 : Cells W4 (w.heap.size + 1 + 1 + 1) 57 nil2 := by rw [← z3, ← h4]; exact cells_new _ _ _
  have o2 : OwnI W2 (w.heap.size + 1) [0] (.slice (some ⟨w.heap.size + 1, 0, none⟩) 1 1) := by
    have := ownI_lit W1 [0] (by simp)
    rw [z1] at this
    rw [← h2]
    exact this
  have o3 : W3.ownsRow (w.heap.size + 1) 23 1 (.slice (some ⟨w.heap.size + 1 + 1, 0, none⟩) 1 1) 1 [.slice (some ⟨w.heap.size + 1, 0, none⟩) 1 1] :=
    ⟨rfl, .inr ⟨w.heap.size + 1 + 1, 1, _, rfl, Nat.le_succ _, c3, Nat.le_refl _, by unfold maxLen; omega, rfl, rfl⟩⟩
  refine ⟨b1.trans (b14.mono b1.size), by omega, c1.on b14, c4, ownsRow_below o3 b4, World.ownsRow_nil _ _ _ _, World.ownsRow_nil _ _ _ _, ownI_none _ _, fun g _ e => (by cases e), ?_, fun i x hx => (by simp at hx)⟩
  intro i x hx
  cases i with
  | zero =>
    simp at hx
    subst hx
    exact ⟨_, rfl, o2.below b24, fun g e => by cases e⟩
  | succ i => simp at hx
/-- A slice of sets and where it lies. -/
theorem own_at {w : World} {B e z n : Nat} {v : Value} {xs : List Value} (h : w.ownsRow B e z v n xs) (hn : 0 < n) : ∃ g c, v = .slice (some ⟨g, 0, none⟩) n c ∧ g < w.heap.size ∧ ∀ (j : Nat) u, xs[j]? = some u → w.cell? ⟨g, j, none⟩ = some u := by
  rcases h.2 with ⟨_, h2⟩ | ⟨g, c, cur, h1, _, h3, _⟩
  · omega
  · refine ⟨g, c, h1, (Array.getElem?_eq_some_iff.1 h3).1, fun j u hu => ?_⟩
    have := World.ownsRow.cells h (g := g) (by rw [h1]; rfl) j u hu
    rwa [add0] at this
def OutR (w : World) (se : Bool) (s : St) (k : Nat) (u : Value) (wr : World) : Prop :=
  ∃ S R T vN vT xs ys, k ≤ S.length ∧ S.length ≤ 120 ∧ Bf se s S R T ∧ R.length = k ∧ Rd w wr w.heap.size u vN vT (.slice none 0 0) S R T [] xs ys
def MidR (w : World) (se : Bool) (s : St) (S R : List (List Int)) (T : List Nat) (x : List Int) (vN vT : Value) (ys : List Value) (m : Nat) (u vr : Value) (wr : World) : Prop :=
  ∃ S' r xs, r.length = m ∧ Ext S S' ∧ Sv se s S' ∧ S'.length ≤ 120 ∧ RowOk se s S' x r ∧ Rd w wr w.heap.size u vN vT vr S' R T r xs ys
theorem sv_plc {se : Bool} {A : Mka} {t : St} {n : Nat} (hok : MkaOk A t n) {S : List (List Int)} (h : Sv se t S) : ∀ (i : Nat) (x : List Int), S[i]? = some x → Plc x A.l.lv.length := by
  intro i
  induction i using Nat.strongRecOn with
  | ind i ih =>
    intro x hx
    rcases Nat.eq_zero_or_pos i with rfl | h0
    · rw [h.z] at hx
      injection hx with hx
      subst hx
      exact plc0 _
    · obtain ⟨j, hj, y, hy, m, hm, e⟩ := h.j i x h0 hx
      rw [e]
      have := step_plc (se := se) hok y (m : Int) (ih j hj y hy)
      unfold nxt
      exact this
theorem step_nxt {se : Bool} {A : Mka} {t : St} {n : Nat} (hok : MkaOk A t n) (hl : A.l.lv.length ≤ 1000) {x : List Int} (hp : Plc x A.l.lv.length) (m : Nat) : stepR (raOf se A) x (m : Int) = nxt se t x m := by
  rw [(walk_same se hok hl x (m : Int) hp).1]
  unfold nxt
  rfl
theorem sv_i64 {se : Bool} {s : St} {S : List (List Int)} (h : Sv se s S) {i : Nat} {x : List Int} (hx : S[i]? = some x) : ∀ p ∈ x, i64 p := fun p hp => by
  have := h.nn hx p hp
  unfold i64; omega
theorem not_take_succ {S : List (List Int)} {k : Nat} {y z : List Int} (h : y ∉ S.take k) (hz : S[k]? = some z) (hne : z ≠ y) : y ∉ S.take (k + 1) := by
  rw [List.take_add_one, hz, Option.toList_some, List.mem_append]
  rintro (h1 | h1)
  · exact h h1
  · simp at h1; exact hne h1.symm
theorem Rd.tb2 {w0 w : World} {G : Nat} {vS vN vT vr : Value} {S R : List (List Int)} {T : List Nat} {r : List Int} {xs ys : List Value} (h : Rd w0 w G vS vN vT vr S R T r xs ys) (a b : Value) (h1 : ∀ r ∈ R, ∀ x ∈ r, i64 x) (h2 : ∀ x ∈ T, x < 18446744073709551616) :
    TbV ((w.setCell ⟨G, 0, none⟩ a).setCell ⟨G, 1, none⟩ b) R T (.agg #[vN, vT]) := by
  have F : Fz (fun k => k = G) w ((w.setCell ⟨G, 0, none⟩ a).setCell ⟨G, 1, none⟩ b) := (Fz.set (X := fun k => k = G) w G 0 a rfl).trans (Fz.set (X := fun k => k = G) _ G 1 b rfl)
  have ne : ∀ {e n : Nat} {v : Value} {zs : List Value}, w.ownsRow (G + 1) e 1 v n zs → ∀ k, k = G → v.ownBlock ≠ some k := fun ho k hk e => by
    subst hk
    have := (own_block_lt ho _ e).1
    omega
  obtain ⟨A, c, rfl, k1⟩ := rs_of_rows (own_fz F h.oN (ne h.oN)) (fun i x hx => by obtain ⟨u, a, b, _⟩ := h.rN i x hx; exact ⟨u, a, own_fz F b (ne b)⟩) h1
  obtain ⟨A2, c2, rfl, k2⟩ := us_own (own_fz F h.oT (ne h.oT)) h2
  exact ⟨A, c, A2, c2, rfl, k1, k2⟩
theorem bf_i64 {se : Bool} {s : St} {S R : List (List Int)} {T : List Nat} (h : Bf se s S R T) (hS : S.length ≤ 120) : ∀ r ∈ R, ∀ x ∈ r, i64 x := fun r hr => by
  obtain ⟨i, hi⟩ := List.getElem?_of_mem hr
  obtain ⟨_, x, _, ho⟩ := h.r i r hi
  exact row_i64 ho (by omega)
theorem bf_u64 {se : Bool} {A : Mka} {t : St} {n : Nat} (hok : MkaOk A t n) (hl : A.l.lv.length ≤ 1000) (hla : LaOk (raOf se A)) {S R : List (List Int)} {T : List Nat} (h : Bf se t S R T) : ∀ x ∈ T, x < 18446744073709551616 := fun v hv => by
  obtain ⟨i, hi⟩ := List.getElem?_of_mem hv
  obtain ⟨x, hx, e⟩ := h.t i v hi
  rw [e, ← (walk_same se hok hl x 0 (sv_plc hok h.sv i x hx)).2.2]
  exact tellsR_lt hla x _
end Go.Proofs.YtmldgfplnacecaaDoor

namespace Go.Proofs.YtmldgfplnacecaaDoor
open Go.RowKit Go.Shelf Go.Lib Go.Great Go.Maps

set_option maxHeartbeats 16000000 in
set_option maxRecDepth 100000 in
theorem refMake_any {se : Bool} {A : Mka} {t : St} {n : Nat} (hok : MkaOk A t n) (hn : n ≤ 64) (hl : A.l.lv.length ≤ 1000) (b : Nat) (w : World) (h : RAt w b (raOf se A)) :
    Calls Tryd.prog 28 #[.pointer (some ⟨b, 0, none⟩), .int .i64 120] w (RefD w se t) := by
  have hla := hok.la se hn hl
  obtain ⟨W4, hW4⟩ : ∃ W, ref4 w = W := ⟨_, rfl⟩
  have st := rd_start w
  rw [hW4] at st
  have H := Lib.hid (And.intro hok (And.intro hl (And.intro hla (And.intro h st))))
  have HW := Lib.hid hW4
  obtain ⟨i23, h23⟩ : ∃ i, Tryd.prog.info? 23 = some i ∧ i.zero = some (.slice none 0 0) ∧ i.size = 1 ∧ i.bytes = 24 := ⟨_, rfl, rfl, rfl, rfl⟩
  obtain ⟨i3, h3⟩ : ∃ i, Tryd.prog.info? 3 = some i ∧ i.zero = some (.int .i64 0) ∧ i.size = 1 ∧ i.bytes = 8 := ⟨_, rfl, rfl, rfl, rfl⟩
  obtain ⟨i37, h37⟩ : ∃ i, Tryd.prog.info? 37 = some i ∧ i.zero = some (.int .u64 0) ∧ i.size = 1 ∧ i.bytes = 8 := ⟨_, rfl, rfl, rfl, rfl⟩
  have J := Lib.hid (And.intro h23 (And.intro h3 h37))
  clear hok hl hla h st hW4 h23 h3 h37
  go_enter Tryd.func28, Tryd.ntmps28
  go_wp2_with fail
  rw [show (((w.alloc (.cells #[.slice none 0 0, .slice none 0 0] 57)).alloc (.cells #[.int .i64 0] 3)).alloc (.cells #[.slice (some ⟨w.heap.size + 1, 0, none⟩) 1 1] 23)).alloc (.cells #[.slice none 0 0, .slice none 0 0] 57) = W4 from HW.out]
  go_loopw [5, 7] (fun u v wr => ∃ k : Nat, v = .int .i64 (k : Int) ∧ OutR w se t k u wr) (fun _ v _ => 200 - (RowKit.intOf v).toNat)
  case atStart => exact ⟨0, rfl, [[0]], [], [], _, _, _, _, by simp, by simp, Bf.begin _ _, rfl, H.out.2.2.2.2⟩
  case round =>
    obtain ⟨k, rfl, S, R, T, vN, vT, xs, ys, hkS, hS, hB, hR, hD⟩ := hrel
    obtain ⟨N, hN⟩ : ∃ N, S.length = N := ⟨_, rfl⟩
    obtain ⟨gS, cS, rfl, _, _⟩ := own_at hD.oS (by have := hB.sv.pos; omega)
    rw [hN] at hkS hS hD ⊢
    have HH := Lib.hid (And.intro hB (And.intro hR (And.intro hN hD)))
    have HS := Lib.hid (And.intro hkS hS)
    clear hB hR hD
    by_cases hlt : k < N
    · have i1 : (k : Int) < (N : Int) := by omega
      obtain ⟨x, hx⟩ : ∃ x, S[k]? = some x := ⟨S[k]'(by omega), List.getElem?_eq_getElem _⟩
      have HX := Lib.hid (And.intro hx hlt)
      clear hx hN hkS hS hlt
      go_wp2_with fail
      go_loopw [5, 8, 9] (fun u vr v wr2 => ∃ m : Nat, v = .int .i64 (m : Int) ∧ m ≤ 37 ∧ MidR w se t S R T x vN vT ys m u vr wr2) (fun _ _ v _ => 37 - (RowKit.intOf v).toNat)
      case atStart => exact ⟨0, rfl, by omega, S, [], xs, rfl, Ext.refl _, HH.out.1.sv, by have := HS.out.2; have := HH.out.2.2.1; omega, fun m v hm => (by simp at hm), HH.out.2.2.2⟩
      case round =>
        obtain ⟨m, rfl, hm, S', r, xs', hr, he, hs', hl', ho', hD2⟩ := hrel
        obtain ⟨N', hN'⟩ : ∃ n, S'.length = n := ⟨_, rfl⟩
        obtain ⟨gS', cS', rfl, hgS', hcS'⟩ := own_at hD2.oS (by have := hs'.pos; omega)
        rw [hN'] at hD2 hl' ⊢
        by_cases hm37 : m < 37
        · have i2 : (m : Int) ≤ 36 := by omega
          have i2' : decide ((m : Int) ≤ 36) = true := by simpa using i2
          have hkx := he.get HX.out.1
          have hkN : (k : Int) < (N' : Int) := by have := (List.getElem?_eq_some_iff.1 hkx).1; omega
          obtain ⟨ux, hux, hox, _⟩ := hD2.rS k x hkx
          obtain ⟨Ax, cx, rfl, hix, _⟩ := hox.is (sv_i64 hs' hkx)
          have d0 := hcS' k _ hux
          have hpx := sv_plc H.out.1 hs' k x hkx
          have C := stepR_any (raOf se A) b x Ax cx (m : Int) wr (H.out.2.2.2.1.on hD2.b) hix (nat64 (by omega)) H.out.2.1
          rw [step_nxt H.out.1 H.out.2.1 hpx m] at C
          have hy64 : ∀ p ∈ nxt se t x m, i64 p := fun p hp => by
            have := nxt_nn p hp
            unfold i64; omega
          obtain ⟨lx, hlx⟩ : ∃ l, x.length = l := ⟨_, rfl⟩
          obtain ⟨y, hy⟩ : ∃ y, nxt se t x m = y := ⟨_, rfl⟩
          rw [hlx, hy] at C
          rw [hlx] at d0
          rw [hy] at hy64
          have HC := Lib.hid C
          have HM := Lib.hid (And.intro hr (And.intro he (And.intro hs' (And.intro ho' (And.intro hD2 (And.intro hN' (And.intro hkx (And.intro hy hy64))))))))
          have HL := Lib.hid (And.intro hl' hm37)
          clear C hr he hs' ho' hD2 hN' hkx hy hy64 hux hox hix hpx hcS' hlx hl' hm37 hm
          go_wp2_with fail
          refine HC.out.mono ?_
          rintro rr w3 ⟨v3, rfl, ho3, hb3⟩
          have hD3 := HM.out.2.2.2.2.1.on hb3
          have hz := HM.out.2.2.2.2.1.z
          have oy : OwnI w3 (w.heap.size + 1) y v3 := own_base ho3 (by omega)
          have hny : ∀ g, u8.ownBlock = some g → v3.ownBlock ≠ some g := fun g e e2 => by
            have := (own_block_lt HM.out.2.2.2.2.1.oR g e).2
            have := (own_block_lt ho3 g e2).1
            omega
          obtain ⟨A3, c3, rfl, hi3, _⟩ := oy.is HM.out.2.2.2.2.2.2.2.2
          obtain ⟨ly, hly⟩ : ∃ l, y.length = l := ⟨_, rfl⟩
          rw [hly] at oy hny ⊢
          have H3 := Lib.hid (And.intro hD3 (And.intro oy (And.intro hny (And.intro hi3 hly))))
          clear hD3 hz oy hny hi3 hly ho3 hb3 d0
          go_wp2_with fail
          go_loopw [11] (fun v wi => ∃ j : Nat, v = .int .i64 (j : Int) ∧ j ≤ N' ∧ y ∉ S'.take j ∧ Below w3.heap.size w3 wi) (fun v _ => N' - (RowKit.intOf v).toNat)
          case atStart => exact ⟨0, rfl, by omega, by simp, Below.refl _ _⟩
          case round =>
            obtain ⟨j, rfl, hj, hnt, hb⟩ := hrel
            have hD4 := H3.out.1.on hb
            have hi4 := H3.out.2.2.2.1.on hb
            have oy4 := H3.out.2.1.below hb
            have hj120 : j ≤ 120 := by have := HL.out.1; omega
            by_cases hjl : j < N'
            · have i5 : (j : Int) < (N' : Int) := by omega
              obtain ⟨z, hz⟩ : ∃ z, S'[j]? = some z := ⟨S'[j]'(by have := HM.out.2.2.2.2.2.1; omega), List.getElem?_eq_getElem _⟩
              obtain ⟨uz, huz, hoz, _⟩ := hD4.rS j z hz
              obtain ⟨Az, cz, rfl, hiz, _⟩ := hoz.is (sv_i64 HM.out.2.2.1 hz)
              have d1 : wr.cell? ⟨gS', j, none⟩ = some (.slice Az z.length cz) := by
                have := World.ownsRow.cells hD4.oS (g := gS') rfl j _ huz
                rwa [add0] at this
              have C := same55_any z y Az A3 cz c3 wr hiz hi4
              rw [H3.out.2.2.2.2] at C
              obtain ⟨lz, hlz⟩ : ∃ l, z.length = l := ⟨_, rfl⟩
              rw [hlz] at C d1
              by_cases e : z = y
              · rw [show decide (z = y) = true by simpa using e] at C
                have HC5 := Lib.hid C
                have HJ := Lib.hid (And.intro hz (And.intro e (And.intro hD4 hjl)))
                have j2 : ((j : Int) == (N' : Int)) = false := by simp; omega
                have j3 : ¬ (120 : Int) ≤ (j : Int) := by have := HL.out.1; omega
                have j3' : decide ((120 : Int) ≤ (j : Int)) = false := by simpa using j3
                clear C e hz hD4 huz hoz hiz hlz hi4 oy4 hnt hjl hb
                go_wp2_with fail
                refine HC5.out.mono ?_
                rintro rr w5 ⟨rfl, hb5⟩
                have hD5 := HJ.out.2.2.1.on hb5
                have nb := below_new w5 (.cells #[.int .i64 (j : Int)] 3)
                have hD5a := hD5.on nb
                have hz5 := hD5.z
                have H5 := Lib.hid (And.intro hD5a (And.intro (show (w5.alloc (.cells #[.int .i64 (j : Int)] 3)).cell? ⟨w5.heap.size, 0, none⟩ = some (.int .i64 (j : Int)) by rw [World.cell?_alloc_new]; rfl) hz5))
                clear hD5 nb hD5a hz5 hb5
                go_wp2_with (first
                  | (at_builtin
                     refine wpList_append_one rfl (.tmp 58) (.tmp 60) 23 rfl (w.heap.size + 1) 3 i3 (.int .i64 0) 8 Tryd.underlying23 J.out.2.1.1 J.out.2.1.2.1 J.out.2.1.2.2.1 J.out.2.1.2.2.2 (by decide) rfl _ r.length (intsC r) rfl H5.out.1.oR ⟨w5.heap.size, 0, none⟩ (.int .i64 (j : Int)) rfl H5.out.2.1 rfl (by have := HM.out.1; have := HL.out.2; omega) (by have := H5.out.2.2; simp; omega) _ rfl ?_)
                  | fail)
                intro g6 cp6 w6 ho6 hg6 hat6 hl6
                have hend : ∃ m' : Nat, Value.int .i64 ((m : Int) + 1) = .int .i64 (m' : Int) ∧ m' ≤ 37 ∧ MidR w se t S R T x vN vT ys m' (.slice (some ⟨gS', 0, none⟩) N' cS') (.slice (some ⟨g6, 0, none⟩) (r.length + 1) cp6) w6 := by
                  have hor : OwnI w6 (w.heap.size + 1) (r ++ [(j : Int)]) (.slice (some ⟨g6, 0, none⟩) (r.length + 1) cp6) := by
                    unfold OwnI
                    rw [List.length_append, show intsC (r ++ [(j : Int)]) = intsC r ++ [.int .i64 (j : Int)] by simp [intsC]]
                    exact ho6
                  have hD6 := H5.out.1.addR hor hg6 (by simpa using hat6)
                  have hm1 := HM.out.1
                  have hm2 := HL.out.2
                  refine ⟨m + 1, by simp, by omega, S', r ++ [(j : Int)], xs', by simp; omega, HM.out.2.1, HM.out.2.2.1, by have := HL.out.1; have := HM.out.2.2.2.2.2.1; omega, HM.out.2.2.2.1.snoc ?_, hD6⟩
                  rw [hm1, HM.out.2.2.2.2.2.2.2.1, ← HJ.out.2.1]
                  exact HJ.out.1
                have HEND := Lib.hid hend
                clear hend ho6 hg6 hat6 hl6
                go_wp2_with fail
                go_roundw
                case rel => exact HEND.out
                case measure => have := HL.out.2; simp [RowKit.intOf]; omega
              · rw [show decide (z = y) = false by simpa using e] at C
                have HC5 := Lib.hid C
                have HJ := Lib.hid (And.intro (not_take_succ hnt hz e) (And.intro hb hjl))
                clear C e hz hD4 huz hoz hiz hlz hi4 oy4 hnt hjl hb
                go_wp2_with fail
                refine HC5.out.mono ?_
                rintro rr w5 ⟨rfl, hb5⟩
                have hb6 := HJ.out.2.1.trans (hb5.mono HJ.out.2.1.size)
                have HB := Lib.hid hb6
                clear hb5 hb6 d1
                go_wp2_with fail
                go_roundw
                case rel => exact ⟨j + 1, by go_num, by have := HJ.out.2.2; omega, HJ.out.1, HB.out⟩
                case measure => have := HJ.out.2.2; simp [RowKit.intOf]; omega
            · obtain rfl : j = N' := by omega
              have i5 : ¬ (j : Int) < (j : Int) := by omega
              have i5' : decide ((j : Int) < (j : Int)) = false := by simp
              have j2 : ((j : Int) == (j : Int)) = true := by simp
              have hN2 := HM.out.2.2.2.2.2.1
              have hnm : y ∉ S' := by rw [List.take_of_length_le (by omega)] at hnt; exact hnt
              have nb := below_new wr (.cells #[.slice A3 ly c3] 23)
              have hf := found_all HH.out.1 HH.out.2.1 HM.out.2.1 HX.out.1 HM.out.2.2.2.1
              rw [HM.out.1] at hf
              have hsn := HM.out.2.2.1.snoc HM.out.2.2.2.2.2.2.1 HL.out.2 (by rw [HM.out.2.2.2.2.2.2.2.1]; exact hnm) hf
              rw [HM.out.2.2.2.2.2.2.2.1] at hsn
              have oS4 := (hD4.on nb).oS
              rw [hN2] at oS4
              have H4 := Lib.hid (And.intro (hD4.on nb) (And.intro (oy4.below nb) (And.intro (show (wr.alloc (.cells #[.slice A3 ly c3] 23)).cell? ⟨wr.heap.size, 0, none⟩ = some (.slice A3 ly c3) by rw [World.cell?_alloc_new]; rfl) (And.intro hD4.z (And.intro hsn (And.intro hN2 oS4))))))
              clear hN2 hnm nb hf hsn oS4 hD4 hi4 oy4 hnt hb hj hjl
              go_wp2_with (first
                | (at_builtin
                   refine wpList_append_one rfl (.tmp 50) (.tmp 52) 51 rfl (w.heap.size + 1) 23 i23 (.slice none 0 0) 24 Tryd.underlying51 J.out.1.1 J.out.1.2.1 J.out.1.2.2.1 J.out.1.2.2.2 (by decide) rfl _ j xs' rfl H4.out.2.2.2.2.2.2 ⟨wr.heap.size, 0, none⟩ (.slice A3 ly c3) rfl H4.out.2.2.1 rfl (by omega) (by have := H4.out.2.2.2.1; simp; omega) _ rfl ?_)
                | fail)
              intro g6 cp6 w6 ho6 hg6 hat6 hl6
              have hD6 := H4.out.1.addS (g := g6) (cp := cp6) (x := y) (u := .slice A3 ly c3) (by rw [H4.out.2.2.2.2.2.1]; exact ho6) hg6 (by simpa using hat6) H4.out.2.1 H3.out.2.2.1
              rw [H4.out.2.2.2.2.2.1] at hD6
              by_cases h120 : 120 ≤ j
              · have j3 : (120 : Int) ≤ (j : Int) := by omega
                have j3' : decide ((120 : Int) ≤ (j : Int)) = true := by simpa using j3
                have r0 : w6.cell? ⟨w.heap.size, 0, none⟩ = some (.slice none 0 0) := hD6.e.cell 0
                have r1 : w6.cell? ⟨w.heap.size, 1, none⟩ = some (.slice none 0 0) := hD6.e.cell 1
                have f0 := hD6.e.froz 0
                have f1 := hD6.e.froz 1
                have HD6 := Lib.hid hD6
                clear ho6 hg6 hat6 hl6 hD6
                go_wp2_with fail
                refine bodyPost_ret (v := .agg nil2) (results_one57 rfl _ _ w.heap.size nil2 rfl ((HD6.out.e.set 0 _).set 1 _) info57) rfl ⟨[], [], _, rfl, tbv_nil _, (HD6.out.b.setCell (Nat.le_refl _) _).setCell (Nat.le_refl _) _, .inl ⟨rfl, rfl, _, H4.out.2.2.2.2.1, ?_⟩⟩
                rw [List.length_append, H4.out.2.2.2.2.2.1]
                simp
                omega
              · have j3 : ¬ (120 : Int) ≤ (j : Int) := by omega
                have j3' : decide ((120 : Int) ≤ (j : Int)) = false := by simpa using j3
                have nb := below_new w6 (.cells #[.int .i64 (j : Int)] 3)
                have H5 := Lib.hid (And.intro (hD6.on nb) (And.intro (show (w6.alloc (.cells #[.int .i64 (j : Int)] 3)).cell? ⟨w6.heap.size, 0, none⟩ = some (.int .i64 (j : Int)) by rw [World.cell?_alloc_new]; rfl) hD6.z))
                clear ho6 hg6 hat6 hl6 hD6 nb
                go_wp2_with (first
                  | (at_builtin
                     refine wpList_append_one rfl (.tmp 58) (.tmp 60) 23 rfl (w.heap.size + 1) 3 i3 (.int .i64 0) 8 Tryd.underlying23 J.out.2.1.1 J.out.2.1.2.1 J.out.2.1.2.2.1 J.out.2.1.2.2.2 (by decide) rfl _ r.length (intsC r) rfl H5.out.1.oR ⟨w6.heap.size, 0, none⟩ (.int .i64 (j : Int)) rfl H5.out.2.1 rfl (by have := HM.out.1; have := HL.out.2; omega) (by have := H5.out.2.2; simp; omega) _ rfl ?_)
                  | fail)
                intro g7 cp7 w7 ho7 hg7 hat7 hl7
                have hend : ∃ m' : Nat, Value.int .i64 ((m : Int) + 1) = .int .i64 (m' : Int) ∧ m' ≤ 37 ∧ MidR w se t S R T x vN vT ys m' (.slice (some ⟨g6, 0, none⟩) (j + 1) cp6) (.slice (some ⟨g7, 0, none⟩) (r.length + 1) cp7) w7 := by
                  have hor : OwnI w7 (w.heap.size + 1) (r ++ [(j : Int)]) (.slice (some ⟨g7, 0, none⟩) (r.length + 1) cp7) := by
                    unfold OwnI
                    rw [List.length_append, show intsC (r ++ [(j : Int)]) = intsC r ++ [.int .i64 (j : Int)] by simp [intsC]]
                    exact ho7
                  have hD7 := H5.out.1.addR hor hg7 (by simpa using hat7)
                  have hm1 := HM.out.1
                  have hm2 := HL.out.2
                  have hN2 := H4.out.2.2.2.2.2.1
                  have e2 : Ext S' (S' ++ [y]) := ⟨_, rfl⟩
                  refine ⟨m + 1, by simp, by omega, S' ++ [y], r ++ [(j : Int)], _, by simp; omega, HM.out.2.1.trans e2, H4.out.2.2.2.2.1, by simp; omega, (HM.out.2.2.2.1.ext e2).snoc ?_, hD7⟩
                  rw [hm1, HM.out.2.2.2.2.2.2.2.1, ← hN2]
                  simp
                have HEND := Lib.hid hend
                clear hend ho7 hg7 hat7 hl7
                go_wp2_with fail
                go_roundw
                case rel => exact HEND.out
                case measure => have := HL.out.2; simp [RowKit.intOf]; omega
        · have i2 : ¬ (m : Int) ≤ 36 := by omega
          have i2' : decide ((m : Int) ≤ 36) = false := by simpa using i2
          have hm37' : m = 37 := by omega
          have hkx := he.get HX.out.1
          have hkN : (k : Int) < (N' : Int) := by have := (List.getElem?_eq_some_iff.1 hkx).1; omega
          obtain ⟨Ar, cr, hvr⟩ := own_shape hD2.oR
          subst hvr
          have hR2 := HH.out.2.1
          have nb := below_new wr (.cells #[.slice Ar r.length cr] 23)
          have oN4 := (hD2.on nb).oN
          rw [hR2] at oN4
          have y0 : wr.cell? ⟨w.heap.size + 1 + 1 + 1, 0, none⟩ = some vN := hD2.s.cell 0
          have H4 := Lib.hid (And.intro (hD2.on nb) (And.intro oN4 (And.intro (show (wr.alloc (.cells #[.slice Ar r.length cr] 23)).cell? ⟨wr.heap.size, 0, none⟩ = some (.slice Ar r.length cr) by rw [World.cell?_alloc_new]; rfl) hD2.z)))
          have HM := Lib.hid (And.intro hr (And.intro he (And.intro hs' (And.intro ho' (And.intro hN' (And.intro hkx hm37'))))))
          have HL := Lib.hid hl'
          have hk120 : k ≤ 120 := by omega
          have hz3 : w.heap.size + 1 + 1 + 1 < wr.heap.size := hD2.s.lt
          clear hr he hs' ho' hD2 hN' hkx hm37' hl' hm hm37 hR2 nb oN4 hcS'
          go_wp2_with (first
            | (at_builtin
               refine wpList_append_one rfl (.tmp 63) (.tmp 65) 51 rfl (w.heap.size + 1) 23 i23 (.slice none 0 0) 24 Tryd.underlying51 J.out.1.1 J.out.1.2.1 J.out.1.2.2.1 J.out.1.2.2.2 (by decide) rfl _ k ys rfl H4.out.2.1 ⟨wr.heap.size, 0, none⟩ (.slice Ar r.length cr) rfl H4.out.2.2.1 rfl (by omega) (by have := H4.out.2.2.2; simp; omega) _ rfl ?_)
            | fail)
          intro g6 cp6 w6 ho6 hg6 hat6 hl6
          have hadd := H4.out.1.addN (g := g6) (cp := cp6) (by rw [HH.out.2.1]; exact ho6) hg6 (by simpa using hat6)
          rw [HH.out.2.1] at hadd
          have t0 : w6.cell? ⟨w.heap.size + 1 + 1 + 1, 0, none⟩ = some vN := hadd.1.cell 0
          have t1 : w6.frozen? ⟨w.heap.size + 1 + 1 + 1, 0, none⟩ = false := hadd.1.froz 0
          have t2 : w.heap.size + 1 + 1 + 1 < w6.heap.size := hadd.1.lt
          obtain ⟨W7, hW7⟩ : ∃ W, w6.setCell ⟨w.heap.size + 1 + 1 + 1, 0, none⟩ (.slice (some ⟨g6, 0, none⟩) (k + 1) cp6) = W := ⟨_, rfl⟩
          have hD7 := hadd.2
          rw [show w6.setCell ⟨w.heap.size + 3, 0, none⟩ (.slice (some ⟨g6, 0, none⟩) (k + 1) cp6) = W7 from hW7] at hD7
          have HW7 := Lib.hid hW7
          obtain ⟨ux, hux, hox, _⟩ := hD7.rS k x HM.out.2.2.2.2.2.1
          obtain ⟨Ax, cx, rfl, hix, _⟩ := hox.is (sv_i64 HM.out.2.2.1 HM.out.2.2.2.2.2.1)
          have d0 : W7.cell? ⟨gS', k, none⟩ = some (.slice Ax x.length cx) := by
            have := World.ownsRow.cells hD7.oS (g := gS') rfl k _ hux
            rwa [add0] at this
          have hpx := sv_plc H.out.1 HM.out.2.2.1 k x HM.out.2.2.2.2.2.1
          have htl : tellsR (raOf se A) x x.length = tellsU t x := (walk_same se H.out.1 H.out.2.1 x 0 hpx).2.2
          have KC : ∀ W, Below W7.heap.size W7 W → Calls Tryd.prog 21 #[.pointer (some ⟨b, 0, none⟩), .slice Ax x.length cx] W fun r w' => r = .returned (.int .u64 ((tellsU t x : Nat) : Int)) ∧ Below W7.heap.size W7 w' := fun W hW => by
            have := tellsR_any (raOf se A) b x Ax cx W (H.out.2.2.2.1.on (hD7.b.trans (hW.mono (by have := hD7.z; omega)))) (hix.on hW) H.out.2.2.1
            rw [htl] at this
            exact this.mono fun r w' h => ⟨h.1, hW.trans (h.2.mono hW.size)⟩
          obtain ⟨lx, hlx⟩ : ∃ l, x.length = l := ⟨_, rfl⟩
          obtain ⟨tv, htv⟩ : ∃ v, tellsU t x = v := ⟨_, rfl⟩
          rw [hlx, htv] at KC
          rw [hlx] at d0
          have y1 : W7.cell? ⟨w.heap.size + 1 + 1 + 1, 1, none⟩ = some vT := hD7.s.cell 1
          have z1 : w.heap.size + 1 + 1 + 1 < W7.heap.size := hD7.s.lt
          have hTk : T.length ≤ 120 := by have := HH.out.1.tl; have := HH.out.2.1; omega
          have HK := Lib.hid (And.intro KC (And.intro hD7 (And.intro htv hTk)))
          clear hadd hD7 hW7 hux hox hix hpx htl KC hlx htv ho6 hg6 hat6 hl6 hTk y0
          go_wp2_with fail
          rw [HW7.out]
          clear t0 t1 t2
          go_region_law (first
            | (refine step_append_lies _ rfl (.tmp 69) (.tmp 76) 52 rfl (w.heap.size + 1) 37 i37 (.int .u64 0) 1 8 Tryd.underlying52 J.out.2.2.1 J.out.2.2.2.1 J.out.2.2.2.2.1 J.out.2.2.2.2.2 (by decide) (by decide) vT T.length (u64C T) rfl HU.out.1 ⟨w8.heap.size, 0, none⟩ 1 1 [.int .u64 (tv : Int)] rfl rfl HU.out.2.1 HU.out.2.2.1 (by decide) (by have := HK.out.2.2.2; unfold maxLen; omega) (by have := HK.out.2.2.2; omega) HU.out.2.2.2.1 (w8.heap.size + 1) (by simp) ?_
               intro g5 cp5 w5 ho5 hg5 hat5 hlt5
               have hS5 := HU.out.2.2.2.2 g5 cp5 w5 ho5 hg5
               have t0 : w5.cell? ⟨w.heap.size + 1 + 1 + 1, 1, none⟩ = some vT := hS5.1.cell 1
               have t1 : w5.frozen? ⟨w.heap.size + 1 + 1 + 1, 1, none⟩ = false := hS5.1.froz 1
               have t2 : w.heap.size + 1 + 1 + 1 < w5.heap.size := hS5.1.lt
               have HS5 := Lib.hid hS5.2
               clear hS5 ho5 hg5 hat5)
            | (go_simp
               go_at_call 21
               refine (HK.out.1 _ (Below.refl _ _).drew).mono ?_
               rintro rr w8 ⟨rfl, hb8⟩
               have hD8 := HK.out.2.1.on hb8
               have q0 : w8.cell? ⟨w.heap.size + 1 + 1 + 1, 1, none⟩ = some vT := hD8.s.cell 1
               have q2 : w.heap.size + 1 + 1 + 1 < w8.heap.size := hD8.s.lt
               have al := below_new w8 (.cells #[.int .u64 (tv : Int)] 37)
               have hD8a := hD8.on al
               have hn4 : ∀ (j : Nat) u, ([.int .u64 (tv : Int)] : List Value)[j]? = some u → (w8.alloc (.cells #[.int .u64 (tv : Int)] 37)).cell? ((⟨w8.heap.size, 0, none⟩ : Addr).add j) = some u := fun j u hj => by
                 rw [add0, World.cell?_alloc_new]
                 simpa using hj
               have hone : ∀ u ∈ ([.int .u64 (tv : Int)] : List Value), u.oneCell' = true := fun u hu => by simp at hu; subst hu; rfl
               have hz8 : w.heap.size + 1 ≤ (w8.alloc (.cells #[.int .u64 (tv : Int)] 37)).heap.size := by have := hD8a.z; omega
               have HU := Lib.hid (And.intro hD8a.oT (And.intro hn4 (And.intro hone (And.intro hz8 (fun (g5 cp5 : Nat) (w5 : World) k1 k2 => hD8a.addT (g := g5) (cp := cp5) (t := tv) (w' := w5) k1 k2)))))
               clear hb8 hD8 al hD8a hn4 hone hz8))
          all_goals
            have hend : ∃ k' : Nat, Value.int .i64 ((k : Int) + 1) = .int .i64 (k' : Int) ∧ OutR w se t k' (.slice (some ⟨gS', 0, none⟩) N' cS') (w5.setCell ⟨w.heap.size + 1 + 1 + 1, 1, none⟩ (.slice (some ⟨g5, 0, none⟩) (T.length + 1) cp5)) := by
              refine ⟨k + 1, by simp, S', R ++ [r], T ++ [tellsU t x], (.slice (some ⟨g6, 0, none⟩) (k + 1) cp6), (.slice (some ⟨g5, 0, none⟩) (T.length + 1) cp5), xs', ys ++ [.slice Ar r.length cr], by have := HM.out.2.2.2.2.1; omega, by have := HM.out.2.2.2.2.1; have := HL.out; omega, HH.out.1.snoc HM.out.2.1 HM.out.2.2.1 (by rw [HH.out.2.1]; exact HX.out.1) (by rw [HM.out.1]; exact HM.out.2.2.2.2.2.2) HM.out.2.2.2.1, by simp; exact HH.out.2.1, ?_⟩
              rw [HK.out.2.2.1]
              exact HS5.out
            have HEND := Lib.hid hend
            clear hend
            go_wp2_with fail
            go_roundw
            case rel => exact HEND.out
            case measure => simp [RowKit.intOf]; omega
    · obtain rfl : k = N := by omega
      have i1 : ¬ (k : Int) < (k : Int) := by omega
      have hD := HH.out.2.2.2
      obtain ⟨A1, c1, e1⟩ := own_shape hD.oN
      obtain ⟨A2, c2, e2⟩ := own_shape hD.oT
      subst e1 e2
      obtain ⟨nT, hnT⟩ : ∃ n, T.length = n := ⟨_, rfl⟩
      obtain ⟨nR, hnR⟩ : ∃ n, R.length = n := ⟨_, rfl⟩
      have HN := Lib.hid (And.intro hnR hnT)
      have d0 : wr.cell? ⟨w.heap.size + 1 + 1 + 1, 0, none⟩ = some (.slice A1 nR c1) := by rw [← hnR]; exact hD.s.cell 0
      have d1 : wr.cell? ⟨w.heap.size + 1 + 1 + 1, 1, none⟩ = some (.slice A2 nT c2) := by rw [← hnT]; exact hD.s.cell 1
      have r0 : wr.cell? ⟨w.heap.size, 0, none⟩ = some (.slice none 0 0) := hD.e.cell 0
      have r1 : wr.cell? ⟨w.heap.size, 1, none⟩ = some (.slice none 0 0) := hD.e.cell 1
      have f0 := hD.e.froz 0
      have f1 := hD.e.froz 1
      clear hnR hnT hD hN hkS hS
      go_wp2_with fail
      refine bodyPost_ret (v := .agg #[.slice A1 nR c1, .slice A2 nT c2]) (results_one57 rfl _ _ w.heap.size _ rfl ((HH.out.2.2.2.e.set 0 _).set 1 _) (by kernel_rfl)) rfl ⟨R, T, _, rfl, ?_, (HH.out.2.2.2.b.setCell (Nat.le_refl _) _).setCell (Nat.le_refl _) _, .inr ⟨S, HH.out.1, by rw [HH.out.2.1, HH.out.2.2.1], by rw [HH.out.2.2.1]; exact HS.out.2⟩⟩
      have := HH.out.2.2.2.tb2 (.slice A1 nR c1) (.slice A2 nT c2) (bf_i64 HH.out.1 (by rw [HH.out.2.2.1]; exact HS.out.2)) (bf_u64 H.out.1 H.out.2.1 H.out.2.2.1 HH.out.1)
      rw [HN.out.1, HN.out.2] at this
      exact this
end Go.Proofs.YtmldgfplnacecaaDoor

namespace Go.Proofs.YtmldgfplnacecaaDoor
open Go.RowKit Go.Shelf Go.Lib Go.Great Go.Maps

structure DArg (w : World) (ks : List E) (Ak : Option Addr) (ck : Nat) : Prop where
  k : KsAt w w.heap.size ks Ak ck
  t : TZ w
  p : PW w
theorem DArg.below {w w' : World} {ks : List E} {Ak : Option Addr} {ck : Nat} (h : DArg w ks Ak ck) (hb : Below w.heap.size w w') : DArg w' ks Ak ck := ⟨h.k.on hb, h.t.below hb h.t.lt, h.p.below hb h.p.lt⟩
set_option maxHeartbeats 8000000 in
set_option maxRecDepth 100000 in
theorem makes_big (se : Bool) (ks : List E) (Ak : Option Addr) (ck : Nat) (w : World) (h : DArg w ks Ak ck) (hbig : 40 < szL ks) :
    Calls Tryd.prog 5 #[.bool se, .slice Ak ks.length ck] w (TrOk w) := by
  have C := over40_any ks Ak ck w h.k
  rw [show decide (40 < szL ks) = true by simpa using hbig] at C
  have HC := Lib.hid C
  have H := Lib.hid h
  clear C h hbig
  go_enter Tryd.func5, Tryd.ntmps5
  go_wp2_with fail
  refine HC.out.mono ?_
  rintro r w2 ⟨rfl, hb2⟩
  have a2 := H.out.below hb2
  have C2 := Lib.hid (awake9_any w2 a2.t a2.p)
  have H2 := Lib.hid hb2
  clear a2 hb2
  go_wp2_with fail
  refine C2.out.mono ?_
  rintro r w3 ⟨rfl, hb3⟩
  have H3 := Lib.hid (H2.out.trans (hb3.mono H2.out.size))
  clear hb3
  go_wp2_with fail
  go_ret
  exact ⟨rfl, H3.out⟩
set_option maxHeartbeats 8000000 in
set_option maxRecDepth 100000 in
theorem makes_wrong (se : Bool) (ks : List E) (Ak : Option Addr) (ck : Nat) (w : World) (h : DArg w ks Ak ck) (h40 : szL ks ≤ 40) (hr : (ks.all rightE && decide (ks.length ≤ 40)) = false) :
    Calls Tryd.prog 5 #[.bool se, .slice Ak ks.length ck] w (TrOk w) := by
  have C := over40_any ks Ak ck w h.k
  rw [show decide (40 < szL ks) = false by simp; omega] at C
  have HC := Lib.hid C
  have H := Lib.hid (And.intro h (And.intro h40 hr))
  clear C h h40 hr
  go_enter Tryd.func5, Tryd.ntmps5
  go_wp2_with fail
  refine HC.out.mono ?_
  rintro r w2 ⟨rfl, hb2⟩
  have a2 := H.out.1.below hb2
  have C2 := Lib.hid (awake9_any w2 a2.t a2.p)
  have H2 := Lib.hid hb2
  clear a2 hb2
  go_wp2_with fail
  refine C2.out.mono ?_
  rintro r w3 ⟨rfl, hb3⟩
  have b3 := H2.out.trans (hb3.mono H2.out.size)
  have C3 := allRight_any ks Ak ck w3 (H.out.1.k.on b3) (by have := H.out.2.1; omega)
  rw [H.out.2.2] at C3
  have HC3 := Lib.hid C3
  have H3 := Lib.hid b3
  clear hb3 b3 C3
  go_wp2_with fail
  refine HC3.out.mono ?_
  rintro r w4 ⟨rfl, hb4⟩
  have H4 := Lib.hid (H3.out.trans (hb4.mono H3.out.size))
  clear hb4
  go_wp2_with fail
  go_ret
  exact ⟨rfl, H4.out⟩
set_option maxHeartbeats 16000000 in
set_option maxRecDepth 100000 in
theorem makes_main (se : Bool) (ks : List E) (Ak : Option Addr) (ck : Nat) (w : World) (h : DArg w ks Ak ck) (h40 : szL ks ≤ 40) (hr : ks.all rightE = true) (hk : ks.length ≤ 40) :
    Calls Tryd.prog 5 #[.bool se, .slice Ak ks.length ck] w (TrOk w) := by
  have C := over40_any ks Ak ck w h.k
  rw [show decide (40 < szL ks) = false by simp; omega] at C
  have hlv : lvL ks ≤ 80 := Nat.le_trans (lv_le_sz ks) (by omega)
  have hok := makeN_ok ks hr (by unfold lvL at hlv; omega)
  obtain ⟨hcl, _⟩ := makeN_count ks hr (by unfold lvL at hlv; omega)
  have hln : (makeL ks 0 mka0).l.lv.length ≤ 1000 := by unfold lvL at hlv; omega
  have HC := Lib.hid C
  have H := Lib.hid (And.intro h (And.intro h40 (And.intro hr hk)))
  have HM := Lib.hid (And.intro hok (And.intro hln hlv))
  clear C h h40 hr hk hok hcl hln hlv
  go_enter Tryd.func5, Tryd.ntmps5
  go_wp2_with fail
  refine HC.out.mono ?_
  rintro r w2 ⟨rfl, hb2⟩
  have a2 := H.out.1.below hb2
  have C2 := Lib.hid (awake9_any w2 a2.t a2.p)
  have H2 := Lib.hid hb2
  clear a2 hb2
  go_wp2_with fail
  refine C2.out.mono ?_
  rintro r w3 ⟨rfl, hb3⟩
  have b3 := H2.out.trans (hb3.mono H2.out.size)
  have C3 := allRight_any ks Ak ck w3 (H.out.1.k.on b3) (by have := H.out.2.1; omega)
  rw [H.out.2.2.1, show decide (ks.length ≤ 40) = true by simpa using H.out.2.2.2] at C3
  have HC3 := Lib.hid C3
  have H3 := Lib.hid b3
  clear hb3 b3 C3
  go_wp2_with fail
  refine HC3.out.mono ?_
  rintro r w4 ⟨rfl, hb4⟩
  have b4 := H3.out.trans (hb4.mono H3.out.size)
  have C4 := Lib.hid (toL_any ks (by have := H.out.2.1; omega) Ak ck w4 (H.out.1.k.on b4))
  have H4 := Lib.hid b4
  clear hb4 b4
  go_wp2_with fail
  refine C4.out.mono ?_
  rintro r w5 ⟨A5, c5, rfl, hks5, hb5⟩
  have b5 := H4.out.trans (hb5.mono H4.out.size)
  have C5 := Lib.hid (new_any se ks A5 c5 w5 (hks5.ks (fun b hb => hb.2) (fun e v hN => NdP.nd (fun b hb => hb.2) _ e v (Nat.le_refl _) hN)) (fault_zero6 H.out.2.2.1 H.out.2.2.2 (by have := H.out.2.1; omega)) (H.out.1.t.below b5 H.out.1.t.lt))
  have H5 := Lib.hid b5
  clear hks5 hb5 b5
  go_wp2_with fail
  refine C5.out.mono ?_
  rintro r w6 ⟨q, nn, rfl, _, hn6, hb6⟩
  have b6 := H5.out.trans (hb6.mono H5.out.size)
  have C6 := Lib.hid (newD_any hn6 (H.out.1.t.below b6 H.out.1.t.lt) (H.out.1.p.below b6 H.out.1.p.lt))
  have H6 := Lib.hid b6
  clear hn6 hb6 b6
  go_wp2_with fail
  refine C6.out.mono ?_
  rintro r w7 ⟨R, T, v7, e7, rfl, hv7, hb7, hcase⟩
  have b7 := H6.out.trans (hb7.mono H6.out.size)
  obtain ⟨A, c, A2, c2, rfl, hR, hT⟩ := hv7
  obtain ⟨n1, hn1⟩ : ∃ n, R.length = n := ⟨_, rfl⟩
  obtain ⟨n2, hn2⟩ : ∃ n, T.length = n := ⟨_, rfl⟩
  have hv7 : TbV w7 R T (.agg #[.slice A n1 c, .slice A2 n2 c2]) := ⟨A, c, A2, c2, by rw [hn1, hn2], hR, hT⟩
  rw [hn1, hn2]
  obtain ⟨W8, hW8⟩ : ∃ W, w7.alloc (.cells #[.slice A n1 c, .slice A2 n2 c2] 54) = W := ⟨_, rfl⟩
  have b8 : Below w7.heap.size w7 W8 := by rw [← hW8]; exact below_new _ _
  have x8 : Cells W8 w7.heap.size 54 #[.slice A n1 c, .slice A2 n2 c2] := by rw [← hW8]; exact cells_new _ _ _
  have b08 := b7.trans (b8.mono b7.size)
  have C8 := Lib.hid (makeR_any se ks Ak ck W8 (H.out.1.k.on b08) H.out.2.2.1 (by have := H.out.2.1; show szL ks ≤ 80; omega) HM.out.2.2 (by have := H.out.2.2.2; omega))
  have hn1b : n1 ≤ 9223372036854775807 := by rw [← hn1]; have := hR.l; have := hR.m; unfold maxLen at this; omega
  have H8 := Lib.hid (And.intro b08 (And.intro x8 (hv7.on b8)))
  have HB := Lib.hid (And.intro hcase (And.intro hn1 hn2))
  have HW8 := Lib.hid hW8
  clear hW8 b8 x8 b08 hv7 hn1 hn2 hR hT b7 hb7 hcase
  go_wp2_with fail
  rw [HW8.out]
  refine C8.out.mono ?_
  rintro r w9 ⟨rfl, ra9, hb9⟩
  have C9 := Lib.hid (refMake_any HM.out.1 (by have := H.out.2.2.2; omega) HM.out.2.1 W8.heap.size w9 ra9)
  have H9 := Lib.hid (And.intro (H8.out.1.trans (hb9.mono H8.out.1.size)) (And.intro (H8.out.2.1.on hb9) (H8.out.2.2.on hb9)))
  clear ra9 hb9
  go_wp2_with fail
  refine C9.out.mono ?_
  rintro r w10 ⟨R', T', v10, rfl, hv10, hb10, hcase'⟩
  obtain ⟨B, d, B2, d2, rfl, hR', hT'⟩ := hv10
  obtain ⟨m1, hm1⟩ : ∃ n, R'.length = n := ⟨_, rfl⟩
  obtain ⟨m2, hm2⟩ : ∃ n, T'.length = n := ⟨_, rfl⟩
  have hv10 : TbV w10 R' T' (.agg #[.slice B m1 d, .slice B2 m2 d2]) := ⟨B, d, B2, d2, by rw [hm1, hm2], hR', hT'⟩
  rw [hm1, hm2]
  obtain ⟨W11, hW11⟩ : ∃ W, w10.alloc (.cells #[.slice B m1 d, .slice B2 m2 d2] 57) = W := ⟨_, rfl⟩
  have b11 : Below w10.heap.size w10 W11 := by rw [← hW11]; exact below_new _ _
  have hx11 : Cells W11 w10.heap.size 57 #[.slice B m1 d, .slice B2 m2 d2] := by rw [← hW11]; exact cells_new _ _ _
  have b910 := hb10.trans (b11.mono hb10.size)
  have x11 := H9.out.2.1.on b910
  have x10 := H9.out.2.1.on hb10
  have p0 : w10.cell? ⟨w7.heap.size, 0, none⟩ = some (.slice A n1 c) := x10.cell 0
  have p1 : w10.cell? ⟨w7.heap.size, 1, none⟩ = some (.slice A2 n2 c2) := x10.cell 1
  have hz7 : w7.heap.size < w10.heap.size := x10.lt
  have C12 := refSame_any (H9.out.2.2.on b910) (hv10.on b11)
  have bw11 := H9.out.1.trans (b910.mono H9.out.1.size)
  have hm1b : m1 ≤ 9223372036854775807 := by rw [← hm1]; have := hR'.l; have := hR'.m; unfold maxLen at this; omega
  have HW11 := Lib.hid hW11
  have HE := Lib.hid bw11
  have HR := Lib.hid (And.intro hm1 hm2)
  obtain ⟨hcase, hn1, hn2⟩ := HB.out
  rcases hcase' with ⟨rfl, rfl, S', hS', h120⟩ | ⟨S', hB', hl', hs'⟩
  · have hm0 : m1 = 0 := hm1.symm
    subst hm0
    have j1 : ((0 : Int) == 0) = true := rfl
    rcases hcase with ⟨rfl, rfl, rfl, S, hS, h1000⟩ | ⟨rfl, S, hBf, hl, hs⟩
    · clear b11 hx11 b910 x11 x10 bw11 hW11 hR' hT' hv10 hb10 hm1 hm2 hS h1000 hS' h120 hn1 hn2 C12
      go_wp2_with fail
      go_ret
      exact ⟨rfl, by rw [HW11.out]; exact HE.out⟩
    · have hbig : 120 < n1 := by have := bf_no_more hBf hl hS'; omega
      have j2 : (120 : Int) < (n1 : Int) := by omega
      have j2' : decide ((120 : Int) < (n1 : Int)) = true := by simpa using j2
      clear b11 hx11 b910 x11 x10 bw11 hW11 hR' hT' hv10 hb10 hm1 hm2 hBf hl hs hS' h120 hn1 hn2 C12 hbig
      go_wp2_with fail
      go_ret
      exact ⟨rfl, by rw [HW11.out]; exact HE.out⟩
  · have hpos : 0 < m1 := by have := hB'.sv.pos; omega
    have j1 : ((m1 : Int) == 0) = false := by simp; omega
    rcases hcase with ⟨rfl, rfl, rfl, S, hS, h1000⟩ | ⟨rfl, S, hBf, hl, hs⟩
    · have := bf_no_more hB' hl' hS
      omega
    · obtain ⟨e1, e2⟩ := bf_same hBf hl hB' hl'
      rw [show (decide (R = R') && decide (T = T')) = true by simp [e1, e2]] at C12
      have HC12 := Lib.hid C12
      clear b11 hx11 b910 x11 x10 bw11 hW11 hR' hT' hv10 hb10 hm1 hm2 hBf hl hs hB' hl' hs' hn1 hn2 C12 e1 e2 hpos
      go_wp2_with fail
      rw [HW11.out]
      refine HC12.out.mono ?_
      rintro r w13 ⟨rfl, hb13⟩
      have HF := Lib.hid (HE.out.trans (hb13.mono HE.out.size))
      clear hb13
      go_wp2_with fail
      go_ret
      exact ⟨rfl, HF.out⟩
theorem makes_any (se : Bool) (ks : List E) (Ak : Option Addr) (ck : Nat) (w : World) (h : DArg w ks Ak ck) :
    Calls Tryd.prog 5 #[.bool se, .slice Ak ks.length ck] w (TrOk w) := by
  by_cases h1 : 40 < szL ks
  · exact makes_big se ks Ak ck w h h1
  · cases hr : (ks.all rightE && decide (ks.length ≤ 40)) with
    | false => exact makes_wrong se ks Ak ck w h (by omega) hr
    | true =>
      simp only [Bool.and_eq_true, decide_eq_true_eq] at hr
      exact makes_main se ks Ak ck w h (by omega) hr.1 hr.2
end Go.Proofs.YtmldgfplnacecaaDoor

namespace Go.Proofs.YtmldgfplnacecaaDoor
open Go.ChangeShapes Go.WideShapes Go.ChangeAt Go.RowKit Go.Shelf
open Go.Lib

theorem cells37 : Tryd.prog.cellsOf 37 = 1 := by kernel_rfl
theorem cells160 : Tryd.prog.cellsOf 167 = 20 := by kernel_rfl
def laid3 : List (String × DataW Unit) := [("math/bits.deBruijn32tab", Rows.laid_math_bits_deBruijn32tab), ("math/bits.deBruijn64tab", Rows.laid_math_bits_deBruijn64tab), ("internal/strconv.uint64pow10", Rows.laid_internal_strconv_uint64pow10)]
theorem pow_eq : (Rows.laid_internal_strconv_uint64pow10 : DataW Unit) = tabData .u64 Lib.pow10Tab := by kernel_rfl
theorem yPow : (Tryd.prog.globals[1]?).map (·.type) = some 167 := by kernel_rfl
theorem pw_of_reads {w : World} (h : VarReads Tryd.prog w "internal/strconv.uint64pow10" Rows.laid_internal_strconv_uint64pow10) : PW w := by
  rw [pow_eq] at h
  obtain ⟨g, t, cs, fuel, p, hg, hty, hvar, hd⟩ := h
  obtain rfl := Option.some.inj (gPow.symm.trans hg)
  obtain rfl := Option.some.inj (yPow.symm.trans hty)
  have hcs := cells_of_tab Tryd.underlying167 Tryd.underlying37 cells37 cells160 hd
  unfold PW Lib.TabIs
  rw [hvar, ← hcs]
end Go.Proofs.YtmldgfplnacecaaDoor

namespace Go.Proofs.YtmldgfplnacecaaDoor
open Go.ChangeShapes Go.WideShapes Go.ChangeAt Go.RowKit Go.Shelf
open Go.Lib

set_option maxRecDepth 100000 in
theorem dfaMakes_lifted (os : Os) (started : os.Started) (H : Type) (enc : TypeId × Value → H) :
    ReturnsInHanded {} Tryd.checked os 5 .any (fun w args => (Rows.dfaMakesSpec.pre enc Tryd.prog Tryd.f5 [] false w args ∧ laidMetH Tryd.prog laid3 w) ∧ sizedMet enc Tryd.prog Tryd.f5 (OpenSpec.ofChange Rows.dfaMakesSpec) false w args)
      (Rows.dfaMakesSpec.post enc Tryd.prog Tryd.f5 false true false false) := by
  refine returnsInHanded_of_change_and (C := Tryd.checked) (X := fun w _ => laidMetH Tryd.prog laid3 w) (fun _ _ _ hh h => h.of_heap hh) own started (by kernel_rfl) Tryd.func5
    (ChangeSpec.witness_shaped (enc := enc) (C := Tryd.checked) (os := os) (X := fun w _ => laidMetH Tryd.prog laid3 w) false (World.laidAll Tryd.prog os laid3) #[.bool false, .slice none 0 0] 8 (World.laidAll_os _ _ _)
      (World.shaped_of_ZipB (by kernel_rfl) (by kernel_rfl)) (by kernel_rfl) (by kernel_rfl) (by kernel_rfl)
      (by rw [MakeChecks.laidMetH_plain _ _ _ (by kernel_rfl)]; exact laidMet_laidAll _ (by kernel_rfl) (by kernel_rfl))) ?_
  intro W base args ds gs before hval0 hW _ _ hL _
  have hval : ∀ (j : Nat) t v, Tryd.f5.params[j]? = some t → args[j]? = some v → Value.okWide Tryd.prog W .any base t v := hval0
  have hW' := hW
  obtain ⟨p, q, hA0, hV, rfl, _, _⟩ := hW
  have hA : DataW.TrodAll enc Tryd.prog W 0 (fun _ => true) true Tryd.f5.params.toList args.toList ds p := hA0
  rw [Tryd.params5] at hA hval
  obtain ⟨v0, vs0, d0, ds0, p0, q0, hargs, rfl, rfl, h0, r0⟩ := trodAll_cons hA
  obtain ⟨v1, vs1, d1, ds1, p1, q1, rfl, rfl, rfl, h1, r1⟩ := trodAll_cons r0
  obtain ⟨rfl, rfl, rfl⟩ := trodAll_nil r1
  obtain rfl : args = #[v0, v1] := by cases args; simp_all
  obtain ⟨rfl, rfl⟩ := trodVars_none hV
  obtain ⟨se, rfl, rfl, rfl⟩ := open_bool Tryd.underlying4 (hval 0 4 v0 rfl rfl) h0
  have t1 := h1
  have lt1 : ∀ x ∈ p1, x.block < W.heap.size := by obtain ⟨m, hm⟩ := t1; exact DataW.trod_lt m _ _ _ hm
  obtain ⟨ks, Ak, ck, rfl, hk⟩ := ks_of_arg (hval 1 22 v1 rfl rfl) h1
  rw [MakeChecks.laidMetH_plain _ _ _ (by kernel_rfl)] at hL
  have hZ : TZ W := tz_of_reads (Lib.laidMet.reads hL (.tail _ (.head _)))
  have hPw : PW W := pw_of_reads (Lib.laidMet.reads hL (.tail _ (.tail _ (.head _))))
  clear hA0 hval0
  refine (makes_any se ks Ak ck W ⟨hk, hZ, hPw⟩).mono fun e W' ⟨he, bel⟩ => ?_
  subst he
  exact ⟨_, rfl, _, _, _, [], _, [], hW', trodAll_mk1 (shut_bool Tryd.underlying4 _), (trodAll_cons_mk (shut_bool Tryd.underlying4 _) (trodAll_cons_mk (Below.trod laidOut (by kernel_rfl) (of_decide_eq_true (by kernel_rfl)) t1 bel lt1) trodAll_mk0)), rfl, bel.frame _, fun h => by cases h⟩

theorem dfaMakes_row : Rows.DfaMakesSaid :=
  OpenClaim.holds_of_wide 5 Tryd.f5 rfl rfl rfl rfl rfl rfl rfl ⟨rfl, rfl, rfl, rfl, rfl⟩ rfl rfl rfl rfl rfl (by kernel_rfl) Tryd.func5 (by kernel_rfl)
    (of_decide_eq_true (by kernel_rfl)) (by unfold Func.isWrapper; first | (rw [if_pos (by decide +kernel)]; kernel_rfl) | (rw [if_neg (by decide +kernel)]; exact ⟨rfl, rfl⟩))
    (fun os started H enc _ => dfaMakes_lifted os started H enc)

/-- THE STATEMENT. -/
theorem dfaMakes_holds : Rows.DfaMakesCardSaid :=
  Claim7.holds_tied_plain_at .later [] [.data, .data, .data] true (true, "514ee3f9c623097908ebe5a446b6330cc07a40f1cd1db0d920030062fa9fe13d") false
    dfaMakes_row (fun _ h => by cases h) (by kernel_rfl) (fun _ h => by cases h) dfaMakes_row_tie rfl ⟨rfl, rfl⟩ (by kernel_rfl) rfl
    (fun f fn hf hfn => by
      obtain rfl : f = 5 := Option.some.inj ((show Tryd.prog.funcNamed Rows.dfaMakesRow.func = some 5 by kernel_rfl).symm.trans hf) |>.symm
      obtain rfl : fn = Tryd.f5 := (Option.some.inj (Tryd.func5.symm.trans hfn)).symm
      exact ⟨by kernel_rfl, fun j t ht => by
        rw [Tryd.params5] at ht
        have hm : t ∈ [4, 22] := by simpa using Array.mem_of_getElem? ht
        have hall : ([4, 22].all fun u => !Tryd.prog.wantsStandIn u) = true := by kernel_rfl
        exact (show Tryd.prog.wantsStandIn t = false by simpa using List.all_eq_true.1 hall t hm)⟩)
    (by kernel_rfl)
#print axioms dfaMakes_holds
end Go.Proofs.YtmldgfplnacecaaDoor

