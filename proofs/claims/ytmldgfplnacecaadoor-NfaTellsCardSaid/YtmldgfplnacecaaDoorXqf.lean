/-
  Contract: virguleref08.A.Tells.
  The document's automaton as lists against the automaton as masks. No program.
  Contract: virguleref08.A.pair.
  How long the lists become while expressions are looked through. No program.
  Contracts: nfa.leaves.
  Contracts: nfa.fault.
  Contracts: nfa.New.
  The document's automaton of expressions: its sets and what they tell are those of the masks. No program.
-/
import Derived.BigQuiet
import Derived.Deep.QuietTactic
import Derived.Test.YtmldgfplnacecaaDoorXqe
import Derived.BigRegion
import Derived.Deep.RegionLaw
import Derived.Deep.AppendLies
import Derived.Test.YtmldgfplnacecaaDoorXqb
import Derived.Test.YtmldgfplnacecaaDoorXqd
namespace Go.Proofs.YtmldgfplnacecaaDoor
open Go.RowKit Go.Shelf Go.Lib

/-- What one place tells. -/
def bitR (a : RA) (x : Int) : Nat := if x ∈ a.la then 2 ^ ((a.of[(x - 1).toNat]?.getD 0).toNat) else 0
def tellsR (a : RA) (xs : List Int) : Nat → Nat
  | 0 => if (0 : Int) ∈ xs then a.em else 0
  | t + 1 => tellsR a xs t ||| (match xs[t]? with | some x => bitR a x | none => 0)
/-- Each last leaf has its expression, one of 64. -/
def LaOk (a : RA) : Prop := a.em < 18446744073709551616 ∧ ∀ x ∈ a.la, ∃ k o : Nat, x = (k : Int) + 1 ∧ k < 100000 ∧ a.of[k]? = some (o : Int) ∧ o < 64
theorem bitR_lt {a : RA} (h : LaOk a) (x : Int) : bitR a x < 18446744073709551616 := by
  unfold bitR
  split
  · rename_i hm
    obtain ⟨k, o, rfl, -, he, ho⟩ := h.2 x hm
    rw [show ((k : Int) + 1 - 1).toNat = k by omega, he]
    simp only [Option.getD_some, Int.toNat_natCast]
    exact Nat.pow_lt_pow_right (a := 2) (n := 64) (by omega) ho
  · decide
theorem tellsR_lt {a : RA} (h : LaOk a) (xs : List Int) : ∀ t, tellsR a xs t < 18446744073709551616
  | 0 => by unfold tellsR; split; exact h.1; decide
  | t + 1 => by
    unfold tellsR
    refine Nat.or_lt_two_pow (n := 64) (tellsR_lt h xs t) ?_
    split
    · exact bitR_lt h _
    · decide
set_option maxHeartbeats 8000000 in
set_option maxRecDepth 100000 in
theorem tellsR_any (a : RA) (b : Nat) (xs : List Int) (A : Option Addr) (cap : Nat) (w : World) (h : RAt w b a) (hx : IS w w.heap.size xs A cap) (hla : LaOk a) :
    Calls Tryd.prog 21 #[.pointer (some ⟨b, 0, none⟩), .slice A xs.length cap] w fun r w' => r = .returned (.int .u64 (tellsR a xs xs.length : Nat)) ∧ Below w.heap.size w w' := by
  obtain ⟨N, hN⟩ : ∃ N, xs.length = N := ⟨_, rfl⟩
  have hN63 : N ≤ 9223372036854775807 := by have := hx.l; have := hx.m; unfold maxLen at this; omega
  have c6 := h.c6
  have CI := in_any xs A cap 0 w hx
  rw [hN] at CI ⊢
  obtain ⟨EM, hem⟩ : ∃ e, a.em = e := ⟨_, rfl⟩
  rw [hem] at c6
  obtain ⟨Z, hZ⟩ : ∃ z, decide ((0 : Int) ∈ xs) = z := ⟨_, rfl⟩
  rw [hZ] at CI
  have CI := Lib.hid CI
  have H := Lib.hid (And.intro h (And.intro hx (And.intro hla (And.intro hN (And.intro hem hZ)))))
  clear h hx hla hN hem hZ
  obtain ⟨S0, hS0⟩ : ∃ s, tellsR a xs 0 = s := ⟨_, rfl⟩
  have HS0 : S0 = if Z then EM else 0 := by
    rw [← hS0]
    unfold tellsR
    rw [← H.out.2.2.2.2.1, ← H.out.2.2.2.2.2]
    by_cases hz : (0 : Int) ∈ xs
    · rw [if_pos hz]; simp [hz]
    · rw [if_neg hz]; simp [hz]
  have HS := Lib.hid (And.intro hS0 HS0)
  clear hS0 HS0
  go_enter Tryd.func21, Tryd.ntmps21
  go_wp2_with fail
  refine CI.out.mono ?_
  rintro r wq ⟨rfl, e20⟩
  obtain rfl := e20.symm
  cases Z with
  | true =>
    obtain rfl : S0 = EM := by rw [HS.out.2]; rfl
    go_wp2_with fail
    go_loopw [5, 6] (fun v i wr => ∃ t : Nat, i = .int .i64 (t : Int) ∧ t ≤ N ∧ v = .int .u64 ((tellsR a xs t : Nat) : Int) ∧ Below w.heap.size w wr) (fun _ i _ => N - (RowKit.intOf i).toNat)
    case atStart => exact ⟨0, rfl, by omega, by rw [HS.out.1], Below.refl _ _⟩
    case round =>
      obtain ⟨t, rfl, ht, rfl, hb⟩ := hrel
      by_cases hlt : t < N
      · have i1 : (t : Int) < (N : Int) := by omega
        obtain ⟨x, hxt⟩ : ∃ x, xs[t]? = some x := ⟨xs[t]'(by rw [H.out.2.2.2.1]; exact hlt), List.getElem?_eq_getElem _⟩
        have hx2 := H.out.2.1.on hb
        obtain ⟨bx, ox, rfl, hbl, hc⟩ := hx2.r (by rintro rfl; simp at hxt)
        have d0 := hc t x hxt
        have a1 := H.out.1.on hb
        obtain ⟨A4, cp4, d4, k4⟩ := a1.c4
        obtain ⟨nl, hnl⟩ : ∃ n, a.la.length = n := ⟨_, rfl⟩
        obtain ⟨G, hG⟩ : ∃ z, decide (x ∈ a.la) = z := ⟨_, rfl⟩
        have CF := fun nq => in_any a.la A4 cp4 x (wr.drewN nq) (k4.on (below_drewN (Below.refl wr.heap.size wr) nq))
        rw [hnl] at d4 CF
        rw [hG] at CF
        have CF := Lib.hid CF
        have hT := tellsR_lt H.out.2.2.1 xs t
        have hnext : tellsR a xs (t + 1) = tellsR a xs t ||| bitR a x := by
          show tellsR a xs t ||| (match xs[t]? with | some x => bitR a x | none => 0) = _
          rw [hxt]
        obtain ⟨T1, hT1⟩ : ∃ m, tellsR a xs (t + 1) = m := ⟨_, rfl⟩
        rw [hT1] at hnext
        cases G with
        | false =>
          have hnm : ¬ x ∈ a.la := by simpa using hG
          have e0 : T1 = tellsR a xs t := by
            rw [hnext]
            unfold bitR
            rw [if_neg hnm]
            simp
          rw [hT1.symm] at e0
          have HK := Lib.hid (And.intro hb e0)
          clear hb e0 hc hx2 a1 k4 hnm hG hnext hT1 hT
          generalize tellsR a xs t = T at *
          go_wp2_with fail
          go_quiet (first | (go_at_call 54; with_reducible refine Calls.quiet_of_same (CF.out _)))
          rename_i nq _
          have HB2 := Lib.hid (below_drewN HK.out.1 nq)
          go_wp2_with fail
          go_roundw
          case rel => exact ⟨t + 1, by go_num, by omega, by rw [HK.out.2], HB2.out⟩
          case measure => simp [RowKit.intOf]; omega
        | true =>
          have hm : x ∈ a.la := by simpa using hG
          obtain ⟨k, o, rfl, hk, ho, ho64⟩ := H.out.2.2.1.2 x hm
          obtain ⟨A2, cp2, d2, k2⟩ := a1.c2
          obtain ⟨bo, oo, rfl, hbo, hco⟩ := k2.r (by rintro e; rw [e] at ho; simp at ho)
          have d3 := hco k (o : Int) ho
          have hkl : k < a.of.length := by
            rcases Nat.lt_or_ge k a.of.length with e | e
            · exact e
            · rw [List.getElem?_eq_none e] at ho; cases ho
          obtain ⟨no, hno⟩ : ∃ n, a.of.length = n := ⟨_, rfl⟩
          rw [hno] at d2 hkl
          have j0 : (k : Int) < (no : Int) := by omega
          have hbit : bitR a ((k : Int) + 1) = 2 ^ o := by
            unfold bitR
            rw [if_pos hm, show ((k : Int) + 1 - 1).toNat = k by omega, ho]
            simp
          rw [hbit] at hnext
          have hw2 : wrap64 ((k : Int) + 1 - 1) = (k : Int) := by unfold wrap64; omega
          have hw1 : IntKind.i64.wrap ((k : Int) + 1 - 1) = (k : Int) := by rw [IntWalk.i64_in _ (by omega)]; omega
          have hpw := wrap_pow o ho64
          have hpl : 2 ^ o < 18446744073709551616 := Nat.pow_lt_pow_right (a := 2) (n := 64) (by omega) ho64
          obtain ⟨P, hP⟩ : ∃ p, 2 ^ o = p := ⟨_, rfl⟩
          rw [hP] at hpw hpl hnext
          have HB := Lib.hid (show bits .or .u64 ((tellsR a xs t : Nat) : Int) (P : Int) = ((tellsR a xs t ||| P : Nat) : Int) from bits_or_u64_nat _ _ hT hpl)
          rw [← hnext] at HB
          have HK := Lib.hid (And.intro hb (And.intro hT1 hpw))
          clear hb hc hx2 a1 k4 hm hG hnext hT1 hT k2 hco ho hno hbit hpw hpl hP
          generalize tellsR a xs t = T at *
          go_wp2_with fail
          go_quiet (first | (go_at_call 54; with_reducible refine Calls.quiet_of_same (CF.out _)))
          rename_i nq _
          have hb2 := below_drewN HK.out.1 nq
          go_wp2_with fail
          go_quiet (fail)
          have hb3 := below_drewN hb2 nq
          rw [World.drewN_drewN] at hb3
          have HB2 := Lib.hid hb3
          clear hb3
          clear hb2
          go_wp2_with fail
          go_roundw
          case rel => exact ⟨t + 1, by go_num, by omega, by rw [HK.out.2.1, HK.out.2.2, HB.out], HB2.out⟩
          case measure => simp [RowKit.intOf]; omega
      · obtain rfl : t = N := by omega
        have i1 : ¬ (t : Int) < (t : Int) := by omega
        have HB2 := Lib.hid hb
        clear hb
        go_wp2_with fail
        go_ret
        exact ⟨rfl, HB2.out⟩
  | false =>
    obtain rfl : S0 = 0 := by rw [HS.out.2]; rfl
    go_wp2_with fail
    go_loopw [5, 6] (fun v i wr => ∃ t : Nat, i = .int .i64 (t : Int) ∧ t ≤ N ∧ v = .int .u64 ((tellsR a xs t : Nat) : Int) ∧ Below w.heap.size w wr) (fun _ i _ => N - (RowKit.intOf i).toNat)
    case atStart => exact ⟨0, rfl, by omega, by rw [HS.out.1]; rfl, Below.refl _ _⟩
    case round =>
      obtain ⟨t, rfl, ht, rfl, hb⟩ := hrel
      by_cases hlt : t < N
      · have i1 : (t : Int) < (N : Int) := by omega
        obtain ⟨x, hxt⟩ : ∃ x, xs[t]? = some x := ⟨xs[t]'(by rw [H.out.2.2.2.1]; exact hlt), List.getElem?_eq_getElem _⟩
        have hx2 := H.out.2.1.on hb
        obtain ⟨bx, ox, rfl, hbl, hc⟩ := hx2.r (by rintro rfl; simp at hxt)
        have d0 := hc t x hxt
        have a1 := H.out.1.on hb
        obtain ⟨A4, cp4, d4, k4⟩ := a1.c4
        obtain ⟨nl, hnl⟩ : ∃ n, a.la.length = n := ⟨_, rfl⟩
        obtain ⟨G, hG⟩ : ∃ z, decide (x ∈ a.la) = z := ⟨_, rfl⟩
        have CF := fun nq => in_any a.la A4 cp4 x (wr.drewN nq) (k4.on (below_drewN (Below.refl wr.heap.size wr) nq))
        rw [hnl] at d4 CF
        rw [hG] at CF
        have CF := Lib.hid CF
        have hT := tellsR_lt H.out.2.2.1 xs t
        have hnext : tellsR a xs (t + 1) = tellsR a xs t ||| bitR a x := by
          show tellsR a xs t ||| (match xs[t]? with | some x => bitR a x | none => 0) = _
          rw [hxt]
        obtain ⟨T1, hT1⟩ : ∃ m, tellsR a xs (t + 1) = m := ⟨_, rfl⟩
        rw [hT1] at hnext
        cases G with
        | false =>
          have hnm : ¬ x ∈ a.la := by simpa using hG
          have e0 : T1 = tellsR a xs t := by
            rw [hnext]
            unfold bitR
            rw [if_neg hnm]
            simp
          rw [hT1.symm] at e0
          have HK := Lib.hid (And.intro hb e0)
          clear hb e0 hc hx2 a1 k4 hnm hG hnext hT1 hT
          generalize tellsR a xs t = T at *
          go_wp2_with fail
          go_quiet (first | (go_at_call 54; with_reducible refine Calls.quiet_of_same (CF.out _)))
          rename_i nq _
          have HB2 := Lib.hid (below_drewN HK.out.1 nq)
          go_wp2_with fail
          go_roundw
          case rel => exact ⟨t + 1, by go_num, by omega, by rw [HK.out.2], HB2.out⟩
          case measure => simp [RowKit.intOf]; omega
        | true =>
          have hm : x ∈ a.la := by simpa using hG
          obtain ⟨k, o, rfl, hk, ho, ho64⟩ := H.out.2.2.1.2 x hm
          obtain ⟨A2, cp2, d2, k2⟩ := a1.c2
          obtain ⟨bo, oo, rfl, hbo, hco⟩ := k2.r (by rintro e; rw [e] at ho; simp at ho)
          have d3 := hco k (o : Int) ho
          have hkl : k < a.of.length := by
            rcases Nat.lt_or_ge k a.of.length with e | e
            · exact e
            · rw [List.getElem?_eq_none e] at ho; cases ho
          obtain ⟨no, hno⟩ : ∃ n, a.of.length = n := ⟨_, rfl⟩
          rw [hno] at d2 hkl
          have j0 : (k : Int) < (no : Int) := by omega
          have hbit : bitR a ((k : Int) + 1) = 2 ^ o := by
            unfold bitR
            rw [if_pos hm, show ((k : Int) + 1 - 1).toNat = k by omega, ho]
            simp
          rw [hbit] at hnext
          have hw2 : wrap64 ((k : Int) + 1 - 1) = (k : Int) := by unfold wrap64; omega
          have hw1 : IntKind.i64.wrap ((k : Int) + 1 - 1) = (k : Int) := by rw [IntWalk.i64_in _ (by omega)]; omega
          have hpw := wrap_pow o ho64
          have hpl : 2 ^ o < 18446744073709551616 := Nat.pow_lt_pow_right (a := 2) (n := 64) (by omega) ho64
          obtain ⟨P, hP⟩ : ∃ p, 2 ^ o = p := ⟨_, rfl⟩
          rw [hP] at hpw hpl hnext
          have HB := Lib.hid (show bits .or .u64 ((tellsR a xs t : Nat) : Int) (P : Int) = ((tellsR a xs t ||| P : Nat) : Int) from bits_or_u64_nat _ _ hT hpl)
          rw [← hnext] at HB
          have HK := Lib.hid (And.intro hb (And.intro hT1 hpw))
          clear hb hc hx2 a1 k4 hm hG hnext hT1 hT k2 hco ho hno hbit hpw hpl hP
          generalize tellsR a xs t = T at *
          go_wp2_with fail
          go_quiet (first | (go_at_call 54; with_reducible refine Calls.quiet_of_same (CF.out _)))
          rename_i nq _
          have hb2 := below_drewN HK.out.1 nq
          go_wp2_with fail
          go_quiet (fail)
          have hb3 := below_drewN hb2 nq
          rw [World.drewN_drewN] at hb3
          have HB2 := Lib.hid hb3
          clear hb3
          clear hb2
          go_wp2_with fail
          go_roundw
          case rel => exact ⟨t + 1, by go_num, by omega, by rw [HK.out.2.1, HK.out.2.2, HB.out], HB2.out⟩
          case measure => simp [RowKit.intOf]; omega
      · obtain rfl : t = N := by omega
        have i1 : ¬ (t : Int) < (t : Int) := by omega
        have HB2 := Lib.hid hb
        clear hb
        go_wp2_with fail
        go_ret
        exact ⟨rfl, HB2.out⟩
end Go.Proofs.YtmldgfplnacecaaDoor

namespace Go.Proofs.YtmldgfplnacecaaDoor
open Go.RowKit Go.Shelf Go.Lib

/-- What is kept while expressions are looked through: leaves, their expressions, pairs. -/
structure Lk where
  lv : List E
  of : List Int
  pr : List (Int × Int)
/-- What is known of a part. -/
structure Pt where
  empty : Bool
  first : List Int
  last : List Int
def pairsL (l m : List Int) : List (Int × Int) := l.flatMap fun i => m.map fun k => (i, k)
def Lk.pair (s : Lk) (l m : List Int) : Lk := { s with pr := s.pr ++ pairsL l m }
def lookE : E → Int → Lk → Lk × Pt
  | .mk k c ks, o, s =>
    if k = 9 then (s, ⟨true, [], []⟩)
    else if ks = [] then (⟨s.lv ++ [.mk k c ks], s.of ++ [o], s.pr⟩, ⟨false, [(s.lv.length : Int) + 1], [(s.lv.length : Int) + 1]⟩)
    else
      let r := lookL k ks o s ⟨k == 4, [], []⟩
      (if k = 6 ∨ k = 7 then r.1.pair r.2.last r.2.first else r.1, ⟨r.2.empty || (k == 6) || (k == 8), r.2.first, r.2.last⟩)
where
  lookL (k : Int) : List E → Int → Lk → Pt → Lk × Pt
    | [], _, s, p => (s, p)
    | e :: r, o, s, p =>
      let q := lookE e o s
      if k = 4 then
        lookL k r o (q.1.pair p.last q.2.first) ⟨p.empty && q.2.empty, if p.empty then p.first ++ q.2.first else p.first, if q.2.empty then p.last ++ q.2.last else q.2.last⟩
      else lookL k r o q.1 ⟨p.empty || q.2.empty, p.first ++ q.2.first, p.last ++ q.2.last⟩
abbrev lookL := lookE.lookL
theorem mem_pairs {l m : List Int} {a b : Int} : (a, b) ∈ pairsL l m ↔ a ∈ l ∧ b ∈ m := by
  unfold pairsL
  simp only [List.mem_flatMap, List.mem_map, Prod.mk.injEq]
  constructor
  · rintro ⟨i, hi, k, hk, rfl, rfl⟩; exact ⟨hi, hk⟩
  · rintro ⟨h1, h2⟩; exact ⟨a, h1, b, h2, rfl, rfl⟩
/-- A set of places as a list, and as a mask; all below a bound, none the start. -/
def Eqs (l : List Int) (m N : Nat) : Prop := (∀ q : Nat, m.testBit q = true ↔ (q : Int) ∈ l) ∧ ∀ x ∈ l, 1 ≤ x ∧ x < (N : Int)
theorem eqs_nil (N : Nat) : Eqs [] 0 N := ⟨fun q => by simp, fun x hx => by simp at hx⟩
theorem Eqs.app {l l' : List Int} {m m' N : Nat} (h : Eqs l m N) (h' : Eqs l' m' N) : Eqs (l ++ l') (m ||| m') N :=
  ⟨fun q => by rw [Nat.testBit_or, Bool.or_eq_true, h.1, h'.1, List.mem_append], fun x hx => by
    rcases List.mem_append.1 hx with e | e
    · exact h.2 x e
    · exact h'.2 x e⟩
theorem Eqs.app' {l l' : List Int} {m m' N : Nat} (h : Eqs l m N) (h' : Eqs l' m' N) : Eqs (l ++ l') (m' ||| m) N := by
  rw [Nat.or_comm]; exact h.app h'
theorem Eqs.mono {l : List Int} {m N N' : Nat} (h : Eqs l m N) (hn : N ≤ N') : Eqs l m N' := ⟨h.1, fun x hx => by have := h.2 x hx; omega⟩
theorem Eqs.one {N p : Nat} (h1 : 1 ≤ p) (h2 : p < N) : Eqs [(p : Int)] (2 ^ p) N :=
  ⟨fun q => by rw [Nat.testBit_two_pow]; simp; omega, fun x hx => by simp at hx; omega⟩
structure PtOk (p : Pt) (q : Sp) (N : Nat) : Prop where
  e : p.empty = q.empty
  f : Eqs p.first q.first N
  l : Eqs p.last q.last N
/-- Leaves, followers, takers: as lists, and as masks. fi: what may come first. -/
structure LkOk (s : Lk) (t : St) (fi : List Int) : Prop where
  c : t.count = s.lv.length + 1
  o : s.of.length = s.lv.length
  n : ∀ p q : Nat, (t.next p).testBit q = true ↔ ((p : Int), (q : Int)) ∈ s.pr ∨ (p = 0 ∧ (q : Int) ∈ fi)
  k : ∀ m q : Nat, (t.takers m).testBit q = true ↔ ∃ j e, q = j + 1 ∧ s.lv[j]? = some e ∧ takesI e.k e.c (m : Int) = true
theorem inM_lt {m p : Nat} (h : p < 1024) : inM m p = m.testBit p := by unfold inM; simp [h]
theorem LkOk.pair {s : Lk} {t : St} {fi l m : List Int} {a b N : Nat} (h : LkOk s t fi) (ha : Eqs l a N) (hb : Eqs m b N) (hN : N ≤ 1024) : LkOk (s.pair l m) (t.link a b) fi where
  c := h.c
  o := h.o
  k := h.k
  n := fun p q => by
    show ((if inM a p then t.next p ||| b else t.next p)).testBit q = true ↔ ((p : Int), (q : Int)) ∈ s.pr ++ pairsL l m ∨ _
    rw [List.mem_append, mem_pairs]
    by_cases hp : (p : Int) ∈ l
    · have := ha.2 _ hp
      rw [inM_lt (by omega), (ha.1 p).2 hp, if_pos rfl, Nat.testBit_or, Bool.or_eq_true, h.n, hb.1]
      constructor
      · rintro ((e | e) | e)
        · exact .inl (.inl e)
        · exact .inr e
        · exact .inl (.inr ⟨hp, e⟩)
      · rintro ((e | e) | e)
        · exact .inl (.inl e)
        · exact .inr e.2
        · exact .inl (.inr e)
    · have : inM a p = false := by
        cases hi : inM a p with
        | false => rfl
        | true =>
          unfold inM at hi
          rw [Bool.and_eq_true] at hi
          exact absurd ((ha.1 p).1 hi.2) hp
      rw [this, if_neg (by simp), h.n]
      constructor
      · rintro (e | e)
        · exact .inl (.inl e)
        · exact .inr e
      · rintro ((e | e) | e)
        · exact .inl e
        · exact absurd e.1 hp
        · exact .inr e
theorem takesE_I (k c : Int) (m : Nat) : (decide (m ≤ 36) && takesE k c m) = takesI k c (m : Int) := by
  unfold takesE takesI
  by_cases h3 : k = 3
  · rw [if_pos h3, if_pos h3]
    by_cases hm : m = 36
    · subst hm; rfl
    · have e1 : (m == 36) = false := by simp [hm]
      have e2 : ((m : Int) == 36) = false := by simp; omega
      rw [e1, e2]; simp
  · rw [if_neg h3, if_neg h3]
    have e0 : decide ((0 : Int) ≤ (m : Int)) = true := by simp
    rw [e0, Bool.true_and]
    by_cases hm : m ≤ 35
    · rw [decide_eq_true (show m ≤ 36 by omega), decide_eq_true hm, decide_eq_true (show (m : Int) ≤ 35 by omega)]
      simp
    · rw [decide_eq_false hm, decide_eq_false (show ¬ (m : Int) ≤ 35 by omega)]
      simp
theorem LkOk.leaf {s : Lk} {t : St} {fi : List Int} (h : LkOk s t fi) (k c o : Int) : LkOk ⟨s.lv ++ [.mk k c []], s.of ++ [o], s.pr⟩ (t.leaf k c) fi where
  c := by show t.count + 1 = _; rw [h.c]; simp
  o := by show (s.of ++ [o]).length = (s.lv ++ [E.mk k c []]).length; simp [h.o]
  n := h.n
  k := fun m q => by
    show ((if decide (m ≤ 36) && takesE k c m then t.takers m ||| 2 ^ t.count else t.takers m)).testBit q = true ↔ ∃ j e, q = j + 1 ∧ (s.lv ++ [E.mk k c []])[j]? = some e ∧ _
    rw [takesE_I]
    have key : (∃ j e, q = j + 1 ∧ (s.lv ++ [E.mk k c []])[j]? = some e ∧ takesI e.k e.c (m : Int) = true) ↔ (∃ j e, q = j + 1 ∧ s.lv[j]? = some e ∧ takesI e.k e.c (m : Int) = true) ∨ (q = t.count ∧ takesI k c (m : Int) = true) := by
      constructor
      · rintro ⟨j, e, rfl, he, ht⟩
        rcases Nat.lt_or_ge j s.lv.length with hl | hl
        · rw [List.getElem?_append_left hl] at he
          exact .inl ⟨j, e, rfl, he, ht⟩
        · have h2 := (List.getElem?_eq_some_iff.1 he).1
          simp at h2
          obtain rfl : j = s.lv.length := by omega
          simp at he
          subst he
          exact .inr ⟨h.c.symm, ht⟩
      · rintro (⟨j, e, rfl, he, ht⟩ | ⟨rfl, ht⟩)
        · exact ⟨j, e, rfl, by rw [List.getElem?_append_left (List.getElem?_eq_some_iff.1 he).1]; exact he, ht⟩
        · exact ⟨s.lv.length, E.mk k c [], h.c, by simp, ht⟩
    rw [key]
    by_cases ht : takesI k c (m : Int) = true
    · rw [ht, if_pos rfl, Nat.testBit_or, Bool.or_eq_true, h.k, Nat.testBit_two_pow]
      simp only [decide_eq_true_eq]
      constructor
      · rintro (e | e)
        · exact .inl e
        · exact .inr ⟨e.symm, trivial⟩
      · rintro (e | e)
        · exact .inl e
        · exact .inr e.1.symm
    · have : takesI k c (m : Int) = false := by simpa using ht
      rw [this, if_neg (by simp), h.k]
      simp
/-- What a look leaves as it was; the new leaves are of this expression, and the part's places are new ones. -/
structure LkMore (s s' : Lk) (o : Int) : Prop where
  l : s.lv.length ≤ s'.lv.length
  m : ∀ (j : Nat) x, s.of[j]? = some x → s'.of[j]? = some x
  a : ∀ j : Nat, s.of.length ≤ j → j < s'.of.length → s'.of[j]? = some o
theorem LkMore.refl (s : Lk) (o : Int) : LkMore s s o := ⟨Nat.le_refl _, fun _ _ h => h, fun j h1 h2 => by omega⟩
theorem LkMore.trans {s s1 s2 : Lk} {o : Int} (h : LkMore s s1 o) (h' : LkMore s1 s2 o) : LkMore s s2 o :=
  ⟨Nat.le_trans h.l h'.l, fun j x hx => h'.m j x (h.m j x hx), fun j h1 h2 => by
    rcases Nat.lt_or_ge j s1.of.length with hl | hl
    · exact h'.m j o (h.a j h1 hl)
    · exact h'.a j hl h2⟩
def Lo (l : List Int) (b : Nat) : Prop := ∀ x ∈ l, (b : Int) < x
theorem Lo.app {l l' : List Int} {b : Nat} (h : Lo l b) (h' : Lo l' b) : Lo (l ++ l') b := fun x hx => by
  rcases List.mem_append.1 hx with e | e
  · exact h x e
  · exact h' x e
theorem Lo.mono {l : List Int} {b b' : Nat} (h : Lo l b) (hb : b' ≤ b) : Lo l b' := fun x hx => by have := h x hx; omega
structure LookOk (s : Lk) (fi : List Int) (o : Int) (r : Lk × Pt) (r' : St × Sp) (b : Nat) : Prop where
  k : LkOk r.1 r'.1 fi
  p : PtOk r.2 r'.2 (r.1.lv.length + 1)
  m : LkMore s r.1 o
  f : Lo r.2.first b
  l : Lo r.2.last b
theorem LkMore.pair (s : Lk) (l m : List Int) (o : Int) : LkMore s (s.pair l m) o := ⟨Nat.le_refl _, fun _ _ h => h, fun j h1 h2 => by
  have : (s.pair l m).of = s.of := rfl
  rw [this] at h2; omega⟩
theorem LkMore.leaf (s : Lk) (e : E) (o : Int) (h : s.of.length = s.lv.length) : LkMore s ⟨s.lv ++ [e], s.of ++ [o], s.pr⟩ o :=
  ⟨by simp, fun j x hx => by
    show (s.of ++ [o])[j]? = some x
    rw [List.getElem?_append_left (List.getElem?_eq_some_iff.1 hx).1]; exact hx, fun j h1 h2 => by
    have h2 : j < (s.of ++ [o]).length := h2
    simp at h2
    obtain rfl : j = s.of.length := by omega
    show (s.of ++ [o])[s.of.length]? = some o
    simp⟩
theorem all_cons {e : E} {r : List E} (h : goodE.all (e :: r) = true) : goodE e = true ∧ goodE.all r = true := by
  have : goodE.all (e :: r) = (goodE e && goodE.all r) := rfl
  rw [this, Bool.and_eq_true] at h; exact h
mutual
theorem look_read : ∀ (e : E) (o : Int) (s : Lk) (t : St) (fi : List Int), goodE e = true → LkOk s t fi → t.count + leavesE e ≤ 1000 → LookOk s fi o (lookE e o s) (readE e t) s.lv.length
  | .mk k c ks, o, s, t, fi, hg, h, hc => by
    obtain ⟨h9, hs, ha⟩ := good_parts hg
    by_cases hl : ks = []
    · subst hl
      have h4 : k ≠ 4 := fun e => by have := shaped_many hs (.inl e); simp at this
      have h5 : k ≠ 5 := fun e => by have := shaped_many hs (.inr e); simp at this
      have h678 : ¬ (k = 6 ∨ k = 7 ∨ k = 8) := fun e => by have := shaped_one hs e; simp at this
      have e1 : lookE (.mk k c []) o s = (⟨s.lv ++ [.mk k c []], s.of ++ [o], s.pr⟩, ⟨false, [(s.lv.length : Int) + 1], [(s.lv.length : Int) + 1]⟩) := by
        unfold lookE; rw [if_neg h9, if_pos rfl]
      have e2 : readE (.mk k c []) t = (t.leaf k c, ⟨2 ^ t.count, 2 ^ t.count, false⟩) := by
        unfold readE; rw [if_neg h9, if_neg h4, if_neg h5, if_neg (by omega), if_neg (by omega), if_neg (by omega)]
      rw [e1, e2]
      have ho : Eqs [(s.lv.length : Int) + 1] (2 ^ t.count) (s.lv.length + 1 + 1) := by
        have := Eqs.one (N := s.lv.length + 1 + 1) (p := s.lv.length + 1) (by omega) (by omega)
        rw [h.c]
        exact this
      refine ⟨h.leaf k c o, ⟨rfl, ?_, ?_⟩, LkMore.leaf _ _ _ h.o, fun x hx => by simp at hx; omega, fun x hx => by simp at hx; omega⟩
      · simpa using ho
      · simpa using ho
    · have hlv : leavesE (.mk k c ks) = leavesE.lvL ks := leaves_kids hl
      rw [hlv] at hc
      by_cases h4 : k = 4
      · subst h4
        have e1 : lookE (.mk 4 c ks) o s = ((lookL 4 ks o s ⟨true, [], []⟩).1, ⟨(lookL 4 ks o s ⟨true, [], []⟩).2.empty || false || false, (lookL 4 ks o s ⟨true, [], []⟩).2.first, (lookL 4 ks o s ⟨true, [], []⟩).2.last⟩) := by
          unfold lookE; rw [if_neg (by decide), if_neg hl]; rfl
        have e2 : readE (.mk 4 c ks) t = readE.seqL ks t ⟨0, 0, true⟩ := by
          unfold readE; rw [if_neg (by decide), if_pos rfl]
        rw [e1, e2]
        have q := look_seq ks o s t fi ⟨true, [], []⟩ ⟨0, 0, true⟩ s.lv.length ha h ⟨rfl, eqs_nil _, eqs_nil _⟩ (fun x hx => by simp at hx) (fun x hx => by simp at hx) (Nat.le_refl _) hc
        exact ⟨q.k, ⟨by rw [Bool.or_false, Bool.or_false]; exact q.p.e, q.p.f, q.p.l⟩, q.m, q.f, q.l⟩
      · by_cases h5 : k = 5
        · subst h5
          have e1 : lookE (.mk 5 c ks) o s = ((lookL 5 ks o s ⟨false, [], []⟩).1, ⟨(lookL 5 ks o s ⟨false, [], []⟩).2.empty || false || false, (lookL 5 ks o s ⟨false, [], []⟩).2.first, (lookL 5 ks o s ⟨false, [], []⟩).2.last⟩) := by
            unfold lookE; rw [if_neg (by decide), if_neg hl]; rfl
          have e2 : readE (.mk 5 c ks) t = readE.altL ks t ⟨0, 0, false⟩ := by
            unfold readE; rw [if_neg (by decide), if_neg (by decide), if_pos rfl]
          rw [e1, e2]
          have q := look_alt 5 (by decide) ks o s t fi ⟨false, [], []⟩ ⟨0, 0, false⟩ s.lv.length ha h ⟨rfl, eqs_nil _, eqs_nil _⟩ (fun x hx => by simp at hx) (fun x hx => by simp at hx) (Nat.le_refl _) hc
          exact ⟨q.k, ⟨by rw [Bool.or_false, Bool.or_false]; exact q.p.e, q.p.f, q.p.l⟩, q.m, q.f, q.l⟩
        · have h678 : k = 6 ∨ k = 7 ∨ k = 8 := by
            rcases Classical.em (k = 6 ∨ k = 7 ∨ k = 8) with e | e
            · exact e
            · exact absurd (List.eq_nil_of_length_eq_zero (shaped_leaf hs h4 h5 (by omega) (by omega) (by omega))) hl
          have h1 := shaped_one hs h678
          match ks, h1, ha, hc, hl with
          | [f], _, ha, hc, hl =>
            have hgf := (all_cons ha).1
            have hcf : t.count + leavesE f ≤ 1000 := hc
            have q := look_read f o s t fi hgf h hcf
            have hN : (lookE f o s).1.lv.length + 1 ≤ 1024 := by rw [← q.k.c, count_readE f t hgf]; omega
            have eL : lookE.lookL k [f] o s ⟨k == 4, [], []⟩ = ((lookE f o s).1, ⟨(lookE f o s).2.empty, (lookE f o s).2.first, (lookE f o s).2.last⟩) := by
              simp only [lookE.lookL]
              rw [if_neg h4]
              have : (k == 4) = false := by simpa using h4
              rw [this]
              simp
            have e0 : lookE (.mk k c [f]) o s = (if k = 6 ∨ k = 7 then (lookE f o s).1.pair (lookE f o s).2.last (lookE f o s).2.first else (lookE f o s).1, ⟨(lookE f o s).2.empty || (k == 6) || (k == 8), (lookE f o s).2.first, (lookE f o s).2.last⟩) := by
              conv => lhs; unfold lookE
              rw [if_neg h9, if_neg hl]
              dsimp only
              rw [eL]
            rcases h678 with rfl | rfl | rfl
            · have e2 : readE (.mk 6 c [f]) t = ((readE f t).1.link (readE f t).2.last (readE f t).2.first, ⟨(readE f t).2.first, (readE f t).2.last, true⟩) := by
                conv => lhs; unfold readE
                rw [if_neg (by decide), if_neg (by decide), if_neg (by decide), if_pos rfl]; rfl
              rw [e0, e2, if_pos (.inl rfl)]
              exact ⟨q.k.pair q.p.l q.p.f hN, ⟨by simp, q.p.f, q.p.l⟩, q.m.trans (LkMore.pair _ _ _ _), q.f, q.l⟩
            · have e2 : readE (.mk 7 c [f]) t = ((readE f t).1.link (readE f t).2.last (readE f t).2.first, (readE f t).2) := by
                conv => lhs; unfold readE
                rw [if_neg (by decide), if_neg (by decide), if_neg (by decide), if_neg (by decide), if_pos rfl]; rfl
              rw [e0, e2, if_pos (.inr rfl)]
              exact ⟨q.k.pair q.p.l q.p.f hN, ⟨by simpa using q.p.e, q.p.f, q.p.l⟩, q.m.trans (LkMore.pair _ _ _ _), q.f, q.l⟩
            · have e2 : readE (.mk 8 c [f]) t = ((readE f t).1, ⟨(readE f t).2.first, (readE f t).2.last, true⟩) := by
                conv => lhs; unfold readE
                rw [if_neg (by decide), if_neg (by decide), if_neg (by decide), if_neg (by decide), if_neg (by decide), if_pos rfl]; rfl
              rw [e0, e2, if_neg (by decide)]
              exact ⟨q.k, ⟨by simp, q.p.f, q.p.l⟩, q.m, q.f, q.l⟩
theorem look_seq : ∀ (ks : List E) (o : Int) (s : Lk) (t : St) (fi : List Int) (p : Pt) (a : Sp) (b : Nat), goodE.all ks = true → LkOk s t fi → PtOk p a (s.lv.length + 1) → Lo p.first b → Lo p.last b → b ≤ s.lv.length → t.count + leavesE.lvL ks ≤ 1000 → LookOk s fi o (lookE.lookL 4 ks o s p) (readE.seqL ks t a) b
  | [], o, s, t, fi, p, a, b, _, h, hp, hf, hl, _, _ => ⟨h, hp, LkMore.refl _ _, hf, hl⟩
  | e :: r, o, s, t, fi, p, a, b, hg, h, hp, hf, hl, hb, hc => by
    have hc : t.count + (leavesE e + leavesE.lvL r) ≤ 1000 := hc
    have hge := (all_cons hg).1
    have q := look_read e o s t fi hge h (by omega)
    have hce := count_readE e t hge
    have hN : (lookE e o s).1.lv.length + 1 ≤ 1024 := by rw [← q.k.c, hce]; omega
    have pf := hp.f.mono (show s.lv.length + 1 ≤ (lookE e o s).1.lv.length + 1 from Nat.succ_le_succ q.m.l)
    have pl := hp.l.mono (show s.lv.length + 1 ≤ (lookE e o s).1.lv.length + 1 from Nat.succ_le_succ q.m.l)
    have k2 := q.k.pair pl q.p.f hN
    have w := look_seq r o _ _ fi
      ⟨p.empty && (lookE e o s).2.empty, if p.empty then p.first ++ (lookE e o s).2.first else p.first, if (lookE e o s).2.empty then p.last ++ (lookE e o s).2.last else (lookE e o s).2.last⟩
      ⟨if a.empty then a.first ||| (readE e t).2.first else a.first, if (readE e t).2.empty then (readE e t).2.last ||| a.last else (readE e t).2.last, a.empty && (readE e t).2.empty⟩ b (all_cons hg).2 k2
      ⟨by rw [hp.e, q.p.e], by
        show Eqs (if p.empty then _ else _) (if a.empty then _ else _) _
        rw [hp.e]
        cases a.empty with
        | true => exact pf.app q.p.f
        | false => exact pf, by
        show Eqs (if (lookE e o s).2.empty then _ else _) (if (readE e t).2.empty then _ else _) _
        rw [q.p.e]
        cases (readE e t).2.empty with
        | true => exact pl.app' q.p.l
        | false => exact q.p.l⟩
      (by
        show Lo (if p.empty then _ else _) b
        cases p.empty with
        | true => exact hf.app (q.f.mono hb)
        | false => exact hf)
      (by
        show Lo (if (lookE e o s).2.empty then _ else _) b
        cases (lookE e o s).2.empty with
        | true => exact hl.app (q.l.mono hb)
        | false => exact q.l.mono hb)
      (Nat.le_trans hb q.m.l) (by show (readE e t).1.count + _ ≤ _; omega)
    have e1 : lookE.lookL 4 (e :: r) o s p = lookE.lookL 4 r o ((lookE e o s).1.pair p.last (lookE e o s).2.first) ⟨p.empty && (lookE e o s).2.empty, if p.empty then p.first ++ (lookE e o s).2.first else p.first, if (lookE e o s).2.empty then p.last ++ (lookE e o s).2.last else (lookE e o s).2.last⟩ := by
      conv => lhs; unfold lookE.lookL
      rw [if_pos rfl]
    rw [e1]
    exact ⟨w.k, w.p, (q.m.trans (LkMore.pair _ _ _ _)).trans w.m, w.f, w.l⟩
theorem look_alt : ∀ (k : Int) (_ : k ≠ 4) (ks : List E) (o : Int) (s : Lk) (t : St) (fi : List Int) (p : Pt) (a : Sp) (b : Nat), goodE.all ks = true → LkOk s t fi → PtOk p a (s.lv.length + 1) → Lo p.first b → Lo p.last b → b ≤ s.lv.length → t.count + leavesE.lvL ks ≤ 1000 → LookOk s fi o (lookE.lookL k ks o s p) (readE.altL ks t a) b
  | k, _, [], o, s, t, fi, p, a, b, _, h, hp, hf, hl, _, _ => ⟨h, hp, LkMore.refl _ _, hf, hl⟩
  | k, h4, e :: r, o, s, t, fi, p, a, b, hg, h, hp, hf, hl, hb, hc => by
    have hc : t.count + (leavesE e + leavesE.lvL r) ≤ 1000 := hc
    have hge := (all_cons hg).1
    have q := look_read e o s t fi hge h (by omega)
    have hce := count_readE e t hge
    have pf := hp.f.mono (show s.lv.length + 1 ≤ (lookE e o s).1.lv.length + 1 from Nat.succ_le_succ q.m.l)
    have pl := hp.l.mono (show s.lv.length + 1 ≤ (lookE e o s).1.lv.length + 1 from Nat.succ_le_succ q.m.l)
    have w := look_alt k h4 r o _ _ fi ⟨p.empty || (lookE e o s).2.empty, p.first ++ (lookE e o s).2.first, p.last ++ (lookE e o s).2.last⟩
      ⟨a.first ||| (readE e t).2.first, a.last ||| (readE e t).2.last, a.empty || (readE e t).2.empty⟩ b (all_cons hg).2 q.k
      ⟨by rw [hp.e, q.p.e], pf.app q.p.f, pl.app q.p.l⟩ (hf.app (q.f.mono hb)) (hl.app (q.l.mono hb)) (Nat.le_trans hb q.m.l) (by omega)
    have e1 : lookE.lookL k (e :: r) o s p = lookE.lookL k r o (lookE e o s).1 ⟨p.empty || (lookE e o s).2.empty, p.first ++ (lookE e o s).2.first, p.last ++ (lookE e o s).2.last⟩ := by
      conv => lhs; unfold lookE.lookL
      rw [if_neg h4]
    rw [e1]
    exact ⟨w.k, w.p, q.m.trans w.m, w.f, w.l⟩
end
end Go.Proofs.YtmldgfplnacecaaDoor

namespace Go.Proofs.YtmldgfplnacecaaDoor
open Go.RowKit Go.Shelf Go.Lib Go.Great Go.Maps

def prC (p : Int × Int) : List Value := [.int .i64 p.1, .int .i64 p.2]
def pairsC (ps : List (Int × Int)) : List Value := ps.flatMap prC
theorem pairsC_snoc (ps : List (Int × Int)) (p : Int × Int) : pairsC (ps ++ [p]) = pairsC ps ++ prC p := by simp [pairsC]
theorem info91 : (Tryd.prog.info? 109).map (fun i => (i.zero, i.size, i.bytes)) = some (some (.agg #[.int .i64 0, .int .i64 0]), 2, 16) := by kernel_rfl
structure PrS (w wr : World) (b : Nat) (c0 c1 c2 c3 c4 c6 v5 v : Value) (qs : List (Int × Int)) : Prop where
  cs : Cells wr b 39 #[c0, c1, c2, c3, c4, v, c6]
  ow : wr.ownsRow (b + 1) 109 2 v qs.length (pairsC qs)
  fz : Fz (fun k => k = b ∨ v5.ownBlock = some k) w wr
  at_ : v.ownBlock = v5.ownBlock ∨ ∃ g, v.ownBlock = some g ∧ w.heap.size ≤ g
theorem PrS.drew {w wr : World} {b : Nat} {c0 c1 c2 c3 c4 c6 v5 v : Value} {qs : List (Int × Int)} (h : PrS w wr b c0 c1 c2 c3 c4 c6 v5 v qs) : PrS w wr.drew b c0 c1 c2 c3 c4 c6 v5 v qs :=
  ⟨h.cs, h.ow, ⟨h.fz.os, h.fz.tape, h.fz.output, h.fz.size, h.fz.block⟩, h.at_⟩
theorem PrS.more {w wr w' : World} {b g cap : Nat} {c0 c1 c2 c3 c4 c6 v5 v : Value} {qs : List (Int × Int)} {o : Obj} {p : Int × Int} (h : PrS w wr b c0 c1 c2 c3 c4 c6 v5 v qs)
    (ho : w'.ownsRow (b + 1) 109 2 (.slice (some ⟨g, 0, none⟩) (qs.length + 1) cap) (qs.length + 1) (pairsC qs ++ prC p)) (hg : (wr.alloc o).grownBy w' v.ownBlock) (hat : v.ownBlock = some g ∨ g = wr.heap.size + 1) :
    Cells w' b 39 #[c0, c1, c2, c3, c4, v, c6] ∧ PrS w (w'.setCell ⟨b, 5, none⟩ (.slice (some ⟨g, 0, none⟩) (qs.length + 1) cap)) b c0 c1 c2 c3 c4 c6 v5 (.slice (some ⟨g, 0, none⟩) (qs.length + 1) cap) (qs ++ [p]) := by
  have hvb : ∀ k, v.ownBlock = some k → b + 1 ≤ k := fun k e => (own_block_lt h.ow k e).1
  have hbl := h.cs.lt
  have hc : Cells w' b 39 #[c0, c1, c2, c3, c4, v, c6] := (hg.block b (by simp; omega) (fun e => by have := hvb b e.symm; omega)).trans ((Below.refl wr.heap.size wr).alloc (Nat.le_refl _) o |>.block b hbl |>.trans h.cs)
  have hgb := (own_block_lt ho g rfl).1
  refine ⟨hc, hc.set 5 _, ?_, ?_, ?_⟩
  · rw [List.length_append, pairsC_snoc]
    exact ho.kept (grown_setc _ _ _ _) (.inr (by show some g ≠ some b; intro e; injection e with e; omega))
  · have hsz := hg.size
    have hs0 : wr.heap.size < (wr.alloc o).heap.size := by simp
    refine ⟨hg.os.trans h.fz.os, hg.tape.trans h.fz.tape, hg.output.trans h.fz.output, by have := h.fz.size; simp at *; omega, fun k hk hn => ?_⟩
    have hkr : k < wr.heap.size := Nat.lt_of_lt_of_le hk h.fz.size
    rw [Below.heap_setCell _ _ _ _ (by intro e; first | exact hn (.inl e.symm) | exact hn (.inl e))]
    refine (hg.block k (by omega) (fun e => ?_)).trans (((Below.refl wr.heap.size wr).alloc (Nat.le_refl _) o |>.block k hkr).trans (h.fz.block k hk hn))
    rcases h.at_ with e2 | ⟨g2, e2, h2⟩
    · exact hn (.inr (e2.symm.trans e.symm))
    · rw [e2] at e
      injection e with e
      omega
  · rcases hat with e | e
    · rcases h.at_ with e2 | ⟨g2, e2, h2⟩
      · exact .inl (e.symm.trans e2)
      · rw [e] at e2; injection e2 with e2; subst e2; exact .inr ⟨g, rfl, h2⟩
    · exact .inr ⟨g, rfl, by have := h.fz.size; omega⟩
theorem PrS.list {w wr : World} {b : Nat} {c0 c1 c2 c3 c4 c6 v5 v u : Value} {qs : List (Int × Int)} {X : Nat → Prop} {l : List Int} (h : PrS w wr b c0 c1 c2 c3 c4 c6 v5 v qs) (hX : ∀ k, X k → k ≠ b ∧ v5.ownBlock ≠ some k) (hl : SlX w X l u) : SlX wr X l u :=
  hl.move h.fz.size fun k hk hlt => ⟨hk, h.fz.block k hlt (fun e => by rcases e with e | e; exact (hX k hk).1 e; exact (hX k hk).2 e)⟩
theorem SlX.get {w : World} {X : Nat → Prop} {xs : List Int} {A : Option Addr} {n c i : Nat} {x : Int} (h : SlX w X xs (.slice A n c)) (hx : xs[i]? = some x) : ∃ b, A = some ⟨b, 0, none⟩ ∧ X b ∧ b < w.heap.size ∧ w.cell? ⟨b, i, none⟩ = some (.int .i64 x) := by
  obtain ⟨A', c', e, _, _, _, _, h5⟩ := h
  obtain ⟨b, hA, hb, hl, hc⟩ := h5 (by rintro rfl; simp at hx)
  have : A = A' := by injection e
  exact ⟨b, this.trans hA, hb, hl, hc i x hx⟩
theorem pairs_snoc {l m : List Int} {i : Nat} {x : Int} (h : l[i]? = some x) : pairsL (l.take (i + 1)) m = pairsL (l.take i) m ++ m.map fun k => (x, k) := by
  unfold pairsL
  rw [List.take_add_one, h, Option.toList_some, List.flatMap_append]
  simp
theorem pairs_len (l m : List Int) : (pairsL l m).length = l.length * m.length := by
  unfold pairsL
  induction l with
  | nil => simp
  | cons x r ih => simp [ih, Nat.add_mul]; omega
set_option maxHeartbeats 8000000 in
set_option maxRecDepth 100000 in
theorem pair_any (b : Nat) (c0 c1 c2 c3 c4 c6 v5 vl vm : Value) (ps : List (Int × Int)) (l m : List Int) (X : Nat → Prop) (w : World) (h : Cells w b 39 #[c0, c1, c2, c3, c4, v5, c6]) (ho : w.ownsRow (b + 1) 109 2 v5 ps.length (pairsC ps))
    (hl : SlX w X l vl) (hm : SlX w X m vm) (hX : ∀ k, X k → k ≠ b ∧ v5.ownBlock ≠ some k) (hlen : ps.length + l.length * m.length ≤ 2000000) :
    Calls Tryd.prog 84 #[.pointer (some ⟨b, 0, none⟩), vl, vm] w fun r w' => r = .returned (.tuple #[]) ∧ ∃ v, PrS w w' b c0 c1 c2 c3 c4 c6 v5 v (ps ++ pairsL l m) := by
  obtain ⟨Al, cl, rfl, -⟩ := hl.is
  obtain ⟨Am, cm, rfl, -⟩ := hm.is
  obtain ⟨nl, hnl⟩ : ∃ n, l.length = n := ⟨_, rfl⟩
  obtain ⟨nm, hnm⟩ : ∃ n, m.length = n := ⟨_, rfl⟩
  have hl63 : nl ≤ 9223372036854775807 := by obtain ⟨A, c, e, k, _⟩ := hl.is; have := k.l; have := k.m; unfold maxLen at this; omega
  have hm63 : nm ≤ 9223372036854775807 := by obtain ⟨A, c, e, k, _⟩ := hm.is; have := k.l; have := k.m; unfold maxLen at this; omega
  have hbl := h.lt
  have P0 : PrS w w b c0 c1 c2 c3 c4 c6 v5 v5 (ps ++ pairsL (l.take 0) m) := ⟨h, by simpa [pairsL] using ho, Fz.refl _ _, .inl rfl⟩
  rw [hnl] at hl; rw [hnm] at hm
  rw [hnl, hnm]
  have H := Lib.hid (And.intro hl (And.intro hm (And.intro hX (And.intro hlen (And.intro hnl (And.intro hnm P0))))))
  clear h ho hl hm hX hlen hnl hnm P0
  go_enter Tryd.func84, Tryd.ntmps84
  go_wp2_with fail
  go_loopw [6, 7] (fun i _ wr => ∃ k : Nat, i = .int .i64 (k : Int) ∧ k ≤ nl ∧ ∃ v, PrS w wr b c0 c1 c2 c3 c4 c6 v5 v (ps ++ pairsL (l.take k) m)) (fun i _ _ => nl - (RowKit.intOf i).toNat)
  case atStart => exact ⟨0, rfl, by omega, v5, H.out.2.2.2.2.2.2⟩
  case round =>
    obtain ⟨wo, rfl⟩ : ∃ wo : World, wo = wr := ⟨_, rfl⟩
    obtain ⟨i, rfl, hi, vo, hP⟩ := hrel
    by_cases hlt : i < nl
    · have i1 : (i : Int) < (nl : Int) := by omega
      obtain ⟨x, hx⟩ : ∃ x, l[i]? = some x := ⟨l[i]'(by rw [H.out.2.2.2.2.1]; exact hlt), List.getElem?_eq_getElem _⟩
      have HP := Lib.hid (And.intro hP hx)
      clear hP hx
      go_wp2_with fail
      go_loopw [7] (fun k wi => ∃ j : Nat, k = .int .i64 (j : Int) ∧ j ≤ nm ∧ ∃ v, PrS w wi b c0 c1 c2 c3 c4 c6 v5 v (ps ++ pairsL (l.take i) m ++ (m.take j).map (fun y => (x, y)))) (fun k _ => nm - (RowKit.intOf k).toNat)
      case atStart => exact ⟨0, rfl, by omega, vo, by simpa using HP.out.1⟩
      case round =>
        obtain ⟨j, rfl, hj, v, hQ⟩ := hrel
        by_cases hlt2 : j < nm
        · have i2 : (j : Int) < (nm : Int) := by omega
          obtain ⟨y, hy⟩ : ∃ y, m[j]? = some y := ⟨m[j]'(by rw [H.out.2.2.2.2.2.1]; exact hlt2), List.getElem?_eq_getElem _⟩
          obtain ⟨bx, rfl, hxX, hxl, d0⟩ := (hQ.list H.out.2.2.1 H.out.1).get HP.out.2
          obtain ⟨by_, rfl, hyX, hyl, d1⟩ := (hQ.list H.out.2.2.1 H.out.2.1).get hy
          have c5 := hQ.cs.cell 5
          have f5 := hQ.cs.froz 5
          obtain ⟨Q, hqs⟩ : ∃ Q, ps ++ pairsL (l.take i) m ++ (m.take j).map (fun y => (x, y)) = Q := ⟨_, rfl⟩
          have hQl : Q.length ≤ 2000000 := by
            have h1 := H.out.2.2.2.1
            have hmn : m.length = nm := H.out.2.2.2.2.2.1
            have hln : l.length = nl := H.out.2.2.2.2.1
            rw [hmn, hln] at h1
            have e1 : (pairsL (l.take i) m).length = i * nm := by rw [pairs_len, List.length_take, hmn]; congr 1; omega
            have e2 : ((m.take j).map (fun y => (x, y))).length = j := by rw [List.length_map, List.length_take]; omega
            have h3 : (i + 1) * nm ≤ nl * nm := Nat.mul_le_mul_right _ (by omega)
            rw [Nat.add_mul] at h3
            rw [← hqs, List.length_append, List.length_append, e1, e2]
            omega
          rw [hqs] at hQ
          have hown := hQ.drew.ow
          obtain ⟨o, ho⟩ : ∃ o : Obj, .cells #[.int .i64 x, .int .i64 y] 109 = o := ⟨_, rfl⟩
          have hown2 : ((wr.alloc o).drew).ownsRow (b + 1) 109 2 v Q.length (pairsC Q) := hQ.ow.alloc o
          have hnews : ∀ (t : Nat) u, (prC (x, y))[t]? = some u → ((wr.alloc o).drew).cell? ((⟨wr.heap.size, 0, none⟩ : Addr).add t) = some u := fun t u hu => by
            rw [← ho]
            have e0 : ((⟨wr.heap.size, 0, none⟩ : Addr).add t) = ⟨wr.heap.size, t, none⟩ := by rw [add0]
            rw [e0]
            show (wr.alloc (.cells #[.int .i64 x, .int .i64 y] 109)).cell? ⟨wr.heap.size, t, none⟩ = some u
            rw [World.cell?_alloc_new]
            simpa [prC] using hu
          have hone : ∀ u ∈ prC (x, y), u.oneCell' = true := fun u hu => by
            simp [prC] at hu
            rcases hu with rfl | rfl <;> rfl
          have hsz : b + 1 ≤ (wr.alloc o).drew.heap.size := by
            have := hQ.cs.lt
            show b + 1 ≤ (wr.alloc o).heap.size
            simp; omega
          have hsz2 : (wr.alloc o).drew.heap.size = wr.heap.size + 1 := by show (wr.alloc o).heap.size = _; simp
          have hwl := hQ.cs.lt
          have HQ := Lib.hid (And.intro hQ (And.intro hqs hy))
          have hend : ∀ g cap w2, w2.ownsRow (b + 1) 109 2 (.slice (some ⟨g, 0, none⟩) (Q.length + 1) cap) (Q.length + 1) (pairsC Q ++ prC (x, y)) → (wr.alloc o).drew.grownBy w2 v.ownBlock → (v.ownBlock = some g ∨ g = wr.heap.size + 1) →
              w2.cell? ⟨b, 5, none⟩ = some v ∧ w2.frozen? ⟨b, 5, none⟩ = false ∧ ∃ t : Nat, Value.int .i64 ((j : Int) + 1) = .int .i64 (t : Int) ∧ t ≤ nm ∧ ∃ v', PrS w (w2.setCell ⟨b, 5, none⟩ (.slice (some ⟨g, 0, none⟩) (Q.length + 1) cap)) b c0 c1 c2 c3 c4 c6 v5 v' (ps ++ pairsL (l.take i) m ++ (m.take t).map (fun y => (x, y))) := fun g cap w2 h1 h2 h3 => by
            have h2' : (wr.alloc o).grownBy w2 v.ownBlock := ⟨h2.os, h2.tape, h2.output, h2.size, h2.block⟩
            obtain ⟨k1, k2⟩ := hQ.more (p := (x, y)) h1 h2' h3
            refine ⟨k1.cell 5, k1.froz 5, j + 1, by simp, by omega, (.slice (some ⟨g, 0, none⟩) (Q.length + 1) cap), ?_⟩
            rw [List.take_add_one, hy, Option.toList_some, List.map_append, ← List.append_assoc, hqs]
            exact k2
          have HE := Lib.hid hend
          obtain ⟨i91, h91, z91, s91, b91⟩ := info_parts info91
          have I91 := Lib.hid (And.intro h91 (And.intro z91 (And.intro s91 b91)))
          have HO := Lib.hid (And.intro hown2 (And.intro hnews (And.intro hone (And.intro hsz hsz2))))
          rw [← ho] at HO HE
          clear hQ hqs hy hown hown2 hnews hone hsz hsz2 hend h91 z91 s91 b91 ho
          simp only [List.getElem?_toArray, List.getElem?_cons_succ, List.getElem?_cons_zero] at c5
          go_wp2_with fail
          go_region_law (refine step_append_lies _ rfl (.tmp 24) (.tmp 34) 36 rfl (b + 1) 109 i91 (.agg #[.int .i64 0, .int .i64 0]) 2 16 Tryd.underlying36 I91.out.1 I91.out.2.1 I91.out.2.2.1 I91.out.2.2.2 (by decide) (by decide) v Q.length (pairsC Q) rfl HO.out.1 ⟨wr.heap.size, 0, none⟩ 1 1 (prC (x, y)) rfl rfl HO.out.2.1 HO.out.2.2.1 (by decide) (by unfold maxLen; omega) (by omega) HO.out.2.2.2.1 (wr.heap.size + 1) HO.out.2.2.2.2 ?_
                         intro g cap w2 ho2 hg2 hat2 hlt2
                         obtain ⟨s1, s2, s3⟩ := HE.out g cap w2 ho2 hg2 hat2
                         have HS3 := Lib.hid s3
                         clear s3 ho2 hg2 hat2)
          all_goals
            go_wp2_with fail
            first
            | (refine ⟨HS3.out, ?_⟩; simp [RowKit.intOf]; omega)
            | (go_roundw
               case rel => exact HS3.out
               case measure => simp [RowKit.intOf]; omega)
        · obtain rfl : j = nm := by omega
          have i2 : ¬ (j : Int) < (j : Int) := by omega
          have hend : ∃ k : Nat, Value.int .i64 ((i : Int) + 1) = .int .i64 (k : Int) ∧ k ≤ nl ∧ ∃ v, PrS w wr b c0 c1 c2 c3 c4 c6 v5 v (ps ++ pairsL (l.take k) m) := by
            refine ⟨i + 1, by simp, by omega, v, ?_⟩
            rw [pairs_snoc HP.out.2, ← List.append_assoc]
            have e1 : m.take j = m := by rw [← H.out.2.2.2.2.2.1, List.take_length]
            rw [e1] at hQ
            exact hQ
          have HEND := Lib.hid hend
          clear hend hQ
          go_wp2_with fail
          go_roundw
          case rel => exact HEND.out
          case measure => simp [RowKit.intOf]; omega
    · obtain rfl : i = nl := by omega
      have i1 : ¬ (i : Int) < (i : Int) := by omega
      have e1 : l.take i = l := by rw [← H.out.2.2.2.2.1, List.take_length]
      rw [e1] at hP
      have HP := Lib.hid hP
      clear hP e1
      go_wp2_with fail
      go_end0
      exact ⟨rfl, _, HP.out⟩
end Go.Proofs.YtmldgfplnacecaaDoor

namespace Go.Proofs.YtmldgfplnacecaaDoor
open Go.RowKit Go.Shelf Go.Lib

theorem mul_le2 {a b L : Nat} (ha : a ≤ L) (hb : b ≤ L) : a * b ≤ L * L := Nat.mul_le_mul ha hb
theorem szL_consN (e : E) (r : List E) : szE.szL (e :: r) = szE e + szE.szL r := rfl
theorem lvL_cons (e : E) (r : List E) : leavesE.lvL (e :: r) = leavesE e + leavesE.lvL r := rfl
mutual
theorem look_len : ∀ (e : E) (o : Int) (s : Lk) (L : Nat), goodE e = true → leavesE e ≤ L →
    (lookE e o s).2.first.length ≤ leavesE e ∧ (lookE e o s).2.last.length ≤ leavesE e ∧ (lookE e o s).1.pr.length + L * L ≤ s.pr.length + 2 * szE e * (L * L)
  | .mk k c ks, o, s, L, hg, hL => by
    obtain ⟨h9, hs, ha⟩ := good_parts hg
    by_cases hl : ks = []
    · subst hl
      have e1 : lookE (.mk k c []) o s = (⟨s.lv ++ [.mk k c []], s.of ++ [o], s.pr⟩, ⟨false, [(s.lv.length : Int) + 1], [(s.lv.length : Int) + 1]⟩) := by
        unfold lookE; rw [if_neg h9, if_pos rfl]
      have e2 : leavesE (.mk k c []) = 1 := by unfold leavesE; rw [if_pos rfl, if_neg h9]
      rw [e1, e2]
      have e3 : szE (.mk k c []) = 1 := rfl
      rw [e3]
      refine ⟨Nat.le_refl _, Nat.le_refl _, ?_⟩
      show s.pr.length + L * L ≤ s.pr.length + 2 * 1 * (L * L)
      omega
    · have hlv : leavesE (.mk k c ks) = leavesE.lvL ks := leaves_kids hl
      rw [hlv] at hL ⊢
      have q := lookL_len k ks o s ⟨k == 4, [], []⟩ L ha (by simpa using hL)
      have e0 : lookE (.mk k c ks) o s = (if k = 6 ∨ k = 7 then (lookE.lookL k ks o s ⟨k == 4, [], []⟩).1.pair (lookE.lookL k ks o s ⟨k == 4, [], []⟩).2.last (lookE.lookL k ks o s ⟨k == 4, [], []⟩).2.first else (lookE.lookL k ks o s ⟨k == 4, [], []⟩).1, ⟨(lookE.lookL k ks o s ⟨k == 4, [], []⟩).2.empty || (k == 6) || (k == 8), (lookE.lookL k ks o s ⟨k == 4, [], []⟩).2.first, (lookE.lookL k ks o s ⟨k == 4, [], []⟩).2.last⟩) := by
        conv => lhs; unfold lookE
        rw [if_neg h9, if_neg hl]
      rw [e0]
      have hz : szE (.mk k c ks) = 1 + szE.szL ks := rfl
      obtain ⟨q1, q2, q3⟩ := q
      have q1 : (lookE.lookL k ks o s ⟨k == 4, [], []⟩).2.first.length ≤ leavesE.lvL ks := by simpa using q1
      have q2 : (lookE.lookL k ks o s ⟨k == 4, [], []⟩).2.last.length ≤ leavesE.lvL ks := by simpa using q2
      refine ⟨q1, q2, ?_⟩
      rw [hz, Nat.mul_add, Nat.add_mul, Nat.mul_one]
      show (if k = 6 ∨ k = 7 then _ else _ : Lk).pr.length + L * L ≤ _
      split
      · show (_ ++ pairsL _ _).length + L * L ≤ _
        rw [List.length_append, pairs_len]
        have := mul_le2 (Nat.le_trans q2 hL) (Nat.le_trans q1 hL)
        omega
      · omega
theorem lookL_len : ∀ (k : Int) (ks : List E) (o : Int) (s : Lk) (p : Pt) (L : Nat), goodE.all ks = true → p.last.length + leavesE.lvL ks ≤ L →
    (lookE.lookL k ks o s p).2.first.length ≤ p.first.length + leavesE.lvL ks ∧ (lookE.lookL k ks o s p).2.last.length ≤ p.last.length + leavesE.lvL ks ∧ (lookE.lookL k ks o s p).1.pr.length ≤ s.pr.length + 2 * szE.szL ks * (L * L)
  | k, [], o, s, p, L, _, _ => ⟨Nat.le_add_right _ _, Nat.le_add_right _ _, Nat.le_add_right _ _⟩
  | k, e :: r, o, s, p, L, hg, hL => by
    rw [lvL_cons] at hL ⊢
    rw [szL_consN, Nat.mul_add, Nat.add_mul]
    obtain ⟨q1, q2, q3⟩ := look_len e o s L (all_cons hg).1 (by omega)
    by_cases h4 : k = 4
    · have e1 : lookE.lookL k (e :: r) o s p = lookE.lookL k r o ((lookE e o s).1.pair p.last (lookE e o s).2.first) ⟨p.empty && (lookE e o s).2.empty, if p.empty then p.first ++ (lookE e o s).2.first else p.first, if (lookE e o s).2.empty then p.last ++ (lookE e o s).2.last else (lookE e o s).2.last⟩ := by
        conv => lhs; unfold lookE.lookL
        rw [if_pos h4]
      have f1 : (if p.empty then p.first ++ (lookE e o s).2.first else p.first).length ≤ p.first.length + leavesE e := by
        split
        · rw [List.length_append]; omega
        · omega
      have f2 : (if (lookE e o s).2.empty then p.last ++ (lookE e o s).2.last else (lookE e o s).2.last).length ≤ p.last.length + leavesE e := by
        split
        · rw [List.length_append]; omega
        · omega
      obtain ⟨w1, w2, w3⟩ := lookL_len k r o ((lookE e o s).1.pair p.last (lookE e o s).2.first) ⟨p.empty && (lookE e o s).2.empty, if p.empty then p.first ++ (lookE e o s).2.first else p.first, if (lookE e o s).2.empty then p.last ++ (lookE e o s).2.last else (lookE e o s).2.last⟩ (L) (all_cons hg).2 (by show (if (lookE e o s).2.empty then _ else _ : List Int).length + _ ≤ _; omega)
      rw [e1]
      have hp : ((lookE e o s).1.pair p.last (lookE e o s).2.first).pr.length = (lookE e o s).1.pr.length + p.last.length * (lookE e o s).2.first.length := by
        show (_ ++ pairsL _ _).length = _
        rw [List.length_append, pairs_len]
      rw [hp] at w3
      refine ⟨Nat.le_trans w1 ?_, Nat.le_trans w2 ?_, Nat.le_trans w3 ?_⟩
      · show (if p.empty then _ else _ : List Int).length + _ ≤ _; omega
      · show (if (lookE e o s).2.empty then _ else _ : List Int).length + _ ≤ _; omega
      · have hm := mul_le2 (show p.last.length ≤ L by omega) (show (lookE e o s).2.first.length ≤ L by omega)
        omega
    · have e1 : lookE.lookL k (e :: r) o s p = lookE.lookL k r o (lookE e o s).1 ⟨p.empty || (lookE e o s).2.empty, p.first ++ (lookE e o s).2.first, p.last ++ (lookE e o s).2.last⟩ := by
        conv => lhs; unfold lookE.lookL
        rw [if_neg h4]
      obtain ⟨w1, w2, w3⟩ := lookL_len k r o (lookE e o s).1 ⟨p.empty || (lookE e o s).2.empty, p.first ++ (lookE e o s).2.first, p.last ++ (lookE e o s).2.last⟩ L (all_cons hg).2 (by show (p.last ++ (lookE e o s).2.last).length + _ ≤ _; rw [List.length_append]; omega)
      rw [e1]
      refine ⟨Nat.le_trans w1 ?_, Nat.le_trans w2 ?_, by omega⟩
      · show (p.first ++ (lookE e o s).2.first).length + _ ≤ _; rw [List.length_append]; omega
      · show (p.last ++ (lookE e o s).2.last).length + _ ≤ _; rw [List.length_append]; omega
end
end Go.Proofs.YtmldgfplnacecaaDoor

namespace Go.Proofs.YtmldgfplnacecaaDoor
open Go.RowKit Go.Shelf Go.Lib Go.Great Go.Maps

set_option maxHeartbeats 4000000 in
set_option maxRecDepth 100000 in
theorem leaves_any : ∀ N e, szE e ≤ N → szE e ≤ 100000 → ∀ v w, Nd w w.heap.size e v →
    Calls Tryd.prog 81 #[v] w fun r w' => r = .returned (.int .i64 ((leavesE e : Nat) : Int)) ∧ Below w.heap.size w w' := by
  intro N
  induction N with
  | zero => intro e h; have := szE_pos e; omega
  | succ N ih =>
    intro e he hmx v w h
    obtain ⟨_, _, A, cap, rfl, hk⟩ := Nd_iff.1 h
    obtain ⟨W0, hW0⟩ : ∃ W0, w.alloc (.cells #[.int .i64 e.k, .int .i64 e.c, .slice A e.ks.length cap] 91) = W0 := ⟨_, rfl⟩
    have hb0 : Below w.heap.size w W0 := by rw [← hW0]; exact below_new _ _
    have hz0 : w.heap.size < W0.heap.size := by rw [← hW0]; simp
    have x0 : Cells W0 w.heap.size 91 #[.int .i64 e.k, .int .i64 e.c, .slice A e.ks.length cap] := by rw [← hW0]; exact cells_new _ _ _
    have c0 := x0.cell 0
    have c2 := x0.cell 2
    simp at c0 c2
    have hk0 := hk.on hb0
    have hS := szE_eq e
    have hkid := fun i f (hf : e.ks[i]? = some f) => szE_kid (List.mem_of_getElem? hf)
    have hln : e.ks.length ≤ 9223372036854775807 := by have := hk.l; have := hk.m; unfold maxLen at this; omega
    have hL : leavesE e = if e.ks = [] then (if e.k = 9 then 0 else 1) else lvL e.ks := by cases e; rfl
    have hLe := leaves_le _ e (Nat.le_refl _)
    have hkle : ∀ (i : Nat) (f : E), e.ks[i]? = some f → leavesE f ≤ szE f := fun _ f _ => leaves_le _ f (Nat.le_refl _)
    generalize e.k = kk at *
    generalize e.c = cc at *
    generalize e.ks = ks at *
    generalize szE e = S at *
    generalize leavesE e = L at *
    obtain ⟨n, hn⟩ : ∃ n, ks.length = n := ⟨_, rfl⟩
    have HS := Lib.hid (And.intro hS (And.intro hmx (And.intro he hLe)))
    have HW := Lib.hid hW0
    have HK := Lib.hid (And.intro hk0 hb0)
    have HI := Lib.hid ih
    have HKD := Lib.hid hkid
    have HKL := Lib.hid hkle
    have HN := Lib.hid hn
    have HL := Lib.hid hL
    rw [hn] at c2 hln
    rw [hn] at HW ⊢
    clear hW0 hk hk0 hb0 ih hkid hn h hS hL hLe hkle hmx he x0
    by_cases hn0 : n = 0
    · subst hn0
      have hks : ks = [] := List.eq_nil_of_length_eq_zero HN.out
      by_cases h9 : kk = 9
      · subst h9
        have : L = 0 := by rw [HL.out, if_pos hks, if_pos rfl]
        subst this
        go_enter Tryd.func81, Tryd.ntmps81
        go_wp2_with fail
        rw [HW.out]
        go_wp2_with fail
        go_loopw [3, 18] (fun s i wr => i = .int .i64 0 ∧ s = .int .i64 0 ∧ wr = W0) (fun _ _ _ => 0)
        case atStart => exact ⟨rfl, rfl, rfl⟩
        case round =>
          obtain ⟨rfl, rfl, rfl⟩ := hrel
          go_wp2_with fail
          go_ret
          exact ⟨rfl, HK.out.2⟩
      · have : L = 1 := by rw [HL.out, if_pos hks, if_neg h9]
        subst this
        have h9' : (kk == 9) = false := by simpa using h9
        go_enter Tryd.func81, Tryd.ntmps81
        go_wp2_with fail
        rw [HW.out]
        go_wp2_with fail
        go_ret
        exact ⟨rfl, HK.out.2⟩
    · have hn1 : ((n : Int) == 0) = false := by simp; omega
      have hne : ks ≠ [] := by rintro rfl; have := HN.out; simp at this; omega
      have HLL := Lib.hid (show L = lvL ks by rw [HL.out, if_neg hne])
      clear hne
      go_enter Tryd.func81, Tryd.ntmps81
      go_wp2_with fail
      rw [HW.out]
      go_wp2_with fail
      go_loopw [3, 18] (fun s i wr => ∃ k : Nat, i = .int .i64 k ∧ k ≤ n ∧ s = .int .i64 ((lvL (ks.take k) : Nat) : Int) ∧ Below W0.heap.size W0 wr) (fun _ i _ => n - (RowKit.intOf i).toNat)
      case atStart => exact ⟨0, rfl, Nat.zero_le _, rfl, Below.refl _ _⟩
      case round =>
        obtain ⟨k, rfl, hkn, rfl, hb⟩ := hrel
        by_cases hlt : k < n
        · obtain ⟨f, hf⟩ : ∃ f, ks[k]? = some f := ⟨ks[k]'(by rw [HN.out]; exact hlt), List.getElem?_eq_getElem _⟩
          have i1 : (k : Int) < (n : Int) := by omega
          obtain ⟨b, o, rfl, hbl, hr⟩ := HK.out.1.r (by rintro rfl; simp at hf)
          obtain ⟨A', cap', d0, d1, d2, hN⟩ := row_get' hr hf
          have d0' := (hb.cell (p := ⟨b, o + k * 3, none⟩) hbl).trans d0
          have d1' := (hb.cell (p := ⟨b, o + k * 3 + 1, none⟩) hbl).trans d1
          have d2' := (hb.cell (p := ⟨b, o + k * 3 + 2, none⟩) hbl).trans d2
          have hs := lvL_take hf
          have hl := HKD.out k f hf
          have hle := lvL_take_le ks (k + 1)
          have hkl := HKL.out k f hf
          obtain ⟨wr', hwr'⟩ : ∃ W, wr.alloc (.cells #[.int .i64 f.k, .int .i64 f.c, .slice A' f.ks.length cap'] 91) = W := ⟨_, rfl⟩
          have bb : Below wr.heap.size wr wr' := by rw [← hwr']; exact below_new _ _
          have hbr := hb.trans (bb.mono hb.size)
          have hC := Lib.hid (HI.out f (by have := HS.out; omega) (by have := HS.out; omega) (.agg #[.int .i64 f.k, .int .i64 f.c, .slice A' f.ks.length cap']) wr' ((hN.below hbr).mono hbr.size))
          have hLL := HLL.out
          have hSS := HS.out
          generalize lvL (ks.take k) = s at *
          generalize leavesE f = t at *
          have hw : wrap64 ((s : Int) + (t : Int)) = (s : Int) + (t : Int) := by unfold wrap64; omega
          have HH := Lib.hid (And.intro hs (And.intro hbr hwr'))
          clear hs hl hle hkl bb hbr hwr' hN hr hbl d0 d1 d2 hb hLL hSS
          go_wp2_with fail
          rw [HH.out.2.2]
          refine hC.out.mono ?_
          rintro r w2 ⟨rfl, hb2⟩
          have HB := Lib.hid (HH.out.2.1.trans (hb2.mono HH.out.2.1.size))
          clear hb2
          go_wp2_with fail
          go_roundw
          case rel => exact ⟨k + 1, by go_num, by omega, by rw [HH.out.1, hw]; simp, HB.out⟩
          case measure => simp [RowKit.intOf]; omega
        · have hkn : k = n := by omega
          subst hkn
          have i1 : ¬ (k : Int) < (k : Int) := by omega
          have ht : ks.take k = ks := by rw [← HN.out, List.take_length]
          rw [ht, ← HLL.out]
          have HB := Lib.hid hb
          clear hb ht
          go_wp2_with fail
          go_ret
          exact ⟨rfl, HK.out.2.trans (HB.out.mono HK.out.2.size)⟩
end Go.Proofs.YtmldgfplnacecaaDoor

namespace Go.Proofs.YtmldgfplnacecaaDoor
open Go.RowKit Go.Shelf Go.Lib Go.Great Go.Maps

def faultL (ks : List E) : Int := if 40 < ks.length then 3 else if ks.all rightE = false then 1 else if 1000 < 1 + lvL ks then 7 else 0
theorem all_take {ks : List E} {i : Nat} {e : E} (h : ks[i]? = some e) : (ks.take (i + 1)).all rightE = ((ks.take i).all rightE && rightE e) := by
  rw [List.take_add_one, h, List.all_append]; simp
theorem all_stop {ks : List E} {i : Nat} (h : (ks.take i).all rightE = false) : ks.all rightE = false := by
  have := List.all_append (xs := ks.take i) (ys := ks.drop i) (f := rightE)
  rw [List.take_append_drop, h] at this
  simpa using this
theorem lvL_le2000 {ks : List E} (h : ks.all rightE = true) (i : Nat) : lvL (ks.take i) ≤ 2000 * (ks.take i).length := by
  induction ks generalizing i with
  | nil => simp [lvL, leavesE.lvL]
  | cons e r ih =>
    simp only [List.all_cons, Bool.and_eq_true] at h
    cases i with
    | zero => simp [lvL, leavesE.lvL]
    | succ i =>
      rw [List.take_succ_cons]
      have h1 := ih h.2 i
      have h2 := right_size h.1
      have h3 := leaves_le _ e (Nat.le_refl _)
      simp only [lvL, leavesE.lvL, List.length_cons] at *
      omega
set_option maxHeartbeats 4000000 in
set_option maxRecDepth 100000 in
theorem fault_any (ks : List E) (A : Option Addr) (cap : Nat) (w : World) (hk : KsAt w w.heap.size ks A cap) :
    Calls Tryd.prog 48 #[.slice A ks.length cap] w fun r w' => r = .returned (.int .i64 (faultL ks)) ∧ Below w.heap.size w w' := by
  have hln : ks.length ≤ 9223372036854775807 := by have := hk.l; have := hk.m; unfold maxLen at this; omega
  obtain ⟨R, hR⟩ : ∃ R, faultL ks = R := ⟨_, rfl⟩
  rw [hR]
  have HR := Lib.hid hR
  obtain ⟨n, hn⟩ : ∃ n, ks.length = n := ⟨_, rfl⟩
  have HN := Lib.hid hn
  have HK := Lib.hid hk
  rw [hn] at hln ⊢
  clear hn hk hR
  by_cases h40 : 40 < n
  · have h40' : (40 : Int) < (n : Int) := by omega
    have : R = 3 := by rw [← HR.out]; unfold faultL; rw [if_pos (by rw [HN.out]; exact h40)]
    subst this
    go_enter Tryd.func48, Tryd.ntmps48
    go_wp2_with fail
    go_ret
    exact ⟨rfl, Below.refl _ _⟩
  · have h40' : ¬ (40 : Int) < (n : Int) := by omega
    go_enter Tryd.func48, Tryd.ntmps48
    go_wp2_with fail
    go_loopw [13] (fun i wr => ∃ k : Nat, i = .int .i64 k ∧ k ≤ n ∧ (ks.take k).all rightE = true ∧ Below w.heap.size w wr) (fun i _ => n - (RowKit.intOf i).toNat)
    case atStart => exact ⟨0, rfl, Nat.zero_le _, rfl, Below.refl _ _⟩
    case round =>
      obtain ⟨k, rfl, hkn, hall, hb⟩ := hrel
      by_cases hlt : k < n
      · obtain ⟨f, hf⟩ : ∃ f, ks[k]? = some f := ⟨ks[k]'(by rw [HN.out]; exact hlt), List.getElem?_eq_getElem _⟩
        have i1 : (k : Int) < (n : Int) := by omega
        obtain ⟨b, o, rfl, hbl, hr⟩ := HK.out.r (by rintro rfl; simp at hf)
        obtain ⟨A', cap', d0, d1, d2, hN⟩ := row_get' hr hf
        have d0' := (hb.cell (p := ⟨b, o + k * 3, none⟩) hbl).trans d0
        have d1' := (hb.cell (p := ⟨b, o + k * 3 + 1, none⟩) hbl).trans d1
        have d2' := (hb.cell (p := ⟨b, o + k * 3 + 2, none⟩) hbl).trans d2
        obtain ⟨wr', hwr'⟩ : ∃ W, wr.alloc (.cells #[.int .i64 f.k, .int .i64 f.c, .slice A' f.ks.length cap'] 91) = W := ⟨_, rfl⟩
        have bb : Below wr.heap.size wr wr' := by rw [← hwr']; exact below_new _ _
        have hbr := hb.trans (bb.mono hb.size)
        have hC := Lib.hid (right_any f (.agg #[.int .i64 f.k, .int .i64 f.c, .slice A' f.ks.length cap']) wr' ((hN.below hbr).mono hbr.size))
        have HH := Lib.hid (And.intro hf (And.intro hbr (And.intro hwr' hall)))
        clear bb hbr hwr' hN hr hbl d0 d1 d2 hb hall hf
        go_wp2_with fail
        rw [HH.out.2.2.1]
        refine hC.out.mono ?_
        rintro r w2 ⟨rfl, hb2⟩
        have HB := Lib.hid (HH.out.2.1.trans (hb2.mono HH.out.2.1.size))
        clear hb2
        by_cases hr : rightE f = true
        · rw [hr]
          have ht : (ks.take (k + 1)).all rightE = true := by rw [all_take HH.out.1, HH.out.2.2.2, hr]; rfl
          have HT := Lib.hid ht
          clear ht hr
          go_wp2_with fail
          go_roundw
          case rel => exact ⟨k + 1, by go_num, by omega, HT.out, HB.out⟩
          case measure => simp [RowKit.intOf]; omega
        · have hr : rightE f = false := by simpa using hr
          rw [hr]
          have : R = 1 := by
            have ht : (ks.take (k + 1)).all rightE = false := by rw [all_take HH.out.1, hr]; simp
            rw [← HR.out]; unfold faultL; rw [if_neg (by rw [HN.out]; exact h40), if_pos (all_stop ht)]
          subst this
          clear hr
          go_wp2_with fail
          go_ret
          exact ⟨rfl, HB.out⟩
      · obtain rfl : k = n := by omega
        have i1 : ¬ (k : Int) < (k : Int) := by omega
        have ht : ks.take k = ks := by rw [← HN.out, List.take_length]
        rw [ht] at hall
        have HA := Lib.hid hall
        have HB := Lib.hid hb
        clear hall hb ht
        go_wp2_with fail
        clear i1
        go_loopw [5, 23] (fun s i wr => ∃ j : Nat, i = .int .i64 j ∧ j ≤ k ∧ s = .int .i64 ((1 + lvL (ks.take j) : Nat) : Int) ∧ Below w.heap.size w wr) (fun _ i _ => k - (RowKit.intOf i).toNat)
        case atStart => exact ⟨0, rfl, Nat.zero_le _, rfl, HB.out⟩
        case round =>
          obtain ⟨j, rfl, hjn, rfl, hb⟩ := hrel
          by_cases hlt : j < k
          · obtain ⟨f, hf⟩ : ∃ f, ks[j]? = some f := ⟨ks[j]'(by rw [HN.out]; exact hlt), List.getElem?_eq_getElem _⟩
            have i1 : (j : Int) < (k : Int) := by omega
            obtain ⟨b, o, rfl, hbl, hr⟩ := HK.out.r (by rintro rfl; simp at hf)
            obtain ⟨A', cap', d0, d1, d2, hN⟩ := row_get' hr hf
            have d0' := (hb.cell (p := ⟨b, o + j * 3, none⟩) hbl).trans d0
            have d1' := (hb.cell (p := ⟨b, o + j * 3 + 1, none⟩) hbl).trans d1
            have d2' := (hb.cell (p := ⟨b, o + j * 3 + 2, none⟩) hbl).trans d2
            obtain ⟨wr', hwr'⟩ : ∃ W, wr.alloc (.cells #[.int .i64 f.k, .int .i64 f.c, .slice A' f.ks.length cap'] 91) = W := ⟨_, rfl⟩
            have bb : Below wr.heap.size wr wr' := by rw [← hwr']; exact below_new _ _
            have hbr := hb.trans (bb.mono hb.size)
            have hrf : rightE f = true := List.all_eq_true.1 HA.out f (List.mem_of_getElem? hf)
            have hsz := right_size hrf
            have hC := Lib.hid (leaves_any _ f (Nat.le_refl _) (by omega) (.agg #[.int .i64 f.k, .int .i64 f.c, .slice A' f.ks.length cap']) wr' ((hN.below hbr).mono hbr.size))
            have hs := lvL_take hf
            have hle := lvL_le2000 HA.out (j + 1)
            have hlj : (ks.take (j + 1)).length ≤ j + 1 := List.length_take_le _ _
            generalize lvL (ks.take j) = s at *
            generalize leavesE f = t at *
            have hw : wrap64 (((1 + s : Nat) : Int) + (t : Int)) = ((1 + (s + t) : Nat) : Int) := by unfold wrap64; omega
            have HH := Lib.hid (And.intro hs (And.intro hbr (And.intro hwr' hw)))
            clear hs hle hlj bb hbr hwr' hN hr hbl d0 d1 d2 hb hf hw hrf hsz
            go_wp2_with fail
            rw [HH.out.2.2.1]
            refine hC.out.mono ?_
            rintro r w2 ⟨rfl, hb2⟩
            have HB2 := Lib.hid (HH.out.2.1.trans (hb2.mono HH.out.2.1.size))
            clear hb2
            go_wp2_with fail
            go_roundw
            case rel =>
              refine ⟨j + 1, by go_num, by omega, ?_, HB2.out⟩
              rw [HH.out.1]
              have := HH.out.2.2.2
              first
                | (rw [← this]; simp)
                | (simp at this ⊢; omega)
            case measure => simp [RowKit.intOf]; omega
          · obtain rfl : j = k := by omega
            have i1 : ¬ (j : Int) < (j : Int) := by omega
            have ht : ks.take j = ks := by rw [← HN.out, List.take_length]
            rw [ht]
            have HB2 := Lib.hid hb
            clear hb ht
            obtain ⟨s, hs⟩ : ∃ s, lvL ks = s := ⟨_, rfl⟩
            rw [hs]
            have HS := Lib.hid hs
            clear hs
            by_cases h1000 : 1000 < 1 + s
            · have h1 : (1000 : Int) < ((1 + s : Nat) : Int) := by omega
              have : R = 7 := by rw [← HR.out]; unfold faultL; rw [if_neg (by rw [HN.out]; exact h40), if_neg (by rw [HA.out]; simp), if_pos (by rw [HS.out]; exact h1000)]
              subst this
              go_wp2_with fail
              go_ret
              exact ⟨rfl, HB2.out⟩
            · have h1 : ¬ (1000 : Int) < ((1 + s : Nat) : Int) := by omega
              have : R = 0 := by rw [← HR.out]; unfold faultL; rw [if_neg (by rw [HN.out]; exact h40), if_neg (by rw [HA.out]; simp), if_neg (by rw [HS.out]; exact h1000)]
              subst this
              go_wp2_with fail
              go_ret
              exact ⟨rfl, HB2.out⟩
end Go.Proofs.YtmldgfplnacecaaDoor

namespace Go.Proofs.YtmldgfplnacecaaDoor
open Go.RowKit Go.Shelf Go.Lib Go.Great Go.Maps

theorem addE_count {e : E} (hr : rightE e = true) (s : St) (b : Nat) : (addE s e b).count = s.count + leavesE e := by
  rw [← leaves_right hr s]
  unfold addE
  dsimp only
  split <;> rfl
theorem mkL_count : ∀ (l : List E) (i : Nat) (s : St), l.all rightE = true → (mkL l i s).count = s.count + lvL l
  | [], _, _, _ => rfl
  | e :: r, i, s, h => by
    simp only [List.all_cons, Bool.and_eq_true] at h
    have h1 := mkL_count r (i + 1) (addE s e (2 ^ i)) h.2
    rw [addE_count h.1] at h1
    have e2 : lvL (e :: r) = leavesE e + lvL r := rfl
    show (mkL r (i + 1) (addE s e (2 ^ i))).count = _
    omega
theorem mkL_take {ks : List E} {i : Nat} {f : E} (h : ks[i]? = some f) (s : St) : mkL (ks.take (i + 1)) 0 s = addE (mkL (ks.take i) 0 s) f (2 ^ i) := by
  have hi : i < ks.length := (List.getElem?_eq_some_iff.1 h).1
  rw [List.take_add_one, h, Option.toList_some, mkL_append]
  have : (ks.take i).length = i := by rw [List.length_take]; omega
  rw [this, Nat.zero_add]
  rfl
/-- A new automaton. -/
theorem nfa_new (w : World) (se : Bool) (W : World) (hW : (((w.alloc (.map #[] 0)).alloc (.map #[] 0)).alloc (.map #[] 0)).alloc (.cells #[.bool se, .int .i64 1, .map (some w.heap.size), .map (some (w.heap.size + 1)), .map (some (w.heap.size + 1 + 1))] 96) = W) :
    Np.Ok ⟨w.heap.size + 1 + 1 + 1, w.heap.size, w.heap.size + 1, w.heap.size + 1 + 1⟩ w.heap.size ∧ NfaAt W ⟨w.heap.size + 1 + 1 + 1, w.heap.size, w.heap.size + 1, w.heap.size + 1 + 1⟩ 0 se st0 ∧ Below w.heap.size w W := by
  obtain ⟨W1, hW1⟩ : ∃ W1, w.alloc (.map #[] 0) = W1 := ⟨_, rfl⟩
  obtain ⟨W2, hW2⟩ : ∃ W2, W1.alloc (.map #[] 0) = W2 := ⟨_, rfl⟩
  obtain ⟨W3, hW3⟩ : ∃ W3, W2.alloc (.map #[] 0) = W3 := ⟨_, rfl⟩
  rw [hW1, hW2, hW3] at hW
  have z1 : W1.heap.size = w.heap.size + 1 := by rw [← hW1]; simp
  have z2 : W2.heap.size = w.heap.size + 1 + 1 := by rw [← hW2]; simp [z1]
  have z3 : W3.heap.size = w.heap.size + 1 + 1 + 1 := by rw [← hW3]; simp [z2]
  have b1 : Below w.heap.size w W1 := by rw [← hW1]; exact below_new _ _
  have b2 : Below W1.heap.size W1 W2 := by rw [← hW2]; exact below_new _ _
  have b3 : Below W2.heap.size W2 W3 := by rw [← hW3]; exact below_new _ _
  have b4 : Below W3.heap.size W3 W := by rw [← hW]; exact below_new _ _
  have m1 : MapF W1 w.heap.size 0 (plV 0) (fun _ => plV 0) := by rw [← hW1]; exact MapF.made w _
  have m2 : MapF W2 (w.heap.size + 1) 0 (plV 0) (fun _ => plV 0) := by rw [← hW2, ← z1]; exact MapF.made W1 _
  have m3 : MapF W3 (w.heap.size + 1 + 1) 0 (.int .u64 0) (fun _ => .int .u64 0) := by rw [← hW3, ← z2]; exact MapF.made W2 _
  have x : Cells W (w.heap.size + 1 + 1 + 1) 96 #[.bool se, .int .i64 1, .map (some w.heap.size), .map (some (w.heap.size + 1)), .map (some (w.heap.size + 1 + 1))] := by rw [← hW, ← z3]; exact cells_new _ _ _
  refine ⟨⟨by dsimp only; omega, by dsimp only; omega, by dsimp only; omega, by dsimp only; omega, by dsimp only; omega, by dsimp only; omega, by dsimp only; omega, by dsimp only; omega, by dsimp only; omega, by dsimp only; omega⟩, ⟨?_, ?_, ?_, ?_, ?_, ?_, ?_, ?_, ?_, fun _ => by simp [st0]⟩, ?_⟩
  · exact x.cell 0
  · exact x.cell 1
  · exact x.cell 2
  · exact x.cell 3
  · exact x.cell 4
  · exact x.froz 1
  · refine (m1.block ?_).congr fun k => ?_
    · exact (b4.block _ (by omega)).trans ((b3.block _ (by omega)).trans (b2.block _ (by omega)))
    · simp [st0]
  · refine (m2.block ?_).congr fun k => ?_
    · exact (b4.block _ (by omega)).trans (b3.block _ (by omega))
    · simp [takersI, st0]
  · refine (m3.block ?_).congr fun k => ?_
    · exact b4.block _ (by omega)
    · simp [st0]
  · exact b1.trans ((b2.mono (by omega)).trans ((b3.mono (by omega)).trans (b4.mono (by omega))))
theorem Np.Ok.mono {q : Np} {B B' : Nat} (h : q.Ok B) (hb : B' ≤ B) : q.Ok B' := ⟨Nat.le_trans hb h.b, Nat.le_trans hb h.nx, Nat.le_trans hb h.tk, Nat.le_trans hb h.tl, h.d1, h.d2, h.d3, h.d4, h.d5, h.d6⟩
theorem fault_ok {ks : List E} (h : faultL ks = 0) : ks.length ≤ 40 ∧ ks.all rightE = true ∧ 1 + lvL ks ≤ 1000 := by
  unfold faultL at h
  split at h
  · cases h
  · split at h
    · cases h
    · split at h
      · cases h
      · rename_i h1 h2 h3
        exact ⟨by omega, by simpa using h2, by omega⟩
set_option maxHeartbeats 4000000 in
set_option maxRecDepth 100000 in
theorem new_bad (se : Bool) (ks : List E) (A : Option Addr) (cap : Nat) (w : World) (hk : KsAt w w.heap.size ks A cap) (hf : faultL ks ≠ 0) :
    Calls Tryd.prog 13 #[.bool se, .slice A ks.length cap] w fun r w' => r = .returned (.tuple #[.pointer none, .int .i64 (faultL ks)]) ∧ Below w.heap.size w w' := by
  have C := Lib.hid (fault_any ks A cap w hk)
  generalize faultL ks = F at *
  have hF : (F == 0) = false := by simpa using hf
  go_enter Tryd.func13, Tryd.ntmps13
  go_wp2_with fail
  refine C.out.mono ?_
  rintro r w2 ⟨rfl, hb⟩
  have HB := Lib.hid hb
  clear hb
  go_wp2_with fail
  go_ret2
  exact ⟨rfl, HB.out⟩
/-- What New answers of right expressions. -/
def NewOk (w : World) (se : Bool) (ks : List E) (r : Ending) (w' : World) : Prop := ∃ (q : Np) (n : Nat), r = .returned (.tuple #[.pointer (some ⟨q.b, 0, none⟩), .int .i64 0]) ∧ q.Ok w.heap.size ∧ NfaAt w' q n se (mkN ks) ∧ Below w.heap.size w w'
set_option maxHeartbeats 8000000 in
set_option maxRecDepth 100000 in
theorem new_any (se : Bool) (ks : List E) (A : Option Addr) (cap : Nat) (w : World) (hk : KsAt w w.heap.size ks A cap) (hf : faultL ks = 0) (hT : TZ w) :
    Calls Tryd.prog 13 #[.bool se, .slice A ks.length cap] w (NewOk w se ks) := by
  obtain ⟨h40, hall, h1000⟩ := fault_ok hf
  have C := Lib.hid (fault_any ks A cap w hk)
  rw [hf] at C
  have hln : ks.length ≤ 9223372036854775807 := by omega
  obtain ⟨N, hN⟩ : ∃ N, ks.length = N := ⟨_, rfl⟩
  have HN := Lib.hid hN
  have HK := Lib.hid (And.intro hk (And.intro hall (And.intro h1000 hT)))
  rw [hN] at C h40 hln ⊢
  have hmm := @run_makeMap Tryd.prog
  clear hk hf hall h1000 hT hN
  go_enter Tryd.func13, Tryd.ntmps13
  go_wp2_with fail
  refine C.out.mono ?_
  rintro r w2 ⟨rfl, hb⟩
  have HB := Lib.hid hb
  clear hb
  go_wp2_with fail
  obtain ⟨W3, hW3⟩ : ∃ W, (((w2.alloc (.map #[] 0)).alloc (.map #[] 0)).alloc (.map #[] 0)).alloc (.cells #[.bool se, .int .i64 1, .map (some w2.heap.size), .map (some (w2.heap.size + 1)), .map (some (w2.heap.size + 1 + 1))] 96) = W := ⟨_, rfl⟩
  have hnew := nfa_new w2 se W3 hW3
  rw [hW3]
  obtain ⟨q, hq⟩ : ∃ q : Np, (⟨w2.heap.size + 1 + 1 + 1, w2.heap.size, w2.heap.size + 1, w2.heap.size + 1 + 1⟩ : Np) = q := ⟨_, rfl⟩
  rw [hq] at hnew
  have hqb : w2.heap.size + 1 + 1 + 1 = q.b := by rw [← hq]
  rw [hqb]
  have b03 : Below w.heap.size w W3 := HB.out.trans (hnew.2.2.mono HB.out.size)
  have hT3 : TZ W3 := HK.out.2.2.2.below b03 HK.out.2.2.2.lt
  have H3 := Lib.hid (And.intro hnew.1 (And.intro hnew.2.1 (And.intro b03 (And.intro hT3 HB.out.size))))
  clear hW3 hnew hq hqb b03 hT3 hmm
  generalize w2.heap.size = s2 at *
  go_loopw [23] (fun v wr => ∃ i : Nat, v = .int .i64 (i : Int) ∧ i ≤ N ∧ Kp q W3 wr ∧ NfaAt wr q (10003000 * i) se (mkL (ks.take i) 0 st0)) (fun v _ => N - (RowKit.intOf v).toNat)
  case atStart => exact ⟨0, rfl, by omega, Kp.refl _ _, H3.out.2.1⟩
  case round =>
    obtain ⟨i, rfl, hi, hkp, hnf⟩ := hrel
    by_cases hlt : i < N
    · have i1 : (i : Int) < (N : Int) := by omega
      obtain ⟨f, hf⟩ : ∃ f, ks[i]? = some f := ⟨ks[i]'(by rw [HN.out]; exact hlt), List.getElem?_eq_getElem _⟩
      obtain ⟨b, o, rfl, hbl, hr⟩ := HK.out.1.r (by rintro rfl; simp at hf)
      obtain ⟨A', cap', d0, d1, d2, hNd⟩ := row_get' hr hf
      have hq : q.Ok w.heap.size := H3.out.1.mono H3.out.2.2.2.2
      have hun : Below w.heap.size w wr := H3.out.2.2.1.trans (hkp.under hq H3.out.2.2.1.size)
      have d0' := (hun.cell (p := ⟨b, o + i * 3, none⟩) hbl).trans d0
      have d1' := (hun.cell (p := ⟨b, o + i * 3 + 1, none⟩) hbl).trans d1
      have d2' := (hun.cell (p := ⟨b, o + i * 3 + 2, none⟩) hbl).trans d2
      obtain ⟨wr', hwr'⟩ : ∃ W, wr.alloc (.cells #[.int .i64 f.k, .int .i64 f.c, .slice A' f.ks.length cap'] 91) = W := ⟨_, rfl⟩
      have bb : Below wr.heap.size wr wr' := by rw [← hwr']; exact below_new _ _
      have x1 : Cells wr' wr.heap.size 91 #[.int .i64 f.k, .int .i64 f.c, .slice A' f.ks.length cap'] := by rw [← hwr']; exact cells_new _ _ _
      have hbr := hun.trans (bb.mono hun.size)
      have hrf : rightE f = true := List.all_eq_true.1 HK.out.2.1 f (List.mem_of_getElem? hf)
      have hsz := right_size hrf
      have hcnt : (mkL (ks.take i) 0 st0).count = 1 + lvL (ks.take i) := by
        have h1 : (ks.take i).all rightE = true := by
          rw [List.all_eq_true]
          intro x hx
          exact List.all_eq_true.1 HK.out.2.1 x (List.mem_of_mem_take hx)
        exact mkL_count _ 0 st0 h1
      have hl1 := lvL_take hf
      have hl2 := lvL_take_le ks (i + 1)
      have hll := HK.out.2.2.1
      have hC := add_any f (2 ^ i) q w.heap.size (10003000 * i) se (mkL (ks.take i) 0 st0) (.agg #[.int .i64 f.k, .int .i64 f.c, .slice A' f.ks.length cap']) wr'.drew (hnf.below bb).drew hq (by have := hbr.size; exact this) HK.out.2.2.2.lt
        (show TZ wr' from HK.out.2.2.2.below hbr HK.out.2.2.2.lt) (hNd.below hbr.drew) hrf (by omega) (by omega) (Nat.pow_lt_pow_right (n := 64) (by omega) (by omega))
      have hst := mkL_take hf st0
      have hbud : 10003000 * i + 5000 * szE f + 3000 ≤ 10003000 * (i + 1) := by omega
      have hwp := wrap_pow i (by omega)
      rw [← hwp] at hC
      have f0 := x1.cell 0
      have f1 := x1.cell 1
      have f2 := x1.cell 2
      simp at f0 f1 f2
      have HC := Lib.hid hC
      have HH := Lib.hid (And.intro hkp (And.intro bb (And.intro hwr' (And.intro hst (And.intro hbud hwp)))))
      clear hkp hnf hun bb hwr' x1 hbr hrf hsz hcnt hl1 hl2 hll hC hst hbud hNd hr hbl d0 d1 d2 hf hwp
      go_wp2_with fail
      rw [HH.out.2.2.1]
      go_still_tail 4, (by kernel_rfl)
      change wpList _ _ _ _ _ wr'.drew
      go_wp2_with fail
      refine HC.out.mono ?_
      rintro r w4 ⟨rfl, hk4, hn4⟩
      have hend : ∃ j : Nat, Value.int .i64 ((i : Int) + 1) = .int .i64 (j : Int) ∧ j ≤ N ∧ Kp q W3 w4 ∧ NfaAt w4 q (10003000 * j) se (mkL (ks.take j) 0 st0) :=
        ⟨i + 1, by simp, by omega, ((HH.out.1.below HH.out.2.1).drew).trans hk4, by rw [HH.out.2.2.2.1]; exact hn4.mono HH.out.2.2.2.2.1⟩
      have HEND := Lib.hid hend
      clear hk4 hn4 hend f0 f1 f2
      go_wp2_with fail
      go_roundw
      case rel => exact HEND.out
      case measure => simp [RowKit.intOf]; omega
    · obtain rfl : i = N := by omega
      have d1 : ¬ (i : Int) < (i : Int) := by omega
      have e1 : ks.take i = ks := by rw [← HN.out, List.take_length]
      rw [e1] at hnf
      have HE := Lib.hid (And.intro hkp hnf)
      clear hkp hnf e1
      go_wp2_with fail
      go_ret2
      refine ⟨q, _, rfl, H3.out.1.mono H3.out.2.2.2.2, HE.out.2, ?_⟩
      exact H3.out.2.2.1.trans (HE.out.1.under (H3.out.1.mono H3.out.2.2.2.2) H3.out.2.2.1.size)
end Go.Proofs.YtmldgfplnacecaaDoor

namespace Go.Proofs.YtmldgfplnacecaaDoor
open Go.RowKit Go.Shelf Go.Lib

/-! reading tells nothing -/
mutual
theorem tells_readE : ∀ (e : E) (s : St), (readE e s).1.tells = s.tells
  | .mk k c ks, s => by
    unfold readE
    split
    · rfl
    · split
      · exact tells_seqL ks s _
      · split
        · exact tells_altL ks s _
        · split
          · exact tells_headL ks s
          · split
            · exact tells_headL ks s
            · split
              · exact tells_headL ks s
              · rfl
theorem tells_headL : ∀ (ks : List E) (s : St), (readE.headL ks s).1.tells = s.tells
  | [], _ => rfl
  | e :: _, s => tells_readE e s
theorem tells_seqL : ∀ (ks : List E) (s : St) (a : Sp), (readE.seqL ks s a).1.tells = s.tells
  | [], _, _ => rfl
  | e :: r, s, a => by
    unfold readE.seqL
    dsimp only
    exact (tells_seqL r ((readE e s).1.link a.last (readE e s).2.first) _).trans (tells_readE e s)
theorem tells_altL : ∀ (ks : List E) (s : St) (a : Sp), (readE.altL ks s a).1.tells = s.tells
  | [], _, _ => rfl
  | e :: r, s, a => by
    unfold readE.altL
    exact (tells_altL r _ _).trans (tells_readE e s)
end
structure Mka where
  l : Lk
  fi : List Int
  la : List Int
  em : Nat
def makeL : List E → Nat → Mka → Mka
  | [], _, a => a
  | e :: r, i, a =>
    let q := lookE e (i : Int) a.l
    makeL r (i + 1) ⟨q.1, a.fi ++ q.2.first, a.la ++ q.2.last, if q.2.empty then a.em ||| 2 ^ i else a.em⟩
def mka0 : Mka := ⟨⟨[], [], []⟩, [], [], 0⟩
def raOf (se : Bool) (a : Mka) : RA := ⟨se, a.l.lv, a.l.of, a.fi, a.la, a.l.pr, a.em⟩
structure MkaOk (a : Mka) (t : St) (i : Nat) : Prop where
  k : LkOk a.l t a.fi
  ht : ∀ p b : Nat, (t.tells p).testBit b = true ↔ (p = 0 ∧ a.em.testBit b = true) ∨ ((p : Int) ∈ a.la ∧ a.l.of[p - 1]? = some (b : Int))
  hf : ∀ x ∈ a.fi, 1 ≤ x ∧ x ≤ (a.l.lv.length : Int)
  ha : ∀ x ∈ a.la, 1 ≤ x ∧ x ≤ (a.l.lv.length : Int)
  ho : ∀ (j : Nat) x, a.l.of[j]? = some x → ∃ b : Nat, x = (b : Int) ∧ b < i
  he : a.em < 2 ^ i
/-- Looking through any right expression. -/
theorem look_right (e : E) (o : Int) (s : Lk) (t : St) (fi : List Int) (hr : rightE e = true) (h : LkOk s t fi) (hc : t.count + leavesE e ≤ 1000) : LookOk s fi o (lookE e o s) (readE e t) s.lv.length := by
  by_cases h9 : e.k = 9
  · obtain ⟨k, c, ks⟩ := e
    simp only [E.k] at h9
    subst h9
    have e1 : lookE (.mk 9 c ks) o s = (s, ⟨true, [], []⟩) := by unfold lookE; rw [if_pos rfl]
    rw [e1, readE_9]
    exact ⟨h, ⟨rfl, eqs_nil _, eqs_nil _⟩, LkMore.refl _ _, fun x hx => by simp at hx, fun x hx => by simp at hx⟩
  · rw [rightE_good h9] at hr
    simp only [Bool.and_eq_true] at hr
    exact look_read e o s t fi hr.1 h hc
theorem inM_oneN (p : Nat) : inM 1 p = decide (p = 0) := by
  unfold inM
  rw [show (1 : Nat) = 2 ^ 0 from rfl, Nat.testBit_two_pow]
  by_cases h : p = 0
  · subst h; rfl
  · rw [decide_eq_false (show ¬ 0 = p by omega), decide_eq_false h]; simp
theorem LkOk.first {s : Lk} {t : St} {fi l : List Int} {b N : Nat} (h : LkOk s t fi) (hb : Eqs l b N) : LkOk s (t.link 1 b) (fi ++ l) where
  c := h.c
  o := h.o
  k := h.k
  n := fun p q => by
    show ((if inM 1 p then t.next p ||| b else t.next p)).testBit q = true ↔ ((p : Int), (q : Int)) ∈ s.pr ∨ (p = 0 ∧ (q : Int) ∈ fi ++ l)
    rw [inM_oneN, List.mem_append]
    by_cases hp : p = 0
    · rw [decide_eq_true hp, if_pos rfl, Nat.testBit_or, Bool.or_eq_true, h.n, hb.1]
      constructor
      · rintro ((e | e) | e)
        · exact .inl e
        · exact .inr ⟨hp, .inl e.2⟩
        · exact .inr ⟨hp, .inr e⟩
      · rintro (e | ⟨_, e | e⟩)
        · exact .inl (.inl e)
        · exact .inl (.inr ⟨hp, e⟩)
        · exact .inr e
    · rw [decide_eq_false hp, if_neg (by simp), h.n]
      constructor
      · rintro (e | e)
        · exact .inl e
        · exact absurd e.1 hp
      · rintro (e | e)
        · exact .inl e
        · exact absurd e.1 hp
theorem tell_bit (t : St) (a i p b : Nat) : ((t.tell a (2 ^ i)).tells p).testBit b = true ↔ (t.tells p).testBit b = true ∨ (inM a p = true ∧ b = i) := by
  show ((if inM a p then t.tells p ||| 2 ^ i else t.tells p)).testBit b = true ↔ _
  cases inM a p with
  | true =>
    rw [if_pos rfl, Nat.testBit_or, Bool.or_eq_true, Nat.testBit_two_pow]
    simp only [decide_eq_true_eq, true_and]
    constructor
    · rintro (e | e)
      · exact .inl e
      · exact .inr e.symm
    · rintro (e | e)
      · exact .inl e
      · exact .inr e.symm
  | false => simp
theorem addE_next (t : St) (e : E) (b : Nat) : (addE t e b).next = ((readE e t).1.link 1 (readE e t).2.first).next ∧ (addE t e b).takers = (readE e t).1.takers ∧ (addE t e b).count = (readE e t).1.count := by
  unfold addE
  dsimp only
  split <;> exact ⟨rfl, rfl, rfl⟩
theorem addE_tells (t : St) (e : E) (i p b : Nat) : ((addE t e (2 ^ i)).tells p).testBit b = true ↔ (t.tells p).testBit b = true ∨ (inM (readE e t).2.last p = true ∧ b = i) ∨ ((readE e t).2.empty = true ∧ p = 0 ∧ b = i) := by
  have h0 : ∀ x y, ((readE e t).1.link x y).tells = t.tells := fun x y => tells_readE e t
  unfold addE
  dsimp only
  cases (readE e t).2.empty with
  | true =>
    rw [if_pos rfl, tell_bit, tell_bit, h0, inM_oneN]
    simp only [decide_eq_true_eq, true_and]
    exact or_assoc
  | false =>
    rw [if_neg (by simp), tell_bit, h0]
    simp
theorem add_ok (e : E) (i : Nat) (a : Mka) (t : St) (hr : rightE e = true) (h : MkaOk a t i) (hc : t.count + leavesE e ≤ 1000) :
    MkaOk ⟨(lookE e (i : Int) a.l).1, a.fi ++ (lookE e (i : Int) a.l).2.first, a.la ++ (lookE e (i : Int) a.l).2.last, if (lookE e (i : Int) a.l).2.empty then a.em ||| 2 ^ i else a.em⟩ (addE t e (2 ^ i)) (i + 1) := by
  have q := look_right e (i : Int) a.l t a.fi hr h.k hc
  have hN : (lookE e (i : Int) a.l).1.lv.length + 1 ≤ 1000 := by rw [← q.k.c, leaves_right hr]; exact hc
  have k1 := q.k.first q.p.f
  obtain ⟨n1, n2, n3⟩ := addE_next t e (2 ^ i)
  have hml := q.m.l
  have hmo := q.k.o
  have hao := h.k.o
  refine ⟨⟨by rw [n3]; exact q.k.c, q.k.o, fun p b => by rw [n1]; exact k1.n p b, fun m b => by rw [n2]; exact q.k.k m b⟩, fun p b => ?_, fun x hx => ?_, fun x hx => ?_, fun j x hx => ?_, ?_⟩
  · rw [addE_tells, h.ht, List.mem_append]
    have hlast : ∀ (x : Nat), (x : Int) ∈ (lookE e (i : Int) a.l).2.last → (lookE e (i : Int) a.l).1.of[x - 1]? = some (i : Int) ∧ inM (readE e t).2.last x = true := fun x hx => by
      have h1 := q.l _ hx
      have h2 := q.p.l.2 _ hx
      refine ⟨q.m.a (x - 1) (by omega) (by omega), ?_⟩
      rw [inM_lt (by omega)]
      exact (q.p.l.1 x).2 hx
    have hin : inM (readE e t).2.last p = true → (p : Int) ∈ (lookE e (i : Int) a.l).2.last := fun hi => by
      unfold inM at hi
      rw [Bool.and_eq_true] at hi
      exact (q.p.l.1 p).1 hi.2
    have hold : (p : Int) ∈ a.la → (a.l.of[p - 1]? = some (b : Int) ↔ (lookE e (i : Int) a.l).1.of[p - 1]? = some (b : Int)) := fun hp => by
      have := h.ha _ hp
      have hl : p - 1 < a.l.of.length := by omega
      have e1 := q.m.m (p - 1) _ (List.getElem?_eq_getElem hl)
      rw [e1, List.getElem?_eq_getElem hl]
    have hem : (if (lookE e (i : Int) a.l).2.empty then a.em ||| 2 ^ i else a.em).testBit b = true ↔ a.em.testBit b = true ∨ ((readE e t).2.empty = true ∧ b = i) := by
      rw [q.p.e]
      cases (readE e t).2.empty with
      | true =>
        rw [if_pos rfl, Nat.testBit_or, Bool.or_eq_true, Nat.testBit_two_pow]
        simp only [decide_eq_true_eq, true_and]
        constructor
        · rintro (e | e)
          · exact .inl e
          · exact .inr e.symm
        · rintro (e | e)
          · exact .inl e
          · exact .inr e.symm
      | false => simp
    show _ ↔ (p = 0 ∧ (if (lookE e (i : Int) a.l).2.empty then a.em ||| 2 ^ i else a.em).testBit b = true) ∨ _
    rw [hem]
    constructor
    · rintro ((⟨e1, e2⟩ | ⟨e1, e2⟩) | ⟨e1, rfl⟩ | ⟨e1, e2, e3⟩)
      · exact .inl ⟨e1, .inl e2⟩
      · exact .inr ⟨.inl e1, (hold e1).1 e2⟩
      · exact .inr ⟨.inr (hin e1), (hlast p (hin e1)).1⟩
      · exact .inl ⟨e2, .inr ⟨e1, e3⟩⟩
    · rintro (⟨e1, e2 | ⟨e2, e3⟩⟩ | ⟨e1 | e1, e2⟩)
      · exact .inl (.inl ⟨e1, e2⟩)
      · exact .inr (.inr ⟨e2, e1, e3⟩)
      · exact .inl (.inr ⟨e1, (hold e1).2 e2⟩)
      · refine .inr (.inl ⟨(hlast p e1).2, ?_⟩)
        rw [(hlast p e1).1] at e2
        injection e2 with e2
        omega
  · rcases List.mem_append.1 hx with e1 | e1
    · have := h.hf x e1; show _ ∧ x ≤ ((lookE e (i : Int) a.l).1.lv.length : Int); omega
    · have := q.p.f.2 x e1; show _ ∧ x ≤ ((lookE e (i : Int) a.l).1.lv.length : Int); omega
  · rcases List.mem_append.1 hx with e1 | e1
    · have := h.ha x e1; show _ ∧ x ≤ ((lookE e (i : Int) a.l).1.lv.length : Int); omega
    · have := q.p.l.2 x e1; show _ ∧ x ≤ ((lookE e (i : Int) a.l).1.lv.length : Int); omega
  · have hx : (lookE e (i : Int) a.l).1.of[j]? = some x := hx
    rcases Nat.lt_or_ge j a.l.of.length with hl | hl
    · have e1 := q.m.m j _ (List.getElem?_eq_getElem hl)
      rw [e1] at hx
      obtain ⟨b, h1, h2⟩ := h.ho j x (by rw [List.getElem?_eq_getElem hl]; exact hx)
      exact ⟨b, h1, by omega⟩
    · have hj := (List.getElem?_eq_some_iff.1 hx).1
      rw [q.m.a j hl hj] at hx
      injection hx with hx
      exact ⟨i, hx.symm, by omega⟩
  · have h1 : (2 : Nat) ^ i < 2 ^ (i + 1) := Nat.pow_lt_pow_right (by omega) (by omega)
    have h2 := Nat.lt_trans h.he h1
    show (if (lookE e (i : Int) a.l).2.empty then a.em ||| 2 ^ i else a.em) < _
    split
    · exact Nat.or_lt_two_pow h2 h1
    · exact h2
theorem makeL_ok : ∀ (l : List E) (i : Nat) (a : Mka) (t : St), l.all rightE = true → MkaOk a t i → t.count + leavesE.lvL l ≤ 1000 → MkaOk (makeL l i a) (mkL l i t) (i + l.length)
  | [], i, a, t, _, h, _ => h
  | e :: r, i, a, t, hr, h, hc => by
    simp only [List.all_cons, Bool.and_eq_true] at hr
    have hc : t.count + (leavesE e + leavesE.lvL r) ≤ 1000 := hc
    have h1 := add_ok e i a t hr.1 h (by omega)
    have h2 := makeL_ok r (i + 1) _ _ hr.2 h1 (by rw [addE_count hr.1]; omega)
    have e1 : i + (e :: r).length = i + 1 + r.length := by simp; omega
    rw [e1]
    exact h2
theorem mka0_ok : MkaOk mka0 st0 0 :=
  ⟨⟨rfl, rfl, fun p q => by simp [st0, mka0], fun m q => by simp [st0, mka0]⟩, fun p b => by simp [st0, mka0], fun x hx => by simp [mka0] at hx, fun x hx => by simp [mka0] at hx, fun j x hx => by simp [mka0] at hx, by decide⟩
theorem makeN_ok (l : List E) (hr : l.all rightE = true) (hc : leavesE.lvL l < 1000) : MkaOk (makeL l 0 mka0) (mkN l) l.length := by
  have := makeL_ok l 0 mka0 st0 hr mka0_ok (by show 1 + _ ≤ 1000; omega)
  rw [Nat.zero_add] at this
  exact this
theorem MkaOk.la {a : Mka} {t : St} {i : Nat} (h : MkaOk a t i) (se : Bool) (hi : i ≤ 64) (hl : a.l.lv.length ≤ 1000) : LaOk (raOf se a) := by
  refine ⟨Nat.lt_of_lt_of_le h.he (show 2 ^ i ≤ 2 ^ 64 from Nat.pow_le_pow_right (by omega) hi), fun x hx => ?_⟩
  have h1 := h.ha x hx
  have hx0 : (x.toNat : Int) = x := Int.toNat_of_nonneg (by omega)
  have hlt : x.toNat - 1 < a.l.of.length := by rw [h.k.o]; omega
  obtain ⟨b, hb, hbi⟩ := h.ho (x.toNat - 1) _ (List.getElem?_eq_getElem hlt)
  exact ⟨x.toNat - 1, b, by omega, by omega, by show a.l.of[x.toNat - 1]? = _; rw [List.getElem?_eq_getElem hlt, hb], by omega⟩
end Go.Proofs.YtmldgfplnacecaaDoor

