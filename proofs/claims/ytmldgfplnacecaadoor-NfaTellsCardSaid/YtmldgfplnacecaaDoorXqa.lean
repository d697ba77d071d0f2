/-
  
  An expression as it lies in memory: a struct of two numbers and a slice of such structs, to whatever depth; what lies so lies so in every later world.
  What an automaton is, as numbers: sets of places as masks; how it is read off expressions, part by part. No program.
  Contracts: a set of places in memory: sixteen words; what one adds, and keeps.
  Contracts: the set of one place.
  Contracts: math/bits.OnesCount64: some number up to 127; math/bits.TrailingZeros64.
  Contracts: how many places a set has, about; the list of its places.
  An automaton in memory: a struct of five cells and three maps; what a call may turn of it; a map as a function of its keys.
  Laws for the walk: look-ups and stores in the three maps of an automaton; a list of places.
  Contracts: (*NFA).link.
-/
import Derived.WalkKit
import Derived.BigQuiet
import Derived.Deep.QuietTactic
import Derived.Outline
import Derived.Lib.Hide
import Derived.Below
import Derived.Lib.DecodeNEq
import Derived.Shelf.SlicesE.Clone
import Derived.Laws.IdiomStrings
import Derived.Laws.OwnMore
import Derived.OwnWalk
import Derived.RangeFuncRecord
import Derived.RangeFuncBox
import Derived.Deep.AppendLies
import Derived.Test.YtmldgfplnacecaaDoorProg
import Derived.Lib.TrailingZeros
import Derived.Deep.MidRow
import Derived.Laws.Rows
import Derived.Laws.Bits64b
import Derived.Great.Walk
import Derived.IntWalk
import Derived.Maps.AppendAt
import Derived.Shelf.Spec.TrailingZeros
import Derived.Laws.Bits128
import Derived.Maps.OwnOps
import Derived.Maps.OwnSet
import Derived.Maps.Views
import Derived.StillTailTactics
namespace Go.Proofs.YtmldgfplnacecaaDoor
open Go.RowKit Go.Shelf Go.Lib
set_option maxHeartbeats 1000000 in
set_option maxRecDepth 100000 in
theorem below_drewN {B : Nat} {a w : World} (h : Below B a w) (n : Nat) : Below B a (w.drewN n) := ⟨h.os, h.tape, h.output, h.size, h.block⟩
theorem ret_bool {a b : Bool} (h : a = b) : Ending.returned (.bool a) = .returned (.bool b) := by rw [h]
theorem add0 (g j : Nat) : (Addr.mk g 0 none).add j = ⟨g, j, none⟩ := by
  unfold Addr.add
  by_cases h : j = 0 <;> simp [h]
/-- A block that is known whole. -/
def Cells (W : World) (g t : Nat) (cs : Array Value) : Prop := W.heap[g]? = some (.cells cs t (0, 0))
theorem Cells.lt {W : World} {g t : Nat} {cs : Array Value} (h : Cells W g t cs) : g < W.heap.size := (Array.getElem?_eq_some_iff.1 h).1
theorem Cells.cell {W : World} {g t : Nat} {cs : Array Value} (h : Cells W g t cs) (i : Nat) : W.cell? ⟨g, i, none⟩ = cs[i]? := by
  simp [World.cell?, show W.heap[g]? = _ from h]
theorem own_block_lt {w : World} {base e size n : Nat} {v : Value} {xs : List Value} (h : w.ownsRow base e size v n xs) : ∀ k, v.ownBlock = some k → base ≤ k ∧ k < w.heap.size := by
  rcases h.2 with ⟨rfl, _⟩ | ⟨g, cap, cur, rfl, hb, hh, _⟩
  · intro k e; simp [Value.ownBlock] at e
  · intro k e
    obtain rfl : g = k := by simpa [Value.ownBlock] using e
    exact ⟨hb, (Array.getElem?_eq_some_iff.1 hh).1⟩

theorem grown_of_below {A B : World} (h : Below A.heap.size A B) : A.grownBy B none := ⟨h.os, h.tape, h.output, h.size, fun k hk _ => h.block k hk⟩
theorem ownsRow_below {w w' : World} {base e size n : Nat} {v : Value} {xs : List Value} (h : w.ownsRow base e size v n xs) (hb : Below w.heap.size w w') : w'.ownsRow base e size v n xs :=
  h.kept (grown_of_below hb) (by cases v.ownBlock <;> simp)

end Go.Proofs.YtmldgfplnacecaaDoor

namespace Go.Proofs.YtmldgfplnacecaaDoor
open Go.RowKit Go.Shelf Go.Lib

/-- An expression: its kind, its class, its parts. -/
inductive E where
  | mk (k c : Int) (ks : List E)
def E.k : E → Int | .mk k _ _ => k
def E.c : E → Int | .mk _ c _ => c
def E.ks : E → List E | .mk _ _ ks => ks
/-- How many nodes. -/
def szE : E → Nat
  | .mk _ _ ks => 1 + szL ks
where szL : List E → Nat
  | [] => 0
  | e :: r => szE e + szL r
abbrev szL := szE.szL
theorem szE_eq (e : E) : szE e = 1 + szL e.ks := by cases e; rfl
theorem szL_append (a b : List E) : szL (a ++ b) = szL a + szL b := by
  induction a with
  | nil => simp [szL, szE.szL]
  | cons e r ih => simp only [List.cons_append, szL, szE.szL] at *; omega
theorem szE_pos (e : E) : 1 ≤ szE e := by rw [szE_eq]; omega
theorem szL_mem {ks : List E} {e : E} (h : e ∈ ks) : szE e ≤ szL ks := by
  induction ks with
  | nil => cases h
  | cons a r ih =>
    simp only [szL, szE.szL] at *
    rcases List.mem_cons.1 h with rfl | h
    · omega
    · have := ih h; omega
theorem szE_kid {e f : E} (h : f ∈ e.ks) : szE f < szE e := by have := szL_mem h; rw [szE_eq e]; omega
theorem szL_take {ks : List E} {i : Nat} {e : E} (h : ks[i]? = some e) : szL (ks.take (i + 1)) = szL (ks.take i) + szE e := by
  rw [List.take_add_one, h, szL_append]
  simp [szL, szE.szL]

theorem szL_take_le (ks : List E) (i : Nat) : szL (ks.take i) ≤ szL ks := by
  have := szL_append (ks.take i) (ks.drop i)
  rw [List.take_append_drop] at this
  omega
def i64 (n : Int) : Prop := -9223372036854775808 ≤ n ∧ n ≤ 9223372036854775807

/-- A value is an expression, whose parts lie in blocks below B. -/
def Nd (w : World) (B : Nat) : E → Value → Prop
  | .mk k c ks, v => i64 k ∧ i64 c ∧ ∃ A cap, v = .agg #[.int .i64 k, .int .i64 c, .slice A ks.length cap] ∧ ks.length ≤ cap ∧ cap ≤ maxLen ∧ (A = none → cap = 0) ∧ (ks ≠ [] → ∃ b o, A = some ⟨b, o, none⟩ ∧ b < B ∧ Row w B b o ks)
where Row (w : World) (B b : Nat) : Nat → List E → Prop
  | _, [] => True
  | o, e :: r => (∃ x y z, w.cell? ⟨b, o, none⟩ = some x ∧ w.cell? ⟨b, o + 1, none⟩ = some y ∧ w.cell? ⟨b, o + 2, none⟩ = some z ∧ Nd w B e (.agg #[x, y, z])) ∧ Row w B b (o + 3) r
/-- A slice of expressions. -/
structure KsAt (w : World) (B : Nat) (ks : List E) (A : Option Addr) (cap : Nat) : Prop where
  l : ks.length ≤ cap
  m : cap ≤ maxLen
  z : A = none → cap = 0
  r : ks ≠ [] → ∃ b o, A = some ⟨b, o, none⟩ ∧ b < B ∧ Nd.Row w B b o ks
theorem Nd_iff {w : World} {B : Nat} {e : E} {v : Value} : Nd w B e v ↔ i64 e.k ∧ i64 e.c ∧ ∃ A cap, v = .agg #[.int .i64 e.k, .int .i64 e.c, .slice A e.ks.length cap] ∧ KsAt w B e.ks A cap := by
  cases e with
  | mk k c ks =>
    show (i64 k ∧ i64 c ∧ _) ↔ (i64 k ∧ i64 c ∧ _)
    constructor
    · rintro ⟨h1, h2, A, cap, rfl, h3, h4, h5, h6⟩
      exact ⟨h1, h2, A, cap, rfl, h3, h4, h5, h6⟩
    · rintro ⟨h1, h2, A, cap, rfl, h3, h4, h5, h6⟩
      exact ⟨h1, h2, A, cap, rfl, h3, h4, h5, h6⟩
theorem row_get {w : World} {B b : Nat} {ks : List E} : ∀ {o i : Nat} {e : E}, Nd.Row w B b o ks → ks[i]? = some e →
    ∃ x y z, w.cell? ⟨b, o + i * 3, none⟩ = some x ∧ w.cell? ⟨b, o + i * 3 + 1, none⟩ = some y ∧ w.cell? ⟨b, o + i * 3 + 2, none⟩ = some z ∧ Nd w B e (.agg #[x, y, z]) := by
  induction ks with
  | nil => intro o i e _ h; simp at h
  | cons a r ih =>
    rintro o i e ⟨h1, h2⟩ h
    cases i with
    | zero =>
      obtain rfl : a = e := by simpa using h
      simpa using h1
    | succ i =>
      have := ih h2 (show r[i]? = some e by simpa using h)
      rw [show o + (i + 1) * 3 = o + 3 + i * 3 by omega]
      exact this
theorem row_get' {w : World} {B b : Nat} {ks : List E} {o i : Nat} {e : E} (h : Nd.Row w B b o ks) (hi : ks[i]? = some e) :
    ∃ A cap, w.cell? ⟨b, o + i * 3, none⟩ = some (.int .i64 e.k) ∧ w.cell? ⟨b, o + i * 3 + 1, none⟩ = some (.int .i64 e.c) ∧ w.cell? ⟨b, o + i * 3 + 2, none⟩ = some (.slice A e.ks.length cap) ∧ Nd w B e (.agg #[.int .i64 e.k, .int .i64 e.c, .slice A e.ks.length cap]) := by
  obtain ⟨x, y, z, c1, c2, c3, hN⟩ := row_get h hi
  obtain ⟨_, _, A, cap, he, _⟩ := Nd_iff.1 hN
  have he' : x = .int .i64 e.k ∧ y = .int .i64 e.c ∧ z = .slice A e.ks.length cap := by simpa using he
  obtain ⟨rfl, rfl, rfl⟩ := he'
  exact ⟨A, cap, c1, c2, c3, hN⟩
theorem row_of {w : World} {B b : Nat} {ks : List E} : ∀ {o : Nat}, (∀ i e, ks[i]? = some e →
    ∃ x y z, w.cell? ⟨b, o + i * 3, none⟩ = some x ∧ w.cell? ⟨b, o + i * 3 + 1, none⟩ = some y ∧ w.cell? ⟨b, o + i * 3 + 2, none⟩ = some z ∧ Nd w B e (.agg #[x, y, z])) → Nd.Row w B b o ks := by
  induction ks with
  | nil => intro o _; exact trivial
  | cons a r ih =>
    intro o h
    refine ⟨by simpa using h 0 a rfl, ih fun i e hi => ?_⟩
    have := h (i + 1) e (by simpa using hi)
    rw [show o + (i + 1) * 3 = o + 3 + i * 3 by omega] at this
    exact this
/-- What turns nothing below B turns nothing of an expression there. -/
theorem Nd.carry {w w' : World} {B B' : Nat} (hB : B ≤ B') (hc : ∀ b o v, b < B → w.cell? ⟨b, o, none⟩ = some v → w'.cell? ⟨b, o, none⟩ = some v) :
    ∀ n e v, szE e ≤ n → Nd w B e v → Nd w' B' e v := by
  intro n
  induction n with
  | zero => intro e v h; have := szE_pos e; omega
  | succ n ih =>
    intro e v hn h
    obtain ⟨h1, h2, A, cap, rfl, hk⟩ := Nd_iff.1 h
    refine Nd_iff.2 ⟨h1, h2, A, cap, rfl, hk.l, hk.m, hk.z, fun hne => ?_⟩
    obtain ⟨b, o, rfl, hb, hr⟩ := hk.r hne
    refine ⟨b, o, rfl, by omega, row_of fun i f hf => ?_⟩
    obtain ⟨x, y, z, c1, c2, c3, hN⟩ := row_get hr hf
    exact ⟨x, y, z, hc _ _ _ hb c1, hc _ _ _ hb c2, hc _ _ _ hb c3, ih f _ (by have := szE_kid (List.mem_of_getElem? hf); omega) hN⟩
theorem Nd.below {w w' : World} {B : Nat} {e : E} {v : Value} (h : Nd w B e v) (hb : Below B w w') : Nd w' B e v :=
  h.carry (Nat.le_refl _) (fun b o _u hl hu => (hb.cell (p := ⟨b, o, none⟩) hl).trans hu) _ _ _ (Nat.le_refl _)
theorem Nd.mono {w : World} {B B' : Nat} {e : E} {v : Value} (h : Nd w B e v) (hB : B ≤ B') : Nd w B' e v :=
  h.carry hB (fun _ _ _ _ hu => hu) _ _ _ (Nat.le_refl _)
/-- In a later world, its own heap the bound. -/
theorem Nd.on {w w' : World} {e : E} {v : Value} (h : Nd w w.heap.size e v) (hb : Below w.heap.size w w') : Nd w' w'.heap.size e v := (h.below hb).mono hb.size
theorem KsAt.below {w w' : World} {B : Nat} {ks : List E} {A : Option Addr} {cap : Nat} (h : KsAt w B ks A cap) (hb : Below B w w') : KsAt w' B ks A cap :=
  ⟨h.l, h.m, h.z, fun hne => by
    obtain ⟨b, o, rfl, hl, hr⟩ := h.r hne
    refine ⟨b, o, rfl, hl, row_of fun i f hf => ?_⟩
    obtain ⟨x, y, z, c1, c2, c3, hN⟩ := row_get hr hf
    exact ⟨x, y, z, (hb.cell (p := ⟨b, _, none⟩) hl).trans c1, (hb.cell (p := ⟨b, _, none⟩) hl).trans c2, (hb.cell (p := ⟨b, _, none⟩) hl).trans c3, hN.below hb⟩⟩
theorem KsAt.mono {w : World} {B B' : Nat} {ks : List E} {A : Option Addr} {cap : Nat} (h : KsAt w B ks A cap) (hB : B ≤ B') : KsAt w B' ks A cap :=
  ⟨h.l, h.m, h.z, fun hne => by
    obtain ⟨b, o, rfl, hl, hr⟩ := h.r hne
    refine ⟨b, o, rfl, by omega, row_of fun i f hf => ?_⟩
    obtain ⟨x, y, z, c1, c2, c3, hN⟩ := row_get hr hf
    exact ⟨x, y, z, c1, c2, c3, hN.mono hB⟩⟩
theorem KsAt.on {w w' : World} {ks : List E} {A : Option Addr} {cap : Nat} (h : KsAt w w.heap.size ks A cap) (hb : Below w.heap.size w w') : KsAt w' w'.heap.size ks A cap := (h.below hb).mono hb.size
theorem below_new (w : World) (o : Obj) : Below w.heap.size w (w.alloc o) := (Below.refl _ _).alloc (Nat.le_refl _) o
end Go.Proofs.YtmldgfplnacecaaDoor

namespace Go.Proofs.YtmldgfplnacecaaDoor
open Go.RowKit Go.Shelf Go.Lib

/-- What is known of a part: its first leaves, its last ones, and whether it matches nothing, too. -/
structure Sp where
  first : Nat
  last : Nat
  empty : Bool
/-- An automaton: how many places, which follow each, which take each symbol, what each tells. Sets are masks. -/
structure St where
  count : Nat
  next : Nat → Nat
  takers : Nat → Nat
  tells : Nat → Nat
/-- Is a place in a set? -/
def inM (m p : Nat) : Bool := decide (p < 1024) && m.testBit p
/-- The places of a set, rising. -/
def posL (m : Nat) : List Nat := (List.range 1024).filter (inM m)
def St.link (s : St) (a b : Nat) : St := { s with next := fun p => if inM a p then s.next p ||| b else s.next p }
def takesE (k c : Int) (m : Nat) : Bool :=
  if k = 3 then m == 36 else decide (m ≤ 35) && (k == 1 || (k == 0 && (m : Int) == c) || (k == 2 && (m : Int) != c))
def St.leaf (s : St) (k c : Int) : St :=
  { s with count := s.count + 1, takers := fun m => if decide (m ≤ 36) && takesE k c m then s.takers m ||| 2 ^ s.count else s.takers m }
def readE : E → St → St × Sp
  | .mk k c ks, s =>
    if k = 9 then (s, ⟨0, 0, true⟩)
    else if k = 4 then seqL ks s ⟨0, 0, true⟩
    else if k = 5 then altL ks s ⟨0, 0, false⟩
    else if k = 6 then
      let r := headL ks s
      (r.1.link r.2.last r.2.first, ⟨r.2.first, r.2.last, true⟩)
    else if k = 7 then
      let r := headL ks s
      (r.1.link r.2.last r.2.first, r.2)
    else if k = 8 then
      let r := headL ks s
      (r.1, ⟨r.2.first, r.2.last, true⟩)
    else (s.leaf k c, ⟨2 ^ s.count, 2 ^ s.count, false⟩)
where
  headL : List E → St → St × Sp
    | [], s => (s, ⟨0, 0, false⟩)
    | e :: _, s => readE e s
  seqL : List E → St → Sp → St × Sp
    | [], s, a => (s, a)
    | e :: r, s, a =>
      let q := readE e s
      seqL r (q.1.link a.last q.2.first) ⟨if a.empty then a.first ||| q.2.first else a.first, if q.2.empty then q.2.last ||| a.last else q.2.last, a.empty && q.2.empty⟩
  altL : List E → St → Sp → St × Sp
    | [], s, a => (s, a)
    | e :: r, s, a =>
      let q := readE e s
      altL r q.1 ⟨a.first ||| q.2.first, a.last ||| q.2.last, a.empty || q.2.empty⟩
abbrev seqL := readE.seqL
abbrev altL := readE.altL
abbrev headL := readE.headL
theorem seqL_append (a b : List E) : ∀ s p, seqL (a ++ b) s p = seqL b (seqL a s p).1 (seqL a s p).2 := by
  induction a with
  | nil => intro s p; simp [seqL, readE.seqL]
  | cons e r ih => intro s p; simp only [List.cons_append, seqL, readE.seqL] at *; rw [ih]
theorem altL_append (a b : List E) : ∀ s p, altL (a ++ b) s p = altL b (altL a s p).1 (altL a s p).2 := by
  induction a with
  | nil => intro s p; simp [altL, readE.altL]
  | cons e r ih => intro s p; simp only [List.cons_append, altL, readE.altL] at *; rw [ih]
def St.tell (s : St) (a bit : Nat) : St := { s with tells := fun p => if inM a p then s.tells p ||| bit else s.tells p }
def addE (s : St) (e : E) (bit : Nat) : St :=
  let r := readE e s
  let s2 := (r.1.link 1 r.2.first).tell r.2.last bit
  if r.2.empty then s2.tell 1 bit else s2
def st0 : St := ⟨1, fun _ => 0, fun _ => 0, fun _ => 0⟩
def mkL : List E → Nat → St → St
  | [], _, s => s
  | e :: r, i, s => mkL r (i + 1) (addE s e (2 ^ i))
def mkN (l : List E) : St := mkL l 0 st0
theorem mkL_append (a b : List E) : ∀ i s, mkL (a ++ b) i s = mkL b (i + a.length) (mkL a i s) := by
  induction a with
  | nil => intro i s; simp [mkL]
  | cons e r ih => intro i s; simp only [List.cons_append, mkL, List.length_cons] at *; rw [ih]; congr 1; omega
/-- How many leaves. -/
def leavesE : E → Nat
  | .mk k _ ks => if ks = [] then (if k = 9 then 0 else 1) else lvL ks
where lvL : List E → Nat
  | [] => 0
  | e :: r => leavesE e + lvL r
/-- From a set by a mark. -/
def nextU (s : St) : List Int → Nat
  | [] => 0
  | p :: r => (if 0 ≤ p then s.next p.toNat else 0) ||| nextU s r
def tellsU (s : St) : List Int → Nat
  | [] => 0
  | p :: r => (if 0 ≤ p then s.tells p.toNat else 0) ||| tellsU s r
def takersI (s : St) (m : Int) : Nat := if 0 ≤ m then s.takers m.toNat else 0
def stepM (search : Bool) (s : St) (set : List Int) (m : Int) : Nat :=
  let x := nextU s set &&& takersI s m
  if search then x ||| 1 else x
def seqEx : E := .mk 4 0 [.mk 0 11 [], .mk 6 0 [.mk 0 12 []]]
def posI (m : Nat) : List Int := (posL m).map (fun (n : Nat) => (n : Int))
example : posI (stepM true (mkN [seqEx]) (posI (stepM true (mkN [seqEx]) [0] 11)) 12) = [0, 2] := by decide +kernel
example : tellsU (mkN [seqEx]) [0, 2] = 1 := by decide +kernel
example : (mkN [seqEx]).count = 3 := by decide +kernel
/-! words -/
def wd (m i : Nat) : Nat := m / 2 ^ (64 * i) % 2 ^ 64
theorem wd_lt (m i : Nat) : wd m i < 18446744073709551616 := Nat.mod_lt _ (by decide)
theorem wd_bit (m i j : Nat) : (wd m i).testBit j = (decide (j < 64) && m.testBit (64 * i + j)) := by
  unfold wd
  rw [Nat.testBit_mod_two_pow, Nat.testBit_div_two_pow, Nat.add_comm]
theorem wd_or (a b i : Nat) : wd (a ||| b) i = wd a i ||| wd b i := by
  apply Nat.eq_of_testBit_eq
  intro j
  simp only [wd_bit, Nat.testBit_or]
  cases decide (j < 64) <;> simp
theorem wd_and (a b i : Nat) : wd (a &&& b) i = wd a i &&& wd b i := by
  apply Nat.eq_of_testBit_eq
  intro j
  simp only [wd_bit, Nat.testBit_and]
  cases decide (j < 64) <;> simp
theorem wd_zero (i : Nat) : wd 0 i = 0 := by simp [wd]
theorem wd_pow (p i : Nat) : wd (2 ^ p) i = if i = p / 64 then 2 ^ (p % 64) else 0 := by
  apply Nat.eq_of_testBit_eq
  intro j
  rw [wd_bit, Nat.testBit_two_pow]
  by_cases h : i = p / 64
  · rw [if_pos h, Nat.testBit_two_pow]
    by_cases hj : p % 64 = j
    · have : p = 64 * i + j := by omega
      simp [this]
      try omega
    · have : ¬ p = 64 * i + j := by omega
      simp [hj]
      intro _ h2; omega
  · rw [if_neg h]
    simp
    intro hj h2; omega
theorem inM_wd {m i j : Nat} (hi : i < 16) (hj : j < 64) : inM m (64 * i + j) = (wd m i).testBit j := by
  unfold inM
  rw [wd_bit]
  simp [hj, show 64 * i + j < 1024 by omega]
theorem clear_bit {x k m : Nat} (hx : x = 2 ^ k * (2 * m + 1)) (j : Nat) : (x &&& (x - 1)).testBit j = (x.testBit j && decide (j ≠ k)) := by
  have hp : 0 < 2 ^ k := Nat.two_pow_pos k
  have e1 : x = 2 ^ k * (2 * m + 1) + 0 := by omega
  have e2 : x - 1 = 2 ^ k * (2 * m) + (2 ^ k - 1) := by rw [hx, Nat.mul_add, Nat.mul_one]; omega
  rw [Nat.testBit_and, e2]
  rw [e1, Nat.testBit_two_pow_mul_add _ hp, Nat.testBit_two_pow_mul_add _ (by omega)]
  by_cases h : j < k
  · simp [h]
  · rw [if_neg h, if_neg h]
    by_cases h2 : j = k
    · subst h2; simp
    · obtain ⟨d, hd⟩ : ∃ d, j - k = d + 1 := ⟨j - k - 1, by omega⟩
      rw [hd, Nat.testBit_succ, Nat.testBit_succ]
      have : (2 * m + 1) / 2 = m := by omega
      have : 2 * m / 2 = m := by omega
      simp [*]
theorem low_bit {x k m : Nat} (hx : x = 2 ^ k * (2 * m + 1)) : (∀ j, j < k → x.testBit j = false) ∧ x.testBit k = true := by
  have hp : 0 < 2 ^ k := Nat.two_pow_pos k
  have e1 : x = 2 ^ k * (2 * m + 1) + 0 := by omega
  constructor
  · intro j h
    rw [e1, Nat.testBit_two_pow_mul_add _ hp]; simp [h]
  · rw [e1, Nat.testBit_two_pow_mul_add _ hp]; simp
/-- The places below a bound. -/
def posN (m t : Nat) : List Nat := (List.range t).filter (inM m)
theorem posN_succ (m t : Nat) : posN m (t + 1) = posN m t ++ if inM m t then [t] else [] := by
  unfold posN
  rw [List.range_succ, List.filter_append]
  congr 1
  by_cases h : inM m t <;> simp [h]
theorem posN_skip {m a b : Nat} (hab : a ≤ b) (h : ∀ j, a ≤ j → j < b → inM m j = false) : posN m b = posN m a := by
  induction b with
  | zero => have : a = 0 := by omega
            rw [this]
  | succ b ih =>
    by_cases hb : a = b + 1
    · rw [hb]
    · rw [posN_succ, h b (by omega) (by omega), ih (by omega) (fun j h1 h2 => h j h1 (by omega))]; simp
theorem posL_eq (m : Nat) : posL m = posN m 1024 := rfl
theorem posN_len (m t : Nat) : (posN m t).length ≤ t := by
  unfold posN
  refine Nat.le_trans (List.length_filter_le _ _) ?_
  rw [List.length_range]; exact Nat.le_refl _
/-- What is left of a word behind some of its bits. -/
def Left (m i t x : Nat) : Prop := x < 18446744073709551616 ∧ ∀ j, x.testBit j = (decide (t ≤ j) && (wd m i).testBit j)
theorem left_start (m i : Nat) : Left m i 0 (wd m i) := ⟨wd_lt _ _, fun j => by simp⟩
theorem left_end {m i t : Nat} (hi : i < 16) (ht : t ≤ 64) (h : Left m i t 0) : posN m (64 * i + t) = posN m (64 * (i + 1)) := by
  symm
  refine posN_skip (by omega) fun j h1 h2 => ?_
  have e : j = 64 * i + (j - 64 * i) := by omega
  rw [e, inM_wd hi (by omega)]
  have := h.2 (j - 64 * i)
  simp at this
  exact this (by omega)
theorem left_step {m i t x k q : Nat} (hi : i < 16) (h : Left m i t x) (hx : x = 2 ^ k * (2 * q + 1)) (hk : k < 64) :
    t ≤ k ∧ posN m (64 * i + (k + 1)) = posN m (64 * i + t) ++ [64 * i + k] ∧ Left m i (k + 1) (x &&& (x - 1)) := by
  obtain ⟨hl, hb⟩ := low_bit hx
  have h1 := h.2 k
  rw [hb] at h1
  simp at h1
  refine ⟨h1.1, ?_, ?_, ?_⟩
  · have : posN m (64 * i + k) = posN m (64 * i + t) := by
      refine posN_skip (by omega) fun j h2 h3 => ?_
      have e : j = 64 * i + (j - 64 * i) := by omega
      rw [e, inM_wd hi (by omega)]
      have h4 := h.2 (j - 64 * i)
      rw [hl _ (by omega)] at h4
      simp at h4
      exact h4 (by omega)
    rw [show 64 * i + (k + 1) = (64 * i + k) + 1 by omega, posN_succ, inM_wd hi hk, h1.2, this]
    simp
  · have := Nat.and_le_left (n := x) (m := x - 1); have := h.1; omega
  · intro j
    rw [clear_bit hx, h.2]
    by_cases h5 : j = k
    · subst h5; simp; intro h7; omega
    · by_cases h6 : k < j
      · simp [h5, show t ≤ j by omega, show k + 1 ≤ j by omega]
      · have h4 := h.2 j
        rw [hl j (by omega)] at h4
        have e1 : decide (k + 1 ≤ j) = false := by simp; omega
        rw [e1, ← h4]; simp
/-! sets -/
theorem inM_or (a b p : Nat) : inM (a ||| b) p = (inM a p || inM b p) := by
  unfold inM; rw [Nat.testBit_or]; cases decide (p < 1024) <;> simp
theorem inM_and (a b p : Nat) : inM (a &&& b) p = (inM a p && inM b p) := by
  unfold inM; rw [Nat.testBit_and]; cases decide (p < 1024) <;> simp
theorem mem_posI {m : Nat} {v : Int} : v ∈ posI m ↔ ∃ p : Nat, v = p ∧ inM m p = true := by
  unfold posI posL
  simp only [List.mem_map, List.mem_filter, List.mem_range]
  constructor
  · rintro ⟨p, ⟨_, h⟩, rfl⟩; exact ⟨p, rfl, h⟩
  · rintro ⟨p, rfl, h⟩
    refine ⟨p, ⟨?_, h⟩, rfl⟩
    unfold inM at h; simp at h; exact h.1
theorem posI_rises (m : Nat) : (posI m).Pairwise (· < ·) := by
  unfold posI posL
  rw [List.pairwise_map]
  refine List.Pairwise.imp ?_ (List.Pairwise.filter _ List.pairwise_lt_range)
  intro a b h; omega
theorem posI_len (m : Nat) : (posI m).length ≤ 1024 := by
  unfold posI; rw [List.length_map, posL_eq]; exact posN_len _ _
theorem posI_more {a b : Nat} (h : ∀ p, inM a p = true → inM b p = true) : (posI a).length ≤ (posI b).length := by
  unfold posI posL
  rw [List.length_map, List.length_map]
  have hs : List.Sublist ((List.range 1024).filter (inM a)) ((List.range 1024).filter (inM b)) := by
    rw [show (List.range 1024).filter (inM a) = ((List.range 1024).filter (inM b)).filter (inM a) from by
      rw [List.filter_filter]
      apply List.filter_congr
      intro x _
      cases hx : inM a x with
      | false => simp
      | true => simp [h x hx]]
    exact List.filter_sublist
  exact hs.length_le
theorem nextU_append (s : St) (a b : List Int) : nextU s (a ++ b) = nextU s a ||| nextU s b := by
  induction a with
  | nil => simp [nextU]
  | cons p r ih => simp only [List.cons_append, nextU]; rw [ih, Nat.or_assoc]
theorem tellsU_append (s : St) (a b : List Int) : tellsU s (a ++ b) = tellsU s a ||| tellsU s b := by
  induction a with
  | nil => simp [tellsU]
  | cons p r ih => simp only [List.cons_append, tellsU]; rw [ih, Nat.or_assoc]
theorem nextU_bit (s : St) (l : List Int) (j : Nat) : (nextU s l).testBit j = true ↔ ∃ p ∈ l, 0 ≤ p ∧ (s.next p.toNat).testBit j = true := by
  induction l with
  | nil => simp [nextU]
  | cons p r ih =>
    simp only [nextU, Nat.testBit_or, Bool.or_eq_true, ih, List.mem_cons]
    constructor
    · rintro (h | ⟨q, hq, h1, h2⟩)
      · by_cases hp : 0 ≤ p
        · rw [if_pos hp] at h; exact ⟨p, Or.inl rfl, hp, h⟩
        · rw [if_neg hp] at h; simp at h
      · exact ⟨q, Or.inr hq, h1, h2⟩
    · rintro ⟨q, rfl | hq, h1, h2⟩
      · rw [if_pos h1]; exact Or.inl h2
      · exact Or.inr ⟨q, hq, h1, h2⟩
theorem bit_ext {a b : Nat} (h : ∀ j, a.testBit j = true ↔ b.testBit j = true) : a = b := by
  apply Nat.eq_of_testBit_eq
  intro j
  have := h j
  cases h1 : a.testBit j <;> cases h2 : b.testBit j <;> simp_all
theorem nextU_or (s : St) (a b : Nat) : nextU s (posI (a ||| b)) = nextU s (posI a) ||| nextU s (posI b) := by
  apply bit_ext
  intro j
  rw [Nat.testBit_or, Bool.or_eq_true, nextU_bit, nextU_bit, nextU_bit]
  simp only [mem_posI, inM_or, Bool.or_eq_true]
  constructor
  · rintro ⟨v, ⟨p, rfl, h | h⟩, h1, h2⟩
    · exact Or.inl ⟨_, ⟨p, rfl, h⟩, h1, h2⟩
    · exact Or.inr ⟨_, ⟨p, rfl, h⟩, h1, h2⟩
  · rintro (⟨v, ⟨p, rfl, h⟩, h1, h2⟩ | ⟨v, ⟨p, rfl, h⟩, h1, h2⟩)
    · exact ⟨_, ⟨p, rfl, Or.inl h⟩, h1, h2⟩
    · exact ⟨_, ⟨p, rfl, Or.inr h⟩, h1, h2⟩
theorem stepM_append (se : Bool) (s : St) (a b : List Int) (m : Int) : stepM se s (a ++ b) m = stepM se s a m ||| stepM se s b m := by
  apply bit_ext
  intro j
  unfold stepM
  cases se <;> simp only [nextU_append, Nat.testBit_or, Nat.testBit_and, Bool.or_eq_true, Bool.and_eq_true, if_true, if_false, Bool.false_eq_true]
  · constructor
    · rintro ⟨h1 | h1, h2⟩
      · exact Or.inl ⟨h1, h2⟩
      · exact Or.inr ⟨h1, h2⟩
    · rintro (⟨h1, h2⟩ | ⟨h1, h2⟩)
      · exact ⟨Or.inl h1, h2⟩
      · exact ⟨Or.inr h1, h2⟩
  · constructor
    · rintro (⟨h1 | h1, h2⟩ | h3)
      · exact Or.inl (Or.inl ⟨h1, h2⟩)
      · exact Or.inr (Or.inl ⟨h1, h2⟩)
      · exact Or.inl (Or.inr h3)
    · rintro ((⟨h1, h2⟩ | h3) | (⟨h1, h2⟩ | h3))
      · exact Or.inl ⟨Or.inl h1, h2⟩
      · exact Or.inr h3
      · exact Or.inl ⟨Or.inr h1, h2⟩
      · exact Or.inr h3
/-- No leaf follows a number beyond the sets. -/
def Near (s : St) : Prop := ∀ p, 1024 ≤ p → s.next p = 0
theorem near_link {s : St} (h : Near s) (a b : Nat) : Near (s.link a b) := by
  intro p hp
  have : inM a p = false := by unfold inM; simp; omega
  simp [St.link, this, h p hp]
theorem near_tell {s : St} (h : Near s) (a b : Nat) : Near (s.tell a b) := h
theorem near_leaf {s : St} (h : Near s) (k c : Int) : Near (s.leaf k c) := h
mutual
theorem near_readE : ∀ (e : E) (s : St), Near s → Near (readE e s).1
  | .mk k c ks, s, h => by
    unfold readE
    split
    · exact h
    · split
      · exact near_seqL ks s _ h
      · split
        · exact near_altL ks s _ h
        · split
          · exact near_link (near_headL ks s h) _ _
          · split
            · exact near_link (near_headL ks s h) _ _
            · split
              · exact near_headL ks s h
              · exact near_leaf h _ _
theorem near_headL : ∀ (ks : List E) (s : St), Near s → Near (readE.headL ks s).1
  | [], _, h => h
  | e :: _, s, h => near_readE e s h
theorem near_seqL : ∀ (ks : List E) (s : St) (a : Sp), Near s → Near (readE.seqL ks s a).1
  | [], _, _, h => h
  | e :: r, s, a, h => by
    unfold readE.seqL
    exact near_seqL r _ _ (near_link (near_readE e s h) _ _)
theorem near_altL : ∀ (ks : List E) (s : St) (a : Sp), Near s → Near (readE.altL ks s a).1
  | [], _, _, h => h
  | e :: r, s, a, h => by
    unfold readE.altL
    exact near_altL r _ _ (near_readE e s h)
end
theorem near_addE {s : St} (h : Near s) (e : E) (b : Nat) : Near (addE s e b) := by
  unfold addE
  dsimp only
  split
  · exact near_tell (near_tell (near_link (near_readE e s h) _ _) _ _) _ _
  · exact near_tell (near_link (near_readE e s h) _ _) _ _
theorem near_mkL : ∀ (l : List E) (i : Nat) (s : St), Near s → Near (mkL l i s)
  | [], _, _, h => h
  | e :: r, i, _s, h => near_mkL r (i + 1) _ (near_addE h e _)
theorem near_mkN (l : List E) : Near (mkN l) := near_mkL l 0 _ (fun _ _ => rfl)
theorem stepM_far (se : Bool) {s : St} (h : Near s) (a b m : Int) (x : List Int) (ha : a < 0) (hb : 1024 ≤ b) : stepM se s (a :: b :: x) m = stepM se s x m := by
  unfold stepM
  have e : nextU s (a :: b :: x) = nextU s x := by
    simp only [nextU]
    rw [if_neg (by omega), if_pos (by omega), h _ (by omega)]
    simp
  rw [e]
end Go.Proofs.YtmldgfplnacecaaDoor

namespace Go.Proofs.YtmldgfplnacecaaDoor
open Go.RowKit Go.Shelf Go.Lib Go.Great

def plL (m : Nat) : List Value := (List.range 16).map fun i => .int .u64 (wd m i : Nat)
theorem plL_len (m : Nat) : (plL m).length = 16 := by simp [plL]
theorem plL_get (m i : Nat) (h : i < 16) : (plL m)[i]? = some (.int .u64 (wd m i : Nat)) := by simp [plL, h]
theorem plL_one (m : Nat) : (plL m).toArray.all (·.oneCell') = true := by
  rw [Array.all_eq_true_iff_forall_mem]
  intro v hv
  simp only [List.mem_toArray, plL, List.mem_map] at hv
  obtain ⟨j, _, rfl⟩ := hv
  rfl
theorem size70 : (Tryd.prog.info? 106).map (·.size) = some 16 := by kernel_rfl
theorem pl_index (m j : Nat) (hj : j < 16) (w : World) : (Instr.index 106 (.agg (plL m).toArray) (.int .i64 (j : Int))).run Tryd.prog w = .ok (.int .u64 (wd m j : Nat)) w := by
  have h := plL_get m j hj
  have hl := plL_len m
  have hE : (plL m).toArray[j]? = some (.int .u64 (wd m j : Nat)) := by simpa using h
  simp [Instr.index, asIntOf, run_underlying Tryd.underlying106, part, Tryd.isAgg37, Tryd.sizeOf37, Sem.run_bind, Result.andThen, h, go_sem]
  omega
/-- Sixteen words from offset o on, which may be written. -/
def PlAt (w : World) (b o m : Nat) : Prop := ∀ i, i < 16 → w.cell? ⟨b, o + i, none⟩ = some (.int .u64 (wd m i : Nat)) ∧ w.frozen? ⟨b, o + i, none⟩ = false
theorem PlAt.lt {w : World} {b o m : Nat} (h : PlAt w b o m) : b < w.heap.size := by
  have := (h 0 (by omega)).1
  unfold World.cell? at this
  cases hb : w.heap[b]? with
  | none => simp [hb] at this
  | some x => exact (Array.getElem?_eq_some_iff.1 hb).1
theorem PlAt.range {w : World} {b o m : Nat} (h : PlAt w b o m) : w.rangeAt b o (plL m) := by
  intro j v hv
  have hj : j < 16 := by have := (List.getElem?_eq_some_iff.1 hv).1; rw [plL_len] at this; exact this
  rw [plL_get m j hj] at hv
  rw [(h j hj).1]
  exact hv
theorem PlAt.block {w w' : World} {b o m : Nat} (h : PlAt w b o m) (hb : w'.heap[b]? = w.heap[b]?) : PlAt w' b o m := fun i hi =>
  ⟨(World.cell?_of_block (w := w) (w' := w') (a := ⟨b, o + i, none⟩) hb).trans (h i hi).1, (World.frozen?_of_block (w := w) (w' := w') (a := ⟨b, o + i, none⟩) hb).trans (h i hi).2⟩
/-- Behind the call one set has turned, and nothing else. -/
structure PlSet (w w' : World) (b o m : Nat) : Prop where
  grown : w.grownBy w' (some b)
  at_ : PlAt w' b o m
  cell : ∀ j, j < o ∨ o + 16 ≤ j → w'.cell? ⟨b, j, none⟩ = w.cell? ⟨b, j, none⟩
  frozen : ∀ j, j < o ∨ o + 16 ≤ j → w'.frozen? ⟨b, j, none⟩ = w.frozen? ⟨b, j, none⟩
/-- The words up to k are those of one set, from there on those of the other. -/
def Mix (w : World) (b o m m' k : Nat) : Prop := ∀ i, i < 16 → w.cell? ⟨b, o + i, none⟩ = some (.int .u64 ((if i < k then wd m' i else wd m i : Nat) : Int)) ∧ w.frozen? ⟨b, o + i, none⟩ = false
theorem Mix.zero {w : World} {b o m m' : Nat} (h : PlAt w b o m) : Mix w b o m m' 0 := fun i hi => by simpa using h i hi
theorem Mix.full {w : World} {b o m m' : Nat} (h : Mix w b o m m' 16) : PlAt w b o m' := fun i hi => by have := h i hi; rw [if_pos hi] at this; exact this
theorem Mix.step {w : World} {b o m m' k : Nat} (h : Mix w b o m m' k) (hk : k < 16) : Mix (w.setCell ⟨b, o + k, none⟩ (.int .u64 (wd m' k : Nat))) b o m m' (k + 1) := fun i hi => by
  obtain ⟨h1, h2⟩ := h i hi
  by_cases e : i = k
  · subst e
    rw [if_pos (by omega)]
    exact ⟨World.cell?_setCell_same _ _ _ h1, by simpa using h2⟩
  · have : (⟨b, o + k, none⟩ : Addr) ≠ ⟨b, o + i, none⟩ := by intro h3; injection h3 with h4 h5; omega
    rw [World.cell?_setCell_other _ _ _ _ this]
    refine ⟨?_, by simpa using h2⟩
    rw [h1]
    by_cases c : i < k
    · rw [if_pos c, if_pos (by omega)]
    · rw [if_neg c, if_neg (by omega)]

theorem Mix.drew {w : World} {b o m m' k : Nat} (h : Mix w b o m m' k) : Mix w.drew b o m m' k := h
/-- In the midst of the loop. -/
structure Mid (w wr : World) (b o m m' k : Nat) : Prop where
  mix : Mix wr b o m m' k
  grown : w.grownBy wr (some b)
  cell : ∀ j, j < o ∨ o + 16 ≤ j → wr.cell? ⟨b, j, none⟩ = w.cell? ⟨b, j, none⟩
  frozen : ∀ j, j < o ∨ o + 16 ≤ j → wr.frozen? ⟨b, j, none⟩ = w.frozen? ⟨b, j, none⟩
theorem Mid.start {w : World} {b o m m' : Nat} (h : PlAt w b o m) (ob : Obj) : Mid w (w.alloc ob) b o m m' 0 := by
  have hb : (w.alloc ob).heap[b]? = w.heap[b]? := Below.heap_alloc w ob b h.lt
  exact ⟨Mix.zero (h.block hb), World.grownBy_alloc _ _ _, fun j _ => World.cell?_of_block (a := ⟨b, j, none⟩) hb, fun j _ => World.frozen?_of_block (a := ⟨b, j, none⟩) hb⟩
theorem Mid.step {w wr : World} {b o m m' k : Nat} (h : Mid w wr b o m m' k) (hk : k < 16) : Mid w (wr.setCell ⟨b, o + k, none⟩ (.int .u64 (wd m' k : Nat))).drew b o m m' (k + 1) := by
  refine ⟨(h.mix.step hk).drew, ?_, fun j hj => ?_, fun j hj => ?_⟩
  · have g2 : wr.grownBy (wr.setCell ⟨b, o + k, none⟩ (.int .u64 (wd m' k : Nat))).drew (some b) := ⟨rfl, rfl, rfl, by simp [World.setCell, World.drew], fun i _ hi => Below.heap_setCell _ _ _ _ (fun e => hi (by rw [e]))⟩
    exact h.grown.trans g2
  · show (wr.setCell ⟨b, o + k, none⟩ (.int .u64 (wd m' k : Nat))).cell? ⟨b, j, none⟩ = _
    rw [World.cell?_setCell_other _ _ _ _ (by intro h3; injection h3 with h4 h5; omega)]
    exact h.cell j hj
  · show (wr.setCell ⟨b, o + k, none⟩ (.int .u64 (wd m' k : Nat))).frozen? ⟨b, j, none⟩ = _
    rw [World.frozen?_setCell]
    exact h.frozen j hj
theorem Mid.full {w wr : World} {b o m m' : Nat} (h : Mid w wr b o m m' 16) : PlSet w wr b o m' := ⟨h.grown, h.mix.full, h.cell, h.frozen⟩

set_option maxHeartbeats 4000000 in
set_option maxRecDepth 100000 in
theorem padd_any (b o m m2 : Nat) (w : World) (h : PlAt w b o m) : Calls Tryd.prog 55 #[.pointer (some ⟨b, o, none⟩), .agg (plL m2).toArray] w fun e w' => e = .returned (.tuple #[]) ∧ PlSet w w' b o (m ||| m2) := by
  have HX := Lib.hid (fun j hj w => pl_index m2 j hj w)
  have HS := Lib.hid (show (plL m2).toArray.size = 16 by simp [plL_len m2])
  generalize (plL m2).toArray = B at *
  have H0 := Lib.hid (fun ob => Mid.start (m' := m ||| m2) h ob)
  clear h
  go_enter Tryd.func55, Tryd.ntmps55
  go_wp2_with (first
    | (refine wpList_load_row rfl 106 (.tmp 3) rfl w.heap.size rfl 106 B (0, 0) (.array 16 37) (heap_alloc_new _ _) Tryd.underlying106 rfl (by rw [size70, HS.out]) ?_)
    | fail)
  go_loopw [7] (fun i wr => ∃ k : Nat, i = .int .i64 (k : Int) ∧ k ≤ 16 ∧ Mid w wr b o m (m ||| m2) k) (fun i _ => 16 - (RowKit.intOf i).toNat)
  case atStart => exact ⟨0, rfl, Nat.zero_le _, H0.out _⟩
  case round =>
    obtain ⟨k, rfl, hk, hM⟩ := hrel
    by_cases hlt : k < 16
    · have i1 : (k : Int) < 16 := by omega
      have hx := HX.out k hlt
      obtain ⟨c1, f1⟩ := hM.mix k hlt
      rw [if_neg (by omega)] at c1
      have hS := hM.step hlt
      have HB := Lib.hid (show bits .or .u64 ((wd m k : Nat) : Int) ((wd m2 k : Nat) : Int) = ((wd (m ||| m2) k : Nat) : Int) by rw [bits_or_u64_nat _ _ (wd_lt _ _) (wd_lt _ _), wd_or])
      rw [← HB.out] at hS
      have hend : ∃ j : Nat, Value.int .i64 ((k : Int) + 1) = .int .i64 (j : Int) ∧ j ≤ 16 ∧ Mid w (wr.setCell ⟨b, o + k, none⟩ (.int .u64 (bits .or .u64 ((wd m k : Nat) : Int) ((wd m2 k : Nat) : Int)))).drew b o m (m ||| m2) j := ⟨k + 1, by simp, by omega, hS⟩
      have HEND := Lib.hid hend
      clear hM hS hend
      go_wp2_with fail
      go_region
      go_wp2_with fail
      go_roundw
      case rel => exact HEND.out
      case measure => simp [RowKit.intOf]; omega
    · obtain rfl : k = 16 := by omega
      have d1 : ¬ ((16 : Nat) : Int) < 16 := by omega
      have HM := Lib.hid hM
      clear hM
      go_wp2_with fail
      go_end0
      exact ⟨rfl, HM.out.full⟩

set_option maxHeartbeats 4000000 in
set_option maxRecDepth 100000 in
theorem pkeep_any (b o m m2 : Nat) (w : World) (h : PlAt w b o m) : Calls Tryd.prog 56 #[.pointer (some ⟨b, o, none⟩), .agg (plL m2).toArray] w fun e w' => e = .returned (.tuple #[]) ∧ PlSet w w' b o (m &&& m2) := by
  have HX := Lib.hid (fun j hj w => pl_index m2 j hj w)
  have HS := Lib.hid (show (plL m2).toArray.size = 16 by simp [plL_len m2])
  generalize (plL m2).toArray = B at *
  have H0 := Lib.hid (fun ob => Mid.start (m' := m &&& m2) h ob)
  clear h
  go_enter Tryd.func56, Tryd.ntmps56
  go_wp2_with (first
    | (refine wpList_load_row rfl 106 (.tmp 3) rfl w.heap.size rfl 106 B (0, 0) (.array 16 37) (heap_alloc_new _ _) Tryd.underlying106 rfl (by rw [size70, HS.out]) ?_)
    | fail)
  go_loopw [7] (fun i wr => ∃ k : Nat, i = .int .i64 (k : Int) ∧ k ≤ 16 ∧ Mid w wr b o m (m &&& m2) k) (fun i _ => 16 - (RowKit.intOf i).toNat)
  case atStart => exact ⟨0, rfl, Nat.zero_le _, H0.out _⟩
  case round =>
    obtain ⟨k, rfl, hk, hM⟩ := hrel
    by_cases hlt : k < 16
    · have i1 : (k : Int) < 16 := by omega
      have hx := HX.out k hlt
      obtain ⟨c1, f1⟩ := hM.mix k hlt
      rw [if_neg (by omega)] at c1
      have hS := hM.step hlt
      have HB := Lib.hid (show bits .and .u64 ((wd m k : Nat) : Int) ((wd m2 k : Nat) : Int) = ((wd (m &&& m2) k : Nat) : Int) by rw [bits_and_u64_nat _ _ (wd_lt _ _) (wd_lt _ _), wd_and])
      rw [← HB.out] at hS
      have hend : ∃ j : Nat, Value.int .i64 ((k : Int) + 1) = .int .i64 (j : Int) ∧ j ≤ 16 ∧ Mid w (wr.setCell ⟨b, o + k, none⟩ (.int .u64 (bits .and .u64 ((wd m k : Nat) : Int) ((wd m2 k : Nat) : Int)))).drew b o m (m &&& m2) j := ⟨k + 1, by simp, by omega, hS⟩
      have HEND := Lib.hid hend
      clear hM hS hend
      go_wp2_with fail
      go_region
      go_wp2_with fail
      go_roundw
      case rel => exact HEND.out
      case measure => simp [RowKit.intOf]; omega
    · obtain rfl : k = 16 := by omega
      have d1 : ¬ ((16 : Nat) : Int) < 16 := by omega
      have HM := Lib.hid hM
      clear hM
      go_wp2_with fail
      go_end0
      exact ⟨rfl, HM.out.full⟩
end Go.Proofs.YtmldgfplnacecaaDoor

namespace Go.Proofs.YtmldgfplnacecaaDoor
open Go.RowKit Go.Shelf Go.Lib Go.Great

def Z70 : Array Value := (List.replicate 16 (Value.int .u64 0)).toArray
theorem Z70_eq : Z70 = (plL 0).toArray := by unfold Z70 plL; simp only [wd_zero]; rfl
/-- A new set. -/
theorem wpList_alloc70 {ops : Array Oper} {rest : List Oper} {o : Oper} {a : Act} {w : World} {Q : Exit → Act → World → Prop} (hg : o.guard = none) (dst : Tmp) (hdst : o.dst = some dst) (ho : o.op = .alloc 106)
    (N : Nat) (hN : w.heap.size = N) (W : World) (hW : w.alloc (.cells Z70 106) = W)
    (h : wpList Tryd.prog ops Q rest (a.put (some dst) (.pointer (some ⟨N, 0, none⟩))) W) : wpList Tryd.prog ops Q (o :: rest) a w := by
  subst hN hW
  refine wpList_allocTo hg (some dst) hdst (.pointer (some ⟨w.heap.size, 0, none⟩)) (.cells Z70 106) ?_ h
  obtain ⟨d, op, t, pos, aft, g⟩ := o
  dsimp only at ho
  subst ho
  kernel_rfl
theorem plAt_new (w : World) : PlAt (w.alloc (.cells Z70 106)) w.heap.size 0 0 := fun i hi => by
  constructor
  · rw [World.cell?_alloc_new, Z70_eq]
    simpa using plL_get 0 i hi
  · exact World.frozen?_alloc_new _ _ _ _
theorem plAt_set {w : World} {b o m m' k : Nat} (h : PlAt w b o m) (hk : k < 16) (hm : ∀ i, i < 16 → wd m' i = if i = k then wd m' k else wd m i) : PlAt (w.setCell ⟨b, o + k, none⟩ (.int .u64 (wd m' k : Nat))) b o m' := fun i hi => by
  obtain ⟨h1, h2⟩ := h i hi
  refine ⟨?_, by simpa using h2⟩
  by_cases e : i = k
  · subst e; exact World.cell?_setCell_same _ _ _ h1
  · rw [World.cell?_setCell_other _ _ _ _ (by intro h3; injection h3 with h4 h5; omega), h1, hm i hi, if_neg e]
theorem plAt_there {w : World} {b o m : Nat} (h : PlAt w b o m) : w.there b o 16 := fun j hj => ⟨by rw [(h j hj).1]; rfl, (h j hj).2⟩
theorem grown_setCells (b : Nat) : ∀ (vs : List Value) (o : Nat) (w : World), w.grownBy (w.setCells b o vs) (some b)
  | [], _, w => World.grownBy.refl w _
  | v :: r, o, w => by
    have g2 : w.grownBy (w.setCell ⟨b, o, none⟩ v) (some b) := ⟨rfl, rfl, rfl, by simp [World.setCell], fun i _ hi => Below.heap_setCell _ _ _ _ (fun e => hi (by rw [e]))⟩
    exact g2.trans (grown_setCells b r (o + 1) _)
theorem plSet_cells {w : World} {b o m : Nat} (m' : Nat) (h : PlAt w b o m) : PlSet w (w.setCells b o (plL m').toArray.toList) b o m' := by
  have hl := plL_len m'
  simp only
  refine ⟨grown_setCells _ _ _ _, fun i hi => ⟨?_, ?_⟩, fun j hj => ?_, fun j hj => World.frozen?_setCells _ _ _ _ _⟩
  · rw [World.cell?_setCells_in b (plL m') o w (fun j hj => by rw [(h j (by omega)).1]; rfl) i (by omega)]
    have := plL_get m' i hi
    rw [List.getElem?_eq_getElem (by omega)] at this
    exact this
  · rw [World.frozen?_setCells]; exact (h i hi).2
  · exact World.cell?_setCells_out _ _ _ _ _ (fun _ _ => by rw [hl]; exact hj)
/-- A set is stored. -/
theorem wpList_storePl {ops : Array Oper} {rest : List Oper} {o : Oper} {a : Act} {w : World} {Q : Exit → Act → World → Prop} (hg : o.guard = none) (x y : Operand) (ho : o.op = .store 106 x y) (hd : o.dst = none)
    (b off m m' : Nat) (hx : a.eval x = .pointer (some ⟨b, off, none⟩)) (hy : a.eval y = .agg (plL m').toArray) (hat : PlAt w b off m)
    (h : ∀ W, PlSet w W b off m' → wpList Tryd.prog ops Q rest a W) : wpList Tryd.prog ops Q (o :: rest) a w := by
  refine wpList_store_mid hg 106 x y ho b off (plL m').toArray hx hy (by simpa [plL_len] using plAt_there hat) (by rw [size70]; simp [plL_len]) (plL_one _) ?_
  rw [hd]
  exact h _ (plSet_cells m' hat)
/-- A set is loaded. -/
theorem wpList_loadPl {ops : Array Oper} {rest : List Oper} {o : Oper} {a : Act} {w : World} {Q : Exit → Act → World → Prop} (hg : o.guard = none) (x : Operand) (ho : o.op = .load 106 x)
    (b off m : Nat) (hx : a.eval x = .pointer (some ⟨b, off, none⟩)) (hat : PlAt w b off m)
    (h : wpList Tryd.prog ops Q rest (a.put o.dst (.agg (plL m).toArray)) w) : wpList Tryd.prog ops Q (o :: rest) a w :=
  wpList_load_mid hg 106 x ho b off hx (plL m) (.array 16 37) hat.range Tryd.underlying106 rfl (by rw [plL_len]; exact size70) h
theorem results_pl {fn : Func} {t : Tmp} (h : fn.results = #[.cell t 106]) (tmps : Array Value) (w : World) (b off m : Nat) (hp : tmps.getD t undef = .pointer (some ⟨b, off, none⟩)) (hat : PlAt w b off m) :
    (results fn tmps).run Tryd.prog w = .ok (.agg (plL m).toArray) w := by
  have hp' : tmps[t]?.getD undef = .pointer (some ⟨b, off, none⟩) := by simpa using hp
  simp [results, h, hp', asAddr, run_loadVar_mid w b off 106 (plL m) (.array 16 37) hat.range Tryd.underlying106 rfl (by rw [plL_len]; exact size70)]
theorem below_grown {w w' : World} {b B : Nat} (h : w.grownBy w' (some b)) (hB : B ≤ b) (hs : B ≤ w.heap.size) : Below B w w' :=
  ⟨h.os, h.tape, h.output, h.size, fun k hk => h.block k (by omega) (by simp; omega)⟩
theorem wrap_small (x : Nat) (h : x < 18446744073709551616) : IntKind.u64.wrap (x : Int) = (x : Int) := by rw [IntKind.wrap_u64]; omega
theorem wrap_pow (k : Nat) (hk : k < 64) : IntKind.u64.wrap ((2 : Int) ^ k) = ((2 ^ k : Nat) : Int) := by
  have h1 : (2 : Nat) ^ k < 2 ^ 64 := Nat.pow_lt_pow_right (by omega) (by omega)
  have h2 : ((2 : Int) ^ k) = ((2 ^ k : Nat) : Int) := (Int.natCast_pow 2 k).symm
  rw [h2]
  exact wrap_small _ h1
set_option maxHeartbeats 4000000 in
set_option maxRecDepth 100000 in
theorem only_any (p : Nat) (w : World) (hp : p < 1024) : Calls Tryd.prog 57 #[.int .i64 (p : Int)] w fun e w' => e = .returned (.agg (plL (2 ^ p)).toArray) ∧ Below w.heap.size w w' := by
  obtain ⟨N0, hN0⟩ : ∃ N, w.heap.size = N := ⟨_, rfl⟩
  obtain ⟨W1, hW1⟩ : ∃ W, w.alloc (.cells Z70 106) = W := ⟨_, rfl⟩
  obtain ⟨N1, hN1⟩ : ∃ N, W1.heap.size = N := ⟨_, rfl⟩
  obtain ⟨W2, hW2⟩ : ∃ W, W1.alloc (.cells Z70 106) = W := ⟨_, rfl⟩
  have hk : p / 64 < 16 := by omega
  have hlt : N0 < N1 := by rw [← hN1, ← hW1, ← hN0]; simp
  have a0 : PlAt W2 N0 0 0 := by
    have h1 : PlAt W1 N0 0 0 := by rw [← hW1, ← hN0]; exact plAt_new w
    refine h1.block ?_
    rw [← hW2]; exact Below.heap_alloc _ _ _ (by omega)
  have a1 : PlAt W2 N1 0 0 := by rw [← hW2, ← hN1]; exact plAt_new W1
  have hb : Below N0 w W2 := by rw [← hW2, ← hW1]; exact ((Below.refl _ _).alloc (by omega) _).alloc (by simp; omega) _
  have hsz : N0 ≤ W2.heap.size := by have := hb.size; omega
  have c1 := (a1 _ hk).1
  have f1 := (a1 _ hk).2
  rw [wd_zero, Nat.zero_add] at c1
  rw [Nat.zero_add] at f1
  have hv : IntKind.u64.wrap ((2 : Int) ^ (p % 64)) = ((wd (2 ^ p) (p / 64) : Nat) : Int) := by
    rw [wd_pow, if_pos rfl]
    exact wrap_pow _ (by omega)
  have a2 : PlAt (W2.setCell ⟨N1, p / 64, none⟩ (.int .u64 (IntKind.u64.wrap ((2 : Int) ^ (p % 64))))) N1 0 (2 ^ p) := by
    rw [hv]
    have := plAt_set (m' := 2 ^ p) a1 hk (fun i hi => by
      by_cases e : i = p / 64
      · rw [if_pos e, e]
      · rw [if_neg e, wd_pow, if_neg e, wd_zero])
    rwa [Nat.zero_add] at this
  have b2 : PlAt (W2.setCell ⟨N1, p / 64, none⟩ (.int .u64 (IntKind.u64.wrap ((2 : Int) ^ (p % 64))))) N0 0 0 := a0.block (Below.heap_setCell _ _ _ _ (by simp; omega))
  have hb2 : Below N0 w (W2.setCell ⟨N1, p / 64, none⟩ (.int .u64 (IntKind.u64.wrap ((2 : Int) ^ (p % 64))))) := hb.setCell (by simp; omega) _
  have HN0 := Lib.hid hN0
  have HN1 := Lib.hid hN1
  have HW1 := Lib.hid hW1
  have HW2 := Lib.hid hW2
  have H1 := Lib.hid (And.intro a2 (And.intro b2 (And.intro hb2 hsz)))
  rw [hN0]
  clear hN0 hN1 hW1 hW2 a1 a2 b2 hb hb2 a0 hv hlt hsz
  go_enter Tryd.func57, Tryd.ntmps57
  go_wp2_with (first
    | (refine wpList_alloc70 rfl 2 rfl rfl N0 HN0.out W1 HW1.out ?_)
    | (refine wpList_alloc70 rfl 3 rfl rfl N1 HN1.out W2 HW2.out ?_)
    | (refine wpList_loadPl rfl (.tmp 3) rfl N1 0 (2 ^ p) rfl H1.out.1 ?_)
    | (refine wpList_storePl rfl (.tmp 2) (.tmp 10) rfl rfl N0 0 0 (2 ^ p) rfl rfl H1.out.2.1 ?_)
    | fail)
  intro W hW
  have HW := Lib.hid hW
  clear hW
  go_wp2_with fail
  refine bodyPost_ret (v := .agg (plL (2 ^ p)).toArray) (results_pl rfl _ _ N0 0 (2 ^ p) rfl HW.out.at_) rfl ⟨rfl, ?_⟩
  exact H1.out.2.2.1.trans (below_grown HW.out.grown (Nat.le_refl _) (by have := H1.out.2.2.2; simp [World.setCell]; omega))
end Go.Proofs.YtmldgfplnacecaaDoor

namespace Go.Proofs.YtmldgfplnacecaaDoor
open Go.RowKit Go.Shelf Go.Lib Go.Great

theorem ones_le (X : Int) : ∃ r : Nat, Ending.returned (.int .i64 (bits .and .i64 X 127)) = .returned (.int .i64 (r : Int)) ∧ r ≤ 127 := by
  rw [i64_and127]
  exact ⟨(X % 128).toNat, by rw [Int.toNat_of_nonneg (by omega)], by omega⟩
set_option maxHeartbeats 4000000 in
set_option maxRecDepth 100000 in
theorem ones_any (x : Int) (w : World) : Calls Tryd.prog 97 #[.int .u64 x] w fun e w' => (∃ r : Nat, e = .returned (.int .i64 (r : Int)) ∧ r ≤ 127) ∧ w' = w := by
  go_enter Tryd.func97, Tryd.ntmps97
  go_wp2_with fail
  go_ret
  exact ⟨ones_le _, rfl⟩
/-- The table of math/bits. -/
def TZ (w : World) : Prop := TabAt 0 Lib.deBruijn64tab w
theorem TZ.block {w w' : World} (h : TZ w) (hb : w'.heap[0]? = w.heap[0]?) : TZ w' := fun j hj => (World.cell?_of_block (w := w) (w' := w') (a := ⟨0, j, none⟩) hb).trans (h j hj)
theorem TZ.lt {w : World} (h : TZ w) : 0 < w.heap.size := by
  have := h 0 (by decide)
  unfold World.cell? at this
  cases hb : w.heap[0]? with
  | none => simp [hb] at this
  | some x => exact (Array.getElem?_eq_some_iff.1 hb).1
theorem TZ.below {w w' : World} {B : Nat} (h : TZ w) (hb : Below B w w') (hB : 0 < B) : TZ w' := h.block (hb.block 0 hB)
theorem TZ.grown {w w' : World} {b : Nat} (h : TZ w) (hg : w.grownBy w' (some b)) (hB : 0 < b) : TZ w' := h.block (hg.block 0 h.lt (by simp; omega))
set_option maxHeartbeats 4000000 in
set_option maxRecDepth 100000 in
theorem tz_core (x k idx : Nat) (w : World) (hx0 : ((x : Int) == 0) = false)
    (key : IntKind.u64.wrap (bits BinOp.and IntKind.u64 (x : Int) (IntKind.u64.wrap (-(x : Int))) * 285870213051353865) / 288230376151711744 = (idx : Int))
    (hi : idx < 64) (hk : k < 64) (hcell : w.cell? ⟨0, idx, none⟩ = some (.int .u8 k)) :
    Calls Tryd.prog 86 #[.int .u64 x] w fun e w' => e = .returned (.int .i64 k) ∧ w' = w := by
  go_enter Tryd.func86, Tryd.ntmps86
  go_wp2_with (simp only [key])
  go_ret
  exact ⟨rfl, rfl⟩
theorem tz_any (x : Nat) (hx : x < 18446744073709551616) (h0 : x ≠ 0) (w : World) (hT : TZ w) :
    Calls Tryd.prog 86 #[.int .u64 x] w fun e w' => e = .returned (.int .i64 (Lib.ctz 64 x : Nat)) ∧ w' = w := by
  obtain ⟨hlow, hk⟩ := Lib.lowest_bit 64 x h0 hx
  obtain ⟨hi, htab⟩ := Lib.deBruijn64_at _ hk
  have hcell := hT _ hi
  rw [htab] at hcell
  exact tz_core x _ _ w (by simp; omega) (tz64_key x _ hx h0 hlow) hi hk hcell
theorem ctz_form (x : Nat) (hx : x < 18446744073709551616) (h0 : x ≠ 0) : ∃ q, x = 2 ^ Lib.ctz 64 x * (2 * q + 1) ∧ Lib.ctz 64 x < 64 := by
  obtain ⟨q, h1, h2⟩ := Lib.ctzFrom_spec 64 x (by omega) hx
  have e : Lib.ctz 64 x = Lib.ctzFrom 64 x := if_neg h0
  rw [e]
  exact ⟨q, h1, h2⟩
end Go.Proofs.YtmldgfplnacecaaDoor

namespace Go.Proofs.YtmldgfplnacecaaDoor
open Go.RowKit Go.Shelf Go.Lib Go.Great

theorem info3 : (Tryd.prog.info? 3).map (fun i => (i.zero, i.size, i.bytes)) = some (some (.int .i64 0), 1, 8) := by kernel_rfl
set_option maxHeartbeats 4000000 in
set_option maxRecDepth 100000 in
theorem count_any (b o m : Nat) (w : World) (h : PlAt w b o m) : Calls Tryd.prog 85 #[.pointer (some ⟨b, o, none⟩)] w fun e w' => (∃ r : Nat, e = .returned (.int .i64 (r : Int)) ∧ r ≤ 3000) ∧ w' = w := by
  have H := Lib.hid h
  clear h
  go_enter Tryd.func85, Tryd.ntmps85
  go_wp2_with fail
  go_loopw [3, 7] (fun c i wr => ∃ k r : Nat, i = .int .i64 (k : Int) ∧ c = .int .i64 (r : Int) ∧ k ≤ 16 ∧ r ≤ 127 * k ∧ wr = w) (fun _ i _ => 16 - (RowKit.intOf i).toNat)
  case atStart => exact ⟨0, 0, rfl, rfl, by omega, by omega, rfl⟩
  case round =>
    obtain ⟨k, r, rfl, rfl, hk, hr, rfl⟩ := hrel
    by_cases hlt : k < 16
    · have i1 : (k : Int) < 16 := by omega
      have c1 := (H.out k hlt).1
      have C := Lib.hid (fun x => ones_any x wr)
      go_wp2_with fail
      refine (C.out _).mono ?_
      rintro e w2 ⟨⟨q, rfl, hq⟩, rfl⟩
      have hw : wrap64 ((r : Int) + (q : Int)) = (r : Int) + (q : Int) := by unfold wrap64; omega
      have HH := Lib.hid (And.intro hk (And.intro hr hq))
      clear hr hq c1
      go_wp2_with fail
      go_roundw
      case rel => exact ⟨k + 1, r + q, by go_num, by go_num, by omega, by have := HH.out; omega, trivial⟩
      case measure => simp [RowKit.intOf]; omega
    · obtain rfl : k = 16 := by omega
      have d1 : ¬ ((16 : Nat) : Int) < 16 := by omega
      have HR := Lib.hid hr
      clear hr
      go_wp2_with fail
      go_ret
      exact ⟨⟨r, rfl, by have := HR.out; omega⟩, rfl⟩

/-- The cells of a list of places. -/
def cellsP (l : List Nat) : List Value := l.map fun (p : Nat) => Value.int .i64 (p : Int)
theorem cellsP_len (l : List Nat) : (cellsP l).length = l.length := by simp [cellsP]
theorem cellsP_snoc (l : List Nat) (p : Nat) : cellsP (l ++ [p]) = cellsP l ++ [.int .i64 (p : Int)] := by simp [cellsP]
/-- The call's own list of places. -/
def OwnP (w : World) (base : Nat) (l : List Nat) (v : Value) : Prop := w.ownsRow base 3 1 v l.length (cellsP l)
theorem OwnP.grown {w w' : World} {base : Nat} {l : List Nat} {v : Value} (h : OwnP w base l v) (hb : w.grownBy w' none) : OwnP w' base l v := World.ownsRow.kept h hb (by cases v.ownBlock <;> simp)
set_option maxHeartbeats 4000000 in
set_option maxRecDepth 100000 in
theorem list_any (b o m : Nat) (w : World) (h : PlAt w b o m) (hT : TZ w) : Calls Tryd.prog 58 #[.pointer (some ⟨b, o, none⟩)] w fun e w' => ∃ v, e = .returned v ∧ OwnP w' w.heap.size (posL m) v ∧ Below w.heap.size w w' := by
  obtain ⟨i0, hi, hz0, hz1, hz2⟩ := info_parts info3
  have C := Lib.hid (count_any b o m w h)
  have hbl := h.lt
  have H := Lib.hid h
  have HT := Lib.hid hT
  clear h hT
  go_enter Tryd.func58, Tryd.ntmps58
  go_wp2_with fail
  refine C.out.mono ?_
  rintro e w2 ⟨⟨r, rfl, hr⟩, rfl⟩
  go_wp2_with (first
    | (at_make; refine wpList_make_own _ rfl _ _ 23 rfl w2.heap.size 3 i0 (.int .i64 0) 1 Tryd.underlying23 hi hz0 hz1 .i64 .i64 (r : Int) r rfl rfl rfl (by rw [hz2]; omega) (by unfold maxLen; omega) (Nat.le_refl _) ?_; intro w3 ho3 hg3)
    | fail)
  have hb3 : Below w2.heap.size w2 w3 := (Below.refl _ _).grown hg3 (Nat.le_refl _) (fun _ e => by cases e)
  go_loopw [3, 10] (fun v i wr => ∃ k : Nat, i = .int .i64 (k : Int) ∧ k ≤ 16 ∧ OwnP wr w2.heap.size (posN m (64 * k)) v ∧ Below w2.heap.size w2 wr) (fun _ i _ => 16 - (RowKit.intOf i).toNat)
  case atStart => exact ⟨0, rfl, by omega, by simpa [OwnP, posN, cellsP] using ho3, hb3⟩
  case round =>
    obtain ⟨wo, rfl⟩ : ∃ wo : World, wo = wr := ⟨_, rfl⟩
    obtain ⟨k, rfl, hk, hown, hb⟩ := hrel
    by_cases hlt : k < 16
    · have i1 : (k : Int) < 16 := by omega
      have hat : PlAt wo b o m := H.out.block (hb.block b hbl)
      have c1 := (hat k hlt).1
      have HO := Lib.hid (And.intro hown hb)
      clear hown hb hat
      go_wp2_with fail
      go_region
      go_wp2_with fail
      go_loopw [3, 5] (fun v x wr => ∃ t y : Nat, x = .int .u64 (y : Int) ∧ t ≤ 64 ∧ Left m k t y ∧ OwnP wr w2.heap.size (posN m (64 * k + t)) v ∧ Below w2.heap.size w2 wr) (fun _ x _ => (RowKit.intOf x).toNat)
      case atStart => exact ⟨0, wd m k, rfl, by omega, left_start m k, HO.out.1, HO.out.2.drew⟩
      case round =>
        obtain ⟨t, y, rfl, ht, hl, hown, hb⟩ := hrel
        by_cases hy : y = 0
        · subst hy
          have e0 := left_end hlt ht hl
          rw [e0] at hown
          have HW := Lib.hid (And.intro hown hb)
          clear hown hb hl e0
          go_wp2_with fail
          go_roundw
          case rel => exact ⟨k + 1, by go_num, by omega, HW.out.1, HW.out.2⟩
          case measure => simp [RowKit.intOf]; omega
        · have hy1 : ((y : Int) == 0) = false := by simp; omega
          have hy2 : ¬ (y : Int) = 0 := by omega
          obtain ⟨q, hq, hk64⟩ := ctz_form y hl.1 hy
          have hst := left_step hlt hl hq hk64
          have hTw : TZ wr := HT.out.below hb (Nat.lt_of_le_of_lt (Nat.zero_le _) hbl)
          have C2 := Lib.hid (tz_any y hl.1 hy wr hTw)
          have hlt2 : y &&& (y - 1) < y := by have := Nat.and_le_right (n := y) (m := y - 1); omega
          have HB := Lib.hid (show bits .and .u64 (y : Int) (IntKind.u64.wrap ((y : Int) - 1)) = ((y &&& (y - 1) : Nat) : Int) by
            have e1 : IntKind.u64.wrap ((y : Int) - 1) = ((y - 1 : Nat) : Int) := by have := hl.1; rw [IntKind.wrap_u64]; omega
            rw [e1, bits_and_u64_nat _ _ hl.1 (by have := hl.1; omega)])
          generalize Lib.ctz 64 y = z at *
          have hlen := posN_len m (64 * k + t)
          have HW := Lib.hid (And.intro hown (And.intro hb (And.intro hst (And.intro hlt2 hlen))))
          have hw1 : wrap64 ((k : Int) * 64) = (k : Int) * 64 := by unfold wrap64; omega
          have hw2 : wrap64 ((k : Int) * 64 + (z : Int)) = (k : Int) * 64 + (z : Int) := by unfold wrap64; omega
          clear hown hb hl hst hTw hlt2 hq hlen
          go_wp2_with fail
          refine C2.out.mono ?_
          rintro e w4 ⟨rfl, rfl⟩
          go_wp2_with (first
            | (at_builtin; refine wpList_append_own _ rfl _ _ 23 rfl w2.heap.size 3 i0 (.int .i64 0) 1 8 Tryd.underlying23 hi hz0 hz1 hz2 rfl (by decide) _ _ _ rfl (HW.out.1.alloc _) ⟨w4.heap.size, 0, none⟩ 1 1 [.int .i64 ((k : Int) * 64 + (z : Int))] rfl rfl (cell_one_new _ _ _) (by simp [Value.oneCell']) ?c2 ?c3 ?c4 ?_)
            | fail)
          case c2 => unfold maxLen; have := HW.out.2.2.2.2; omega
          case c3 => have := HW.out.2.2.2.2; omega
          case c4 => have := HW.out.2.1.size; simp; omega
          intro v5 w5 hown5 hgrow5 _
          have hb5 : Below w2.heap.size w2 w5 := (HW.out.2.1.alloc HW.out.2.1.size _).grown hgrow5 (by have := HW.out.2.1.size; simp; omega) (fun j hj => (HW.out.1.lt j hj).1)
          have ho5 : OwnP w5 w2.heap.size (posN m (64 * k + (z + 1))) v5 := by
            rw [HW.out.2.2.1.2.1]
            unfold OwnP
            rw [cellsP_snoc]
            have e1 : ((64 * k + z : Nat) : Int) = (k : Int) * 64 + (z : Int) := by omega
            rw [e1]
            simpa using hown5
          have hend : ∃ t y' : Nat, Value.int .u64 (bits .and .u64 (y : Int) (IntKind.u64.wrap ((y : Int) - 1))) = .int .u64 (y' : Int) ∧ t ≤ 64 ∧ Left m k t y' ∧ OwnP w5 w2.heap.size (posN m (64 * k + t)) v5 ∧ Below w2.heap.size w2 w5 :=
            ⟨z + 1, y &&& (y - 1), by rw [HB.out], by omega, HW.out.2.2.1.2.2, ho5, hb5⟩
          have HEND := Lib.hid hend
          clear hown5 hgrow5 hb5 ho5 hend
          go_wp2_with fail
          go_roundw
          case rel => exact HEND.out
          case measure =>
            rw [HB.out]
            have := HW.out.2.2.2.1
            simp [RowKit.intOf]; omega
    · obtain rfl : k = 16 := by omega
      have d1 : ¬ ((16 : Nat) : Int) < 16 := by omega
      have HW := Lib.hid (And.intro hown hb)
      clear hown hb
      go_wp2_with fail
      go_ret
      exact ⟨_, rfl, HW.out.1, HW.out.2⟩
end Go.Proofs.YtmldgfplnacecaaDoor

namespace Go.Proofs.YtmldgfplnacecaaDoor
open Go.RowKit Go.Shelf Go.Lib Go.Great Go.Maps

/-- An element as it stands. -/
def hR (v : Value) : Option (DataW Value × List MemPlace) := some (.held v, [])
/-- A map of ints, as a function. -/
def MapF (w : World) (b n : Nat) (z : Value) (f : Int → Value) : Prop := ∃ D : DataW Value, w.ownsMap Tryd.prog 3 hR b n D ∧ ∀ k : Int, D.atKey (.int .i64 k) (.held z) = .held (f k)
theorem MapF.lt {w : World} {b n : Nat} {z : Value} {f : Int → Value} (h : MapF w b n z f) : b < w.heap.size := by obtain ⟨D, h, _⟩ := h; exact h.lt
theorem MapF.block {w w' : World} {b n : Nat} {z : Value} {f : Int → Value} (h : MapF w b n z f) (hb : w'.heap[b]? = w.heap[b]?) : MapF w' b n z f := by
  obtain ⟨D, ⟨es, clock, h1, h2, h3, h4⟩, hf⟩ := h
  exact ⟨D, ⟨es, clock, hb.trans h1, h2, h3, h4⟩, hf⟩
theorem MapF.congr {w : World} {b n : Nat} {z : Value} {f g : Int → Value} (h : MapF w b n z f) (hfg : ∀ k, f k = g k) : MapF w b n z g := by
  obtain ⟨D, h1, hf⟩ := h
  exact ⟨D, h1, fun k => by rw [hf, hfg]⟩
theorem MapF.mono {w : World} {b n n' : Nat} {z : Value} {f : Int → Value} (h : MapF w b n z f) (hn : n ≤ n') : MapF w b n' z f := by
  obtain ⟨D, h1, hf⟩ := h
  exact ⟨D, h1.mono hn, hf⟩
theorem MapF.made (w : World) (z : Value) : MapF (w.alloc (.map #[] 0)) w.heap.size 0 z (fun _ => z) := ⟨_, World.ownsMap_made _ _ _ _, fun _ => rfl⟩
theorem keyed3 : Keyed Tryd.prog 3 := int_keyed Tryd.underlying3
theorem wf64 {k : Int} (h : i64 k) : (Lit.int .i64 k).wf = true := by simpa [Lit.wf, IntKind.min, IntKind.max, IntKind.signed, IntKind.bits, i64] using h
theorem key64 {k : Int} (h : i64 k) : keyOf Tryd.prog 3 (.int .i64 k) = some (.int .i64 k) := keyOf_int_mk Tryd.underlying3 (wf64 h)
theorem MapF.lookup {w : World} {b n : Nat} {z : Value} {f : Int → Value} (h : MapF w b n z f) {t e : TypeId} (ht : Tryd.prog.underlying t = some (.map 3 e)) (hz : (zeroValue e).run Tryd.prog w = .ok z w) {k : Int} (hk : i64 k) :
    (Instr.lookup t (.map (some b)) (.int .i64 k) false).run Tryd.prog w = .ok (f k) w := by
  obtain ⟨D, h1, hf⟩ := h
  obtain ⟨v, ps, hrun, hv⟩ := h1.lookup keyed3 ht hz (zd := .held z) (zp := []) rfl (key64 hk)
  simp only [hR, Option.some.injEq, Prod.mk.injEq] at hv
  have e : v = f k := by have := hv.1.trans (hf k); injection this
  rw [hrun, e]
theorem MapF.update {w : World} {b n : Nat} {z : Value} {f : Int → Value} (h : MapF w b n z f) {t e : TypeId} (ht : Tryd.prog.underlying t = some (.map 3 e)) (hn : n < maxLen) {k : Int} (hk : i64 k) (v : Value) :
    ∃ w', (Instr.mapUpdate t (.map (some b)) (.int .i64 k) v).run Tryd.prog w = .ok () w' ∧ MapF w' b (n + 1) z (fun j => if j = k then v else f j) ∧ w.grownBy w' (some b) := by
  obtain ⟨D, h1, hf⟩ := h
  obtain ⟨w', hrun, h2, h3⟩ := h1.update keyed3 ht hn (key64 hk) (show hR v = some (.held v, []) from rfl)
  refine ⟨w', hrun, ⟨_, h2, fun j => ?_⟩, h3⟩
  dsimp only
  by_cases e : j = k
  · rw [if_pos e, e]
    exact atKey_put_same h1.isMap (show WideAt.IsKeyLit (.int .i64 k) from trivial) _ _
  · rw [if_neg e, atKey_put_other (by intro h; injection h with _ h; exact e h)]
    exact hf j
theorem wpList_lookupF {ops : Array Oper} {rest : List Oper} {o : Oper} {a : Act} {w : World} {Q : Exit → Act → World → Prop} (hg : o.guard = none) (m x : Operand) (t e : TypeId) (hop : o.op = Op.lookup t m x false)
    (ht : Tryd.prog.underlying t = some (.map 3 e)) (b n : Nat) (z : Value) (f : Int → Value) (h : MapF w b n z f) (hz : (zeroValue e).run Tryd.prog w = .ok z w) (k : Int) (hk : i64 k)
    (hm : a.eval m = .map (some b)) (hx : a.eval x = .int .i64 k)
    (hK : wpList Tryd.prog ops Q rest (a.put o.dst (f k)) w) : wpList Tryd.prog ops Q (o :: rest) a w := by
  refine wpList_plain hg fun K' hK' => ?_
  unfold Oper.wp
  simp [execOp, hop, hm, hx, h.lookup ht hz hk, Result.andThen]
  exact hK' _ _ hK
theorem wpList_updateF {ops : Array Oper} {rest : List Oper} {o : Oper} {a : Act} {w : World} {Q : Exit → Act → World → Prop} (hg : o.guard = none) (m x y : Operand) (t e : TypeId) (hop : o.op = Op.mapUpdate t m x y)
    (ht : Tryd.prog.underlying t = some (.map 3 e)) (b n : Nat) (z : Value) (f : Int → Value) (h : MapF w b n z f) (hn : n < maxLen) (k : Int) (hk : i64 k) (v : Value)
    (hm : a.eval m = .map (some b)) (hx : a.eval x = .int .i64 k) (hy : a.eval y = v)
    (hK : ∀ w', MapF w' b (n + 1) z (fun j => if j = k then v else f j) → w.grownBy w' (some b) → wpList Tryd.prog ops Q rest (a.put o.dst undef) w') : wpList Tryd.prog ops Q (o :: rest) a w := by
  refine wpList_plain hg fun K' hK' => ?_
  obtain ⟨w', hrun, r1, r2⟩ := h.update ht hn hk v
  unfold Oper.wp
  simp [execOp, hop, hm, hx, hy, hrun, Result.andThen]
  exact hK' _ _ (hK w' r1 r2)
theorem zero70 (w : World) : (zeroValue 106).run Tryd.prog w = .ok (.agg (plL 0).toArray) w := by rw [← Z70_eq]; kernel_rfl
theorem zero37 (w : World) : (zeroValue 37).run Tryd.prog w = .ok (.int .u64 0) w := by kernel_rfl

/-- The blocks of an automaton. -/
structure Np where
  b : Nat
  nx : Nat
  tk : Nat
  tl : Nat
def Np.In (q : Np) (k : Nat) : Prop := k = q.b ∨ k = q.nx ∨ k = q.tk ∨ k = q.tl
structure Np.Ok (q : Np) (B : Nat) : Prop where
  b : B ≤ q.b
  nx : B ≤ q.nx
  tk : B ≤ q.tk
  tl : B ≤ q.tl
  d1 : q.b ≠ q.nx
  d2 : q.b ≠ q.tk
  d3 : q.b ≠ q.tl
  d4 : q.nx ≠ q.tk
  d5 : q.nx ≠ q.tl
  d6 : q.tk ≠ q.tl
theorem Np.Ok.out {q : Np} {B k : Nat} (h : q.Ok B) (hk : k < B) : ¬ q.In k := by
  have := h.b; have := h.nx; have := h.tk; have := h.tl
  unfold Np.In; omega
/-- Of what was there only the automaton's own blocks may have turned. -/
structure Kp (q : Np) (w w' : World) : Prop where
  os : w'.os = w.os
  tape : w'.tape = w.tape
  output : w'.output = w.output
  size : w.heap.size ≤ w'.heap.size
  block : ∀ k, k < w.heap.size → ¬ q.In k → w'.heap[k]? = w.heap[k]?
theorem Kp.refl (q : Np) (w : World) : Kp q w w := ⟨rfl, rfl, rfl, Nat.le_refl _, fun _ _ _ => rfl⟩
theorem Kp.trans {q : Np} {a b c : World} (h : Kp q a b) (k : Kp q b c) : Kp q a c :=
  ⟨k.os.trans h.os, k.tape.trans h.tape, k.output.trans h.output, Nat.le_trans h.size k.size, fun i hi hn => (k.block i (Nat.lt_of_lt_of_le hi h.size) hn).trans (h.block i hi hn)⟩
theorem Kp.of_below {q : Np} {a b : World} (h : Below a.heap.size a b) : Kp q a b := ⟨h.os, h.tape, h.output, h.size, fun k hk _ => h.block k hk⟩
theorem Kp.below {q : Np} {a b c : World} (h : Kp q a b) (k : Below b.heap.size b c) : Kp q a c := h.trans (.of_below k)
theorem Kp.of_grown {q : Np} {a b : World} {x : Nat} (h : a.grownBy b (some x)) (hx : q.In x) : Kp q a b := ⟨h.os, h.tape, h.output, h.size, fun k hk hn => h.block k hk (fun e => hn (by injection e with e; rw [e]; exact hx))⟩
/-- .. or a block that was made since. -/
theorem Kp.grown {q : Np} {a b c : World} {x : Nat} (h : Kp q a b) (k : b.grownBy c (some x)) (hx : q.In x ∨ a.heap.size ≤ x) : Kp q a c :=
  ⟨k.os.trans h.os, k.tape.trans h.tape, k.output.trans h.output, Nat.le_trans h.size k.size, fun i hi hn => (k.block i (Nat.lt_of_lt_of_le hi h.size) (fun e => by
    injection e with e
    rcases hx with hx | hx
    · exact hn (by rw [e]; exact hx)
    · omega)).trans (h.block i hi hn)⟩
theorem Kp.alloc {q : Np} {a b : World} (h : Kp q a b) (o : Obj) : Kp q a (b.alloc o) := h.below (below_new b o)
theorem Kp.drew {q : Np} {a b : World} (h : Kp q a b) : Kp q a b.drew := h.trans ⟨rfl, rfl, rfl, Nat.le_refl _, fun _ _ _ => rfl⟩
/-- Below the automaton nothing has turned. -/
theorem Kp.under {q : Np} {B : Nat} {a b : World} (h : Kp q a b) (hq : q.Ok B) (hB : B ≤ a.heap.size) : Below B a b := ⟨h.os, h.tape, h.output, h.size, fun k hk => h.block k (by omega) (hq.out hk)⟩
theorem Kp.pl {q : Np} {a b : World} (h : Kp q a b) {g o m : Nat} (hg : ¬ q.In g) (hp : PlAt a g o m) : PlAt b g o m := hp.block (h.block g hp.lt hg)
theorem Kp.tz {q : Np} {a b : World} (h : Kp q a b) (hT : TZ a) (hq : ¬ q.In 0) : TZ b := hT.block (h.block 0 hT.lt hq)
def plV (m : Nat) : Value := .agg (plL m).toArray
/-- An automaton. -/
structure NfaAt (w : World) (q : Np) (n : Nat) (se : Bool) (s : St) : Prop where
  c0 : w.cell? ⟨q.b, 0, none⟩ = some (.bool se)
  c1 : w.cell? ⟨q.b, 1, none⟩ = some (.int .i64 (s.count : Int))
  c2 : w.cell? ⟨q.b, 2, none⟩ = some (.map (some q.nx))
  c3 : w.cell? ⟨q.b, 3, none⟩ = some (.map (some q.tk))
  c4 : w.cell? ⟨q.b, 4, none⟩ = some (.map (some q.tl))
  f1 : w.frozen? ⟨q.b, 1, none⟩ = false
  mN : MapF w q.nx n (plV 0) (fun p => plV (if 0 ≤ p then s.next p.toNat else 0))
  mT : MapF w q.tk n (plV 0) (fun p => plV (takersI s p))
  mL : MapF w q.tl n (.int .u64 0) (fun p => .int .u64 ((if 0 ≤ p then s.tells p.toNat else 0 : Nat) : Int))
  t : ∀ p, s.tells p < 18446744073709551616
theorem cell_lt {w : World} {a : Addr} {v : Value} (h : w.cell? a = some v) : a.block < w.heap.size := by
  unfold World.cell? at h
  cases hb : w.heap[a.block]? with
  | none => simp [hb] at h
  | some x => exact (Array.getElem?_eq_some_iff.1 hb).1
theorem NfaAt.blocks {w w' : World} {q : Np} {n : Nat} {se : Bool} {s : St} (h : NfaAt w q n se s) (hb : ∀ k, q.In k → w'.heap[k]? = w.heap[k]?) : NfaAt w' q n se s := by
  have h0 := hb q.b (.inl rfl)
  have c := fun j => World.cell?_of_block (w := w) (w' := w') (a := ⟨q.b, j, none⟩) h0
  exact ⟨(c 0).trans h.c0, (c 1).trans h.c1, (c 2).trans h.c2, (c 3).trans h.c3, (c 4).trans h.c4, (World.frozen?_of_block (w := w) (w' := w') (a := ⟨q.b, 1, none⟩) h0).trans h.f1,
    h.mN.block (hb _ (.inr (.inl rfl))), h.mT.block (hb _ (.inr (.inr (.inl rfl)))), h.mL.block (hb _ (.inr (.inr (.inr rfl)))), h.t⟩
theorem NfaAt.lt {w : World} {q : Np} {n : Nat} {se : Bool} {s : St} (h : NfaAt w q n se s) {k : Nat} (hk : q.In k) : k < w.heap.size := by
  rcases hk with rfl | rfl | rfl | rfl
  · exact cell_lt h.c0
  · exact h.mN.lt
  · exact h.mT.lt
  · exact h.mL.lt
theorem NfaAt.below {w w' : World} {q : Np} {n : Nat} {se : Bool} {s : St} (h : NfaAt w q n se s) (hb : Below w.heap.size w w') : NfaAt w' q n se s := h.blocks fun k hk => hb.block k (h.lt hk)
theorem NfaAt.grown {w w' : World} {q : Np} {n : Nat} {se : Bool} {s : St} {x : Nat} (h : NfaAt w q n se s) (hb : w.grownBy w' (some x)) (hx : ¬ q.In x) : NfaAt w' q n se s :=
  h.blocks fun k hk => hb.block k (h.lt hk) (fun e => hx (by injection e with e; rw [← e]; exact hk))
theorem NfaAt.mono {w : World} {q : Np} {n n' : Nat} {se : Bool} {s : St} (h : NfaAt w q n se s) (hn : n ≤ n') : NfaAt w q n' se s := ⟨h.c0, h.c1, h.c2, h.c3, h.c4, h.f1, h.mN.mono hn, h.mT.mono hn, h.mL.mono hn, h.t⟩
end Go.Proofs.YtmldgfplnacecaaDoor

namespace Go.Proofs.YtmldgfplnacecaaDoor
open Go.RowKit Go.Shelf Go.Lib Go.Great Go.Maps

theorem nat64 {p : Nat} (h : p < 9223372036854775808) : i64 (p : Int) := by unfold i64; omega
theorem wpList_lookN {ops : Array Oper} {rest : List Oper} {o : Oper} {a : Act} {w : World} {Q : Exit → Act → World → Prop} (hg : o.guard = none) (m x : Operand) (hop : o.op = Op.lookup 93 m x false)
    {q : Np} {n : Nat} {se : Bool} {s : St} (h : NfaAt w q n se s) (k : Int) (hk : i64 k) (X : Nat) (hX : (if 0 ≤ k then s.next k.toNat else 0) = X)
    (hm : a.eval m = .map (some q.nx)) (hx : a.eval x = .int .i64 k)
    (hK : wpList Tryd.prog ops Q rest (a.put o.dst (.agg (plL X).toArray)) w) : wpList Tryd.prog ops Q (o :: rest) a w := by
  subst hX
  exact wpList_lookupF hg m x 93 106 hop Tryd.underlying93 q.nx n (plV 0) _ h.mN (zero70 w) k hk hm hx hK
theorem wpList_lookT {ops : Array Oper} {rest : List Oper} {o : Oper} {a : Act} {w : World} {Q : Exit → Act → World → Prop} (hg : o.guard = none) (m x : Operand) (hop : o.op = Op.lookup 93 m x false)
    {q : Np} {n : Nat} {se : Bool} {s : St} (h : NfaAt w q n se s) (k : Int) (hk : i64 k) (X : Nat) (hX : takersI s k = X)
    (hm : a.eval m = .map (some q.tk)) (hx : a.eval x = .int .i64 k)
    (hK : wpList Tryd.prog ops Q rest (a.put o.dst (.agg (plL X).toArray)) w) : wpList Tryd.prog ops Q (o :: rest) a w := by
  subst hX
  exact wpList_lookupF hg m x 93 106 hop Tryd.underlying93 q.tk n (plV 0) _ h.mT (zero70 w) k hk hm hx hK
theorem wpList_lookL {ops : Array Oper} {rest : List Oper} {o : Oper} {a : Act} {w : World} {Q : Exit → Act → World → Prop} (hg : o.guard = none) (m x : Operand) (hop : o.op = Op.lookup 94 m x false)
    {q : Np} {n : Nat} {se : Bool} {s : St} (h : NfaAt w q n se s) (k : Int) (hk : i64 k) (X : Nat) (hX : (if 0 ≤ k then s.tells k.toNat else 0) = X)
    (hm : a.eval m = .map (some q.tl)) (hx : a.eval x = .int .i64 k)
    (hK : wpList Tryd.prog ops Q rest (a.put o.dst (.int .u64 (X : Int))) w) : wpList Tryd.prog ops Q (o :: rest) a w := by
  subst hX
  exact wpList_lookupF hg m x 94 37 hop Tryd.underlying94 q.tl n (.int .u64 0) _ h.mL (zero37 w) k hk hm hx hK
/-- One place's followers are set anew. -/
def St.setN (s : St) (p X : Nat) : St := { s with next := fun r => if r = p then X else s.next r }
def St.setT (s : St) (p X : Nat) : St := { s with takers := fun r => if r = p then X else s.takers r }
def St.setL (s : St) (p X : Nat) : St := { s with tells := fun r => if r = p then X else s.tells r }
theorem wpList_updN {ops : Array Oper} {rest : List Oper} {o : Oper} {a : Act} {w : World} {Q : Exit → Act → World → Prop} (hg : o.guard = none) (m x y : Operand) (hop : o.op = Op.mapUpdate 93 m x y)
    {q : Np} {n B : Nat} {se : Bool} {s : St} (h : NfaAt w q n se s) (hq : q.Ok B) (hn : n < maxLen) (p : Nat) (hp : p < 9223372036854775808) (X : Nat)
    (hm : a.eval m = .map (some q.nx)) (hx : a.eval x = .int .i64 (p : Int)) (hy : a.eval y = .agg (plL X).toArray)
    (hK : ∀ w', NfaAt w' q (n + 1) se (s.setN p X) → w.grownBy w' (some q.nx) → wpList Tryd.prog ops Q rest (a.put o.dst undef) w') : wpList Tryd.prog ops Q (o :: rest) a w := by
  refine wpList_updateF hg m x y 93 106 hop Tryd.underlying93 q.nx n (plV 0) _ h.mN hn (p : Int) (nat64 hp) (plV X) hm hx hy fun w' h1 h2 => hK w' ?_ h2
  have hb := fun k (hk : k < w.heap.size) (hne : k ≠ q.nx) => h2.block k hk (fun e => hne (by injection e))
  have h0 := hb q.b (cell_lt h.c0) hq.d1
  have c := fun j => World.cell?_of_block (w := w) (w' := w') (a := ⟨q.b, j, none⟩) h0
  refine ⟨(c 0).trans h.c0, (c 1).trans h.c1, (c 2).trans h.c2, (c 3).trans h.c3, (c 4).trans h.c4, (World.frozen?_of_block (w := w) (w' := w') (a := ⟨q.b, 1, none⟩) h0).trans h.f1,
    h1.congr fun k => ?_, (h.mT.block (hb _ h.mT.lt (Ne.symm hq.d4))).mono (by omega), (h.mL.block (hb _ h.mL.lt (Ne.symm hq.d5))).mono (by omega), h.t⟩
  dsimp only [St.setN]
  by_cases e : k = (p : Int)
  · subst e; simp
  · rw [if_neg e]
    by_cases h0 : 0 ≤ k
    · rw [if_pos h0, if_pos h0, if_neg (by omega)]
    · rw [if_neg h0, if_neg h0]
theorem wpList_updT {ops : Array Oper} {rest : List Oper} {o : Oper} {a : Act} {w : World} {Q : Exit → Act → World → Prop} (hg : o.guard = none) (m x y : Operand) (hop : o.op = Op.mapUpdate 93 m x y)
    {q : Np} {n B : Nat} {se : Bool} {s : St} (h : NfaAt w q n se s) (hq : q.Ok B) (hn : n < maxLen) (p : Nat) (hp : p < 9223372036854775808) (X : Nat)
    (hm : a.eval m = .map (some q.tk)) (hx : a.eval x = .int .i64 (p : Int)) (hy : a.eval y = .agg (plL X).toArray)
    (hK : ∀ w', NfaAt w' q (n + 1) se (s.setT p X) → w.grownBy w' (some q.tk) → wpList Tryd.prog ops Q rest (a.put o.dst undef) w') : wpList Tryd.prog ops Q (o :: rest) a w := by
  refine wpList_updateF hg m x y 93 106 hop Tryd.underlying93 q.tk n (plV 0) _ h.mT hn (p : Int) (nat64 hp) (plV X) hm hx hy fun w' h1 h2 => hK w' ?_ h2
  have hb := fun k (hk : k < w.heap.size) (hne : k ≠ q.tk) => h2.block k hk (fun e => hne (by injection e))
  have h0 := hb q.b (cell_lt h.c0) hq.d2
  have c := fun j => World.cell?_of_block (w := w) (w' := w') (a := ⟨q.b, j, none⟩) h0
  refine ⟨(c 0).trans h.c0, (c 1).trans h.c1, (c 2).trans h.c2, (c 3).trans h.c3, (c 4).trans h.c4, (World.frozen?_of_block (w := w) (w' := w') (a := ⟨q.b, 1, none⟩) h0).trans h.f1,
    (h.mN.block (hb _ h.mN.lt hq.d4)).mono (by omega), h1.congr fun k => ?_, (h.mL.block (hb _ h.mL.lt (Ne.symm hq.d6))).mono (by omega), h.t⟩
  dsimp only [St.setT, takersI]
  by_cases e : k = (p : Int)
  · subst e; simp
  · rw [if_neg e]
    by_cases h0 : 0 ≤ k
    · rw [if_pos h0, if_pos h0, if_neg (by omega)]
    · rw [if_neg h0, if_neg h0]
theorem wpList_updL {ops : Array Oper} {rest : List Oper} {o : Oper} {a : Act} {w : World} {Q : Exit → Act → World → Prop} (hg : o.guard = none) (m x y : Operand) (hop : o.op = Op.mapUpdate 94 m x y)
    {q : Np} {n B : Nat} {se : Bool} {s : St} (h : NfaAt w q n se s) (hq : q.Ok B) (hn : n < maxLen) (p : Nat) (hp : p < 9223372036854775808) (X : Nat) (hX : X < 18446744073709551616) (Y : Int) (hY : Y = (X : Int))
    (hm : a.eval m = .map (some q.tl)) (hx : a.eval x = .int .i64 (p : Int)) (hy : a.eval y = .int .u64 Y)
    (hK : ∀ w', NfaAt w' q (n + 1) se (s.setL p X) → w.grownBy w' (some q.tl) → wpList Tryd.prog ops Q rest (a.put o.dst undef) w') : wpList Tryd.prog ops Q (o :: rest) a w := by
  subst hY
  refine wpList_updateF hg m x y 94 37 hop Tryd.underlying94 q.tl n (.int .u64 0) _ h.mL hn (p : Int) (nat64 hp) (.int .u64 (X : Int)) hm hx hy fun w' h1 h2 => hK w' ?_ h2
  have hb := fun k (hk : k < w.heap.size) (hne : k ≠ q.tl) => h2.block k hk (fun e => hne (by injection e))
  have h0 := hb q.b (cell_lt h.c0) hq.d3
  have c := fun j => World.cell?_of_block (w := w) (w' := w') (a := ⟨q.b, j, none⟩) h0
  refine ⟨(c 0).trans h.c0, (c 1).trans h.c1, (c 2).trans h.c2, (c 3).trans h.c3, (c 4).trans h.c4, (World.frozen?_of_block (w := w) (w' := w') (a := ⟨q.b, 1, none⟩) h0).trans h.f1,
    (h.mN.block (hb _ h.mN.lt hq.d5)).mono (by omega), (h.mT.block (hb _ h.mT.lt hq.d6)).mono (by omega), h1.congr fun k => ?_, fun r => ?_⟩
  · dsimp only [St.setL]
    by_cases e : k = (p : Int)
    · subst e; simp
    · rw [if_neg e]
      by_cases h0 : 0 ≤ k
      · rw [if_pos h0, if_pos h0, if_neg (by omega)]
      · rw [if_neg h0, if_neg h0]
  · dsimp only [St.setL]
    split
    · exact hX
    · exact h.t r
/-- A list of places, as a slice: where it lies. -/
theorem OwnP.form {w : World} {base : Nat} {l : List Nat} {v : Value} (h : OwnP w base l v) : ∃ A cap, v = .slice A l.length cap ∧ l.length ≤ cap ∧ cap ≤ maxLen ∧ (l ≠ [] → ∃ g, A = some ⟨g, 0, none⟩ ∧ base ≤ g ∧ g < w.heap.size ∧ ∀ (i p : Nat), l[i]? = some p → w.cell? ⟨g, i, none⟩ = some (.int .i64 (p : Int))) := by
  rcases h.2 with ⟨h1, h2⟩ | ⟨g, cap, cur, h1, h2, h3, h4, h5, h6, h7⟩
  · have hl : l = [] := List.eq_nil_of_length_eq_zero h2
    subst hl
    exact ⟨none, 0, h1, by simp, by simp, fun hn => absurd rfl hn⟩
  · refine ⟨_, cap, h1, h4, h5, fun _ => ⟨g, rfl, h2, (Array.getElem?_eq_some_iff.1 h3).1, fun i p hp => ?_⟩⟩
    have hc := World.ownsRow.cells h (g := g) (by rw [h1]; rfl) i (.int .i64 (p : Int)) (by simp [cellsP, hp])
    rwa [add0] at hc
theorem plAt_box (w : World) (m : Nat) : PlAt (w.alloc (.cells (plL m).toArray 106)) w.heap.size 0 m := fun i hi => by
  constructor
  · rw [World.cell?_alloc_new]
    simpa using plL_get m i hi
  · exact World.frozen?_alloc_new _ _ _ _
end Go.Proofs.YtmldgfplnacecaaDoor

namespace Go.Proofs.YtmldgfplnacecaaDoor
open Go.RowKit Go.Shelf Go.Lib Go.Great Go.Maps

/-- The first places of a list have been linked. -/
def linkL (s : St) (l : List Nat) (b : Nat) : St := { s with next := fun p => if p ∈ l then s.next p ||| b else s.next p }
theorem linkL_nil (s : St) (b : Nat) : linkL s [] b = s := by simp [linkL]
theorem or_again (x b : Nat) : (x ||| b) ||| b = x ||| b := by rw [Nat.or_assoc, Nat.or_self]
theorem linkL_snoc (s : St) (l : List Nat) (p b : Nat) : (linkL s l b).setN p ((linkL s l b).next p ||| b) = linkL s (l ++ [p]) b := by
  unfold linkL St.setN
  simp only [St.mk.injEq, true_and, and_true]
  funext r
  by_cases e : r = p
  · subst e
    simp only [if_true, List.mem_append, List.mem_singleton, or_true]
    by_cases h : r ∈ l
    · rw [if_pos h, or_again]
    · rw [if_neg h]
  · rw [if_neg e]
    simp [e]
theorem mem_posL {m p : Nat} : p ∈ posL m ↔ inM m p = true := by
  unfold posL
  simp only [List.mem_filter, List.mem_range]
  constructor
  · exact fun h => h.2
  · intro h
    refine ⟨?_, h⟩
    unfold inM at h; simp at h; exact h.1
theorem linkL_full (s : St) (a b : Nat) : linkL s (posL a) b = s.link a b := by
  unfold linkL St.link
  simp only [St.mk.injEq, true_and, and_true]
  funext r
  by_cases h : inM a r = true
  · rw [if_pos (mem_posL.2 h), if_pos h]
  · rw [if_neg (fun h2 => h (mem_posL.1 h2)), if_neg h]
theorem posL_lt {m i p : Nat} (h : (posL m)[i]? = some p) : p < 1024 := by
  have := mem_posL.1 (List.mem_of_getElem? h)
  unfold inM at this; simp at this; exact this.1
theorem wpStill_loadPl {ops : Array Oper} {w : World} {Q : Act → Prop} {a : Act} {o : Oper} {rest : List Oper} (x : Operand) (ho : o.op = .load 106 x) (hw : Region.wanted o (yielded ops a.tmps) = true)
    (b off m : Nat) (hx : a.eval x = .pointer (some ⟨b, off, none⟩)) (hat : PlAt w b off m) (h : wpStill Tryd.prog ops w Q rest (a.put o.dst (.agg (plL m).toArray))) : wpStill Tryd.prog ops w Q (o :: rest) a := by
  refine wpStill_step (fun K hK => ?_)
  rw [if_pos hw]
  unfold Oper.still execOp
  simp only [ho, hx, run_loadAt_mid w b off 106 (plL m) (.array 16 37) hat.range Tryd.underlying106 rfl (by rw [plL_len]; exact size70), Sem.run_bind, Sem.run_pure, Result.andThen_ok]
  exact ⟨rfl, hK _ h⟩
set_option maxHeartbeats 4000000 in
set_option maxRecDepth 100000 in
theorem link_any (q : Np) (B n : Nat) (se : Bool) (s : St) (a b : Nat) (w : World) (h : NfaAt w q n se s) (hq : q.Ok B) (_hB : 0 < B) (hT : TZ w) (hn : n ≤ 1000000000000) :
    Calls Tryd.prog 83 #[.pointer (some ⟨q.b, 0, none⟩), .agg (plL a).toArray, .agg (plL b).toArray] w fun e w' => e = .returned (.tuple #[]) ∧ Kp q w w' ∧ NfaAt w' q (n + 1024) se (s.link a b) := by
  obtain ⟨W1, hW1⟩ : ∃ W, w.alloc (.cells (plL a).toArray 106) = W := ⟨_, rfl⟩
  obtain ⟨W2, hW2⟩ : ∃ W, W1.alloc (.cells (plL b).toArray 106) = W := ⟨_, rfl⟩
  have hz1 : W1.heap.size = w.heap.size + 1 := by rw [← hW1]; simp
  have hz2 : W2.heap.size = w.heap.size + 2 := by rw [← hW2]; simp [hz1]
  have b1 : Below w.heap.size w W1 := by rw [← hW1]; exact below_new _ _
  have b2 : Below W1.heap.size W1 W2 := by rw [← hW2]; exact below_new _ _
  have p1 : PlAt W2 w.heap.size 0 a := by
    have : PlAt W1 w.heap.size 0 a := by rw [← hW1]; exact plAt_box w a
    exact this.block (b2.block _ (by omega))
  have p2 : PlAt W2 (w.heap.size + 1) 0 b := by rw [← hz1, ← hW2]; exact plAt_box W1 b
  have hT2 : TZ W2 := (hT.below b1 hT.lt).below b2 (by omega)
  have b12 : Below w.heap.size w W2 := b1.trans (b2.mono (by omega))
  have C := Lib.hid (list_any w.heap.size 0 a W2 p1 hT2)
  have HH := Lib.hid (And.intro h (And.intro hT2 (And.intro b12 (And.intro p2 (And.intro hz2 hz1)))))
  have HW1 := Lib.hid hW1
  have HW2 := Lib.hid hW2
  have hqb := fun k (hk : q.In k) => h.lt hk
  have HQ := Lib.hid hqb
  clear h hT hz1 hz2 b1 b2 p1 p2 hT2 b12 hqb
  generalize hA : (plL a).toArray = PA at *
  generalize hB2 : (plL b).toArray = PB at *
  have HB2 := Lib.hid hB2
  clear hA hB2 hW1 hW2
  go_enter Tryd.func83, Tryd.ntmps83
  go_wp2_with fail
  rw [HW1.out, HW2.out]
  refine C.out.mono ?_
  rintro e W3 ⟨v, rfl, hown, hb3⟩
  obtain ⟨A, cap, rfl, hlc, hcm, hcell⟩ := hown.form
  have hlen : (posL a).length ≤ 1024 := by rw [posL_eq]; exact posN_len _ _
  have hkp0 : Kp q w W3 := (Kp.of_below HH.out.2.2.1).below hb3
  have h3 : NfaAt W3 q n se s := (HH.out.1.below HH.out.2.2.1).below (hb3)
  have hT3 : TZ W3 := HH.out.2.1.below hb3 (by have := HH.out.2.1.lt; omega)
  have p3 : PlAt W3 (w.heap.size + 1) 0 b := HH.out.2.2.2.1.block (hb3.block _ (by have := HH.out.2.2.2.2.1; omega))
  have HG := Lib.hid (And.intro hkp0 (And.intro p3 (And.intro hcell (And.intro HH.out.2.2.2.2 (And.intro hb3.size (fun (i p : Nat) (hp : (posL a)[i]? = some p) => posL_lt hp))))))
  obtain ⟨l, hl⟩ : ∃ l, posL a = l := ⟨_, rfl⟩
  have HL := Lib.hid hl
  rw [hl] at HG hlen
  simp only [hl]
  obtain ⟨N, hN⟩ : ∃ N, l.length = N := ⟨_, rfl⟩
  rw [hN] at hlen ⊢
  have HN := Lib.hid hN
  have H3 := Lib.hid (And.intro h3 (And.intro hlen hn))
  clear hown hb3 hlc hcell h3 hT3 p3 hkp0 hl hN hcm
  go_wp2_with fail
  go_loopw [11] (fun i wr => ∃ k : Nat, i = .int .i64 (k : Int) ∧ k ≤ N ∧ Kp q W3 wr ∧ NfaAt wr q (n + k) se (linkL s (l.take k) b)) (fun i _ => N - (RowKit.intOf i).toNat)
  case atStart => exact ⟨0, rfl, by omega, Kp.refl _ _, by rw [List.take_zero, linkL_nil]; exact H3.out.1⟩
  case round =>
    obtain ⟨k, rfl, hk, hkp, hnf⟩ := hrel
    by_cases hlt : k < N
    · have i1 : (k : Int) < (N : Int) := by omega
      obtain ⟨p, hp⟩ : ∃ p, l[k]? = some p := ⟨l[k]'(by rw [HN.out]; exact hlt), List.getElem?_eq_getElem _⟩
      obtain ⟨g, rfl, hg1, hg2, hgc⟩ := HG.out.2.2.1 (by rintro rfl; simp at hp)
      have hng : ¬ q.In g := fun hin => by have := HQ.out _ hin; have := HG.out.2.2.2.1.1; omega
      have d0 : wr.cell? ⟨g, k, none⟩ = some (.int .i64 (p : Int)) := (World.cell?_of_block (w := W3) (w' := wr) (a := ⟨g, k, none⟩) (hkp.block g hg2 hng)).trans (hgc k p hp)
      have c2 := hnf.c2
      have hp1 := HG.out.2.2.2.2.2 k p hp
      have hgb : ¬ q.In (w.heap.size + 1) := fun hin => by have := HQ.out _ hin; omega
      have pb : PlAt wr (w.heap.size + 1) 0 b := hkp.pl hgb HG.out.2.1
      obtain ⟨X, hX⟩ : ∃ X, (linkL s (l.take k) b).next p = X := ⟨_, rfl⟩
      have HX := Lib.hid hX
      have HK := Lib.hid (And.intro hkp (And.intro hnf (And.intro hp (And.intro pb hp1))))
      obtain ⟨G, hG⟩ : ∃ G, wr.heap.size = G := ⟨_, rfl⟩
      obtain ⟨W4, hW4⟩ : ∃ W, wr.alloc (.cells Z70 106) = W := ⟨_, rfl⟩
      have p4 : PlAt W4 G 0 0 := by rw [← hW4, ← hG]; exact plAt_new wr
      have b4 : Below wr.heap.size wr W4 := by rw [← hW4]; exact below_new _ _
      have HG4 := Lib.hid hG
      have HW4 := Lib.hid hW4
      have H4 := Lib.hid (And.intro p4 b4)
      clear hkp hnf hp pb hX hng hgc p4 b4 hG hW4
      go_wp2_with (first
        | (refine wpList_lookN rfl (.tmp 18) (.tmp 19) rfl HK.out.2.1 (p : Int) (nat64 (by have := HK.out.2.2.2.2; omega)) X (by rw [if_pos (by omega), Int.toNat_natCast]; exact HX.out) rfl rfl ?_)
        | (refine wpList_alloc70 rfl 8 rfl rfl G HG4.out W4 HW4.out ?_)
        | (refine wpList_storePl rfl (.tmp 8) (.tmp 20) rfl rfl G 0 0 X rfl rfl H4.out.1 ?_
           intro W5 hW5
           have k5 : Kp q wr W5 := (Kp.of_below H4.out.2).grown hW5.grown (.inr (by have := HG4.out; omega))
           have n5 : NfaAt W5 q (n + k) se (linkL s (l.take k) b) := ((HK.out.2.1.below H4.out.2).grown hW5.grown (fun hin => by have := HK.out.2.1.lt hin; have := HG4.out; omega))
           have q5 : PlAt W5 (w.heap.size + 1) 0 b := (HK.out.2.2.2.1.block (H4.out.2.block _ HK.out.2.2.2.1.lt)).block (hW5.grown.block _ (by have := HK.out.2.2.2.1.lt; have := H4.out.2.size; omega) (fun e => by injection e with e; have := HK.out.2.2.2.1.lt; have := HG4.out; omega))
           have H5 := Lib.hid (And.intro hW5.at_ (And.intro k5 (And.intro n5 q5)))
           clear hW5 k5 n5 q5)
        | (refine wpList_loadPl rfl (.tmp 5) rfl (w.heap.size + 1) 0 b rfl H5.out.2.2.2 ?_)
        | (go_at_call 55; refine (padd_any G 0 X b W5 H5.out.1).mono ?_; rintro e W6 ⟨rfl, hW6⟩)
        | fail)
      have k6 : Kp q wr W6 := H5.out.2.1.grown hW6.grown (.inr (by have := HG4.out; omega))
      have n6 : NfaAt W6 q (n + k) se (linkL s (l.take k) b) := H5.out.2.2.1.grown hW6.grown (fun hin => by have := HK.out.2.1.lt hin; have := HG4.out; omega)
      have hdw : PlAt W6.drew G 0 (X ||| b) := hW6.at_
      have c2' := n6.c2
      have H6 := Lib.hid (And.intro k6 n6)
      have HD := Lib.hid hdw
      clear k6 n6 hW6 c2 hdw
      go_wp2_with fail
      go_still_tail 6, (by kernel_rfl)
      refine wpStill_loadPl (.tmp 8) rfl (by kernel_rfl) G 0 (X ||| b) rfl HD.out ?_
      refine wpStill_nil ?_
      change wpList _ _ _ _ _ W6.drew
      have n6' : NfaAt W6.drew q (n + k) se (linkL s (l.take k) b) := ⟨H6.out.2.c0, H6.out.2.c1, H6.out.2.c2, H6.out.2.c3, H6.out.2.c4, H6.out.2.f1, H6.out.2.mN, H6.out.2.mT, H6.out.2.mL, H6.out.2.t⟩
      refine wpList_updN rfl (.tmp 26) (.tmp 27) (.tmp 28) rfl n6' hq (by unfold maxLen; have := H3.out.2; omega) p (by have := HK.out.2.2.2.2; omega) (X ||| b) rfl rfl rfl ?_
      intro W7 n7 g7
      have hs7 : linkL s (l.take (k + 1)) b = (linkL s (l.take k) b).setN p (X ||| b) := by
        rw [List.take_add_one, HK.out.2.2.1]
        simp only [Option.toList_some]
        rw [← linkL_snoc, HX.out]
      have hend : ∃ j : Nat, Value.int .i64 ((k : Int) + 1) = .int .i64 (j : Int) ∧ j ≤ N ∧ Kp q W3 W7 ∧ NfaAt W7 q (n + j) se (linkL s (l.take j) b) :=
        ⟨k + 1, by simp, by omega, HK.out.1.trans (H6.out.1.drew.grown g7 (.inl (.inr (.inl rfl)))), by rw [hs7]; exact n7⟩
      have HEND := Lib.hid hend
      clear n6' n7 g7 hs7 hend c2'
      go_wp2_with fail
      go_roundw
      case rel => exact HEND.out
      case measure => simp [RowKit.intOf]; omega
    · obtain rfl : k = N := by omega
      have d1 : ¬ (k : Int) < (k : Int) := by omega
      have HK := Lib.hid (And.intro hkp hnf)
      clear hkp hnf
      go_wp2_with fail
      go_end0
      have e1 : l.take k = l := by rw [← HN.out, List.take_length]
      refine ⟨rfl, HG.out.1.trans HK.out.1, ?_⟩
      have := HK.out.2
      rw [e1, ← HL.out, linkL_full] at this
      exact this.mono (by have := H3.out.2.1; omega)
end Go.Proofs.YtmldgfplnacecaaDoor

