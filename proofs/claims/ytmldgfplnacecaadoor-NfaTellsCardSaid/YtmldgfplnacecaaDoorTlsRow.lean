/-
  NfaTells: behind any marks the expressions are told that match all of them, or, if it searches, some last ones: for all inputs, in whatever memory.
  The walk of NfaTells.
  NfaTells: what is asked for; the ways that end early.
  What Leads makes is where an expression leads: no program.
  Contract: Leads.
  Contract: one. What Leads makes, as functions.
  Contract: times.
  Contract: either.
  Tables of yes and no, as they lie; while they are made.
  Behind any marks an automaton tells the expressions that lead there, from the start, or, if it searches, from anywhere: no program.
  Behind any marks an automaton tells the expressions that lead there: no program.
  Looking through an expression finds what is first, last, and may follow: no program.
  What an expression matches, place by place, against its first leaves, its last ones, and the pairs that may follow: no program.
-/
import Derived.BigRegion
import Derived.Deep.RegionLaw
import Derived.Lay
import Derived.LaidOnce
import Derived.LaidMore
import Derived.ChangeOld
import Derived.SevenTiedAt
import Derived.Test.YtmldgfplnacecaaDoorXqa
import Derived.Test.YtmldgfplnacecaaDoorXqb
import Derived.Test.YtmldgfplnacecaaDoorXqc
import Derived.Test.YtmldgfplnacecaaDoorXqd
import Derived.Test.YtmldgfplnacecaaDoorXqe
import Derived.Test.YtmldgfplnacecaaDoorXqf
import Derived.Test.YtmldgfplnacecaaDoorXqg
import Derived.Test.YtmldgfplnacecaaDoorXqh
import Derived.Test.YtmldgfplnacecaaDoorXqi
import Derived.Test.YtmldgfplnacecaaDoorXqj
import Derived.Test.YtmldgfplnacecaaDoorXqk
import Derived.Test.YtmldgfplnacecaaDoorXql
import Derived.Test.YtmldgfplnacecaaDoorTie
import Derived.Test.YtmldgfplnacecaaDoorCards
import Derived.Test.YtmldgfplnacecaaDoorChecked
namespace Go.Proofs.YtmldgfplnacecaaDoor
open Go.RowKit Go.Shelf Go.Lib

/-- One step, or more. -/
inductive TG (D : Nat → Nat → Prop) : Nat → Nat → Prop
  | one {i j : Nat} : D i j → TG D i j
  | more {i m j : Nat} : TG D i m → D m j → TG D i j
/-- A part: where it leads (D), which of its leaves took the last mark (T), what is known of it. -/
structure GOk (tk : Int → Nat → Prop) (a b : Nat) (pt : Pt) (P : Int × Int → Prop) (D : Nat → Nat → Prop) (T : Nat → Int → Nat → Prop) : Prop where
  rng : ∀ i p j, T i p j → (a : Int) < p ∧ p ≤ (b : Int)
  prg : ∀ p q, P (p, q) → ((a : Int) < p ∧ p ≤ (b : Int)) ∧ (a : Int) < q ∧ q ≤ (b : Int)
  frg : ∀ p ∈ pt.first, (a : Int) < p ∧ p ≤ (b : Int)
  lrg : ∀ p ∈ pt.last, (a : Int) < p ∧ p ≤ (b : Int)
  l0 : ∀ i p, ¬ T i p 0
  l1 : ∀ i j, D i j ↔ (i = j ∧ pt.empty = true) ∨ ∃ p ∈ pt.last, T i p j
  l2 : ∀ i p j, T i p (j + 1) ↔ tk p j ∧ ((j = i ∧ p ∈ pt.first) ∨ ∃ q, T i q j ∧ P (q, p))
section
variable {tk : Int → Nat → Prop} {a b c : Nat} {p1 p2 : Pt} {P1 P2 : Int × Int → Prop} {D1 D2 : Nat → Nat → Prop} {T1 T2 : Nat → Int → Nat → Prop}
theorem GOk.congr (h : GOk tk a b p1 P1 D1 T1) (hD : ∀ i j, D2 i j ↔ D1 i j) (hP : ∀ x, P2 x ↔ P1 x) : GOk tk a b p1 P2 D2 T1 :=
  ⟨h.rng, fun p q e => h.prg p q ((hP _).1 e), h.frg, h.lrg, h.l0, fun i j => (hD i j).trans (h.l1 i j), fun i p j => (h.l2 i p j).trans (by simp only [hP])⟩
theorem GOk.nothing (a : Nat) : GOk tk a a ⟨true, [], []⟩ (fun _ => False) (fun i j => i = j) (fun _ _ _ => False) :=
  ⟨fun _ _ _ h => h.elim, fun _ _ h => h.elim, fun p h => by simp at h, fun p h => by simp at h, fun _ _ h => h, fun i j => by simp, fun i p j => by simp⟩
theorem GOk.never (a : Nat) : GOk tk a a ⟨false, [], []⟩ (fun _ => False) (fun _ _ => False) (fun _ _ _ => False) :=
  ⟨fun _ _ _ h => h.elim, fun _ _ h => h.elim, fun p h => by simp at h, fun p h => by simp at h, fun _ _ h => h, fun i j => by simp, fun i p j => by simp⟩
theorem GOk.leaf (a : Nat) : GOk tk a (a + 1) ⟨false, [(a : Int) + 1], [(a : Int) + 1]⟩ (fun _ => False) (fun i j => j = i + 1 ∧ tk ((a : Int) + 1) i) (fun i p j => p = (a : Int) + 1 ∧ j = i + 1 ∧ tk p i) := by
  refine ⟨fun i p j h => by obtain ⟨rfl, _⟩ := h; omega, fun _ _ h => h.elim, fun p h => by simp at h; omega, fun p h => by simp at h; omega, fun _ _ h => by omega, fun i j => ?_, fun i p j => ?_⟩
  · constructor
    · rintro ⟨rfl, h⟩; exact .inr ⟨_, by simp, rfl, rfl, h⟩
    · rintro (⟨_, h⟩ | ⟨p, hp, rfl, h1, h2⟩)
      · cases h
      · exact ⟨h1, h2⟩
  · constructor
    · rintro ⟨rfl, h1, h2⟩
      obtain rfl : j = i := by omega
      exact ⟨h2, .inl ⟨rfl, by simp⟩⟩
    · rintro ⟨h, ⟨rfl, hp⟩ | ⟨_, _, h⟩⟩
      · simp at hp; subst hp; exact ⟨rfl, rfl, h⟩
      · exact h.elim
/-- One behind the other. -/
theorem GOk.seq (h1 : GOk tk a b p1 P1 D1 T1) (h2 : GOk tk b c p2 P2 D2 T2) (hab : a ≤ b) (hbc : b ≤ c) :
    GOk tk a c ⟨p1.empty && p2.empty, if p1.empty then p1.first ++ p2.first else p1.first, if p2.empty then p1.last ++ p2.last else p2.last⟩ (fun x => P1 x ∨ P2 x ∨ (x.1 ∈ p1.last ∧ x.2 ∈ p2.first))
      (fun i j => ∃ m, D1 i m ∧ D2 m j) (fun i p j => T1 i p j ∨ ∃ m, D1 i m ∧ T2 m p j) := by
  have fm : ∀ p, p ∈ (if p1.empty then p1.first ++ p2.first else p1.first) ↔ p ∈ p1.first ∨ (p1.empty = true ∧ p ∈ p2.first) := fun p => by
    cases p1.empty <;> simp
  have lm : ∀ p, p ∈ (if p2.empty then p1.last ++ p2.last else p2.last) ↔ (p2.empty = true ∧ p ∈ p1.last) ∨ p ∈ p2.last := fun p => by
    cases p2.empty <;> simp
  refine ⟨?_, ?_, ?_, ?_, ?_, ?_, ?_⟩
  · rintro i p j (h | ⟨m, _, h⟩)
    · have := h1.rng i p j h; omega
    · have := h2.rng m p j h; omega
  · rintro p q (h | h | ⟨h, k⟩)
    · have := h1.prg p q h; omega
    · have := h2.prg p q h; omega
    · have := h1.lrg p h; have := h2.frg q k; omega
  · intro p hp
    rcases (fm p).1 hp with h | ⟨_, h⟩
    · have := h1.frg p h; omega
    · have := h2.frg p h; omega
  · intro p hp
    rcases (lm p).1 hp with ⟨_, h⟩ | h
    · have := h1.lrg p h; omega
    · have := h2.lrg p h; omega
  · rintro i p (h | ⟨m, _, h⟩)
    · exact h1.l0 i p h
    · exact h2.l0 m p h
  · intro i j
    constructor
    · rintro ⟨m, d1, d2⟩
      rcases (h2.l1 m j).1 d2 with ⟨rfl, e2⟩ | ⟨p, hp, ht⟩
      · rcases (h1.l1 i m).1 d1 with ⟨rfl, e1⟩ | ⟨p, hp, ht⟩
        · exact .inl ⟨rfl, by simp [e1, e2]⟩
        · exact .inr ⟨p, (lm p).2 (.inl ⟨e2, hp⟩), .inl ht⟩
      · exact .inr ⟨p, (lm p).2 (.inr hp), .inr ⟨m, d1, ht⟩⟩
    · rintro (⟨rfl, e⟩ | ⟨p, hp, ht⟩)
      · simp only [Bool.and_eq_true] at e
        exact ⟨i, (h1.l1 i i).2 (.inl ⟨rfl, e.1⟩), (h2.l1 i i).2 (.inl ⟨rfl, e.2⟩)⟩
      · rcases ht with ht | ⟨m, d1, ht⟩
        · have r1 := h1.rng i p j ht
          rcases (lm p).1 hp with ⟨e2, hp⟩ | hp
          · exact ⟨j, (h1.l1 i j).2 (.inr ⟨p, hp, ht⟩), (h2.l1 j j).2 (.inl ⟨rfl, e2⟩)⟩
          · have := h2.lrg p hp; omega
        · have r2 := h2.rng m p j ht
          rcases (lm p).1 hp with ⟨_, hp⟩ | hp
          · have := h1.lrg p hp; omega
          · exact ⟨m, d1, (h2.l1 m j).2 (.inr ⟨p, hp, ht⟩)⟩
  · intro i p j
    constructor
    · rintro (ht | ⟨m, d1, ht⟩)
      · obtain ⟨k, ⟨rfl, hp⟩ | ⟨q, hq, hP⟩⟩ := (h1.l2 i p j).1 ht
        · exact ⟨k, .inl ⟨rfl, (fm p).2 (.inl hp)⟩⟩
        · exact ⟨k, .inr ⟨q, .inl hq, .inl hP⟩⟩
      · obtain ⟨k, ⟨rfl, hp⟩ | ⟨q, hq, hP⟩⟩ := (h2.l2 m p j).1 ht
        · rcases (h1.l1 i j).1 d1 with ⟨rfl, e1⟩ | ⟨q, hq, hqt⟩
          · exact ⟨k, .inl ⟨rfl, (fm p).2 (.inr ⟨e1, hp⟩)⟩⟩
          · exact ⟨k, .inr ⟨q, .inl hqt, .inr (.inr ⟨hq, hp⟩)⟩⟩
        · exact ⟨k, .inr ⟨q, .inr ⟨m, d1, hq⟩, .inr (.inl hP)⟩⟩
    · rintro ⟨k, ⟨rfl, hp⟩ | ⟨q, hq, hP⟩⟩
      · rcases (fm p).1 hp with hp | ⟨e1, hp⟩
        · exact .inl ((h1.l2 j p j).2 ⟨k, .inl ⟨rfl, hp⟩⟩)
        · exact .inr ⟨j, (h1.l1 j j).2 (.inl ⟨rfl, e1⟩), (h2.l2 j p j).2 ⟨k, .inl ⟨rfl, hp⟩⟩⟩
      · rcases hq with hq | ⟨m, d1, hq⟩
        · have r1 := h1.rng i q j hq
          rcases hP with hP | hP | ⟨hl, hf⟩
          · exact .inl ((h1.l2 i p j).2 ⟨k, .inr ⟨q, hq, hP⟩⟩)
          · have := h2.prg q p hP; omega
          · exact .inr ⟨j, (h1.l1 i j).2 (.inr ⟨q, hl, hq⟩), (h2.l2 j p j).2 ⟨k, .inl ⟨rfl, hf⟩⟩⟩
        · have r2 := h2.rng m q j hq
          rcases hP with hP | hP | ⟨hl, hf⟩
          · have := h1.prg q p hP; omega
          · exact .inr ⟨m, d1, (h2.l2 m p j).2 ⟨k, .inr ⟨q, hq, hP⟩⟩⟩
          · have := h1.lrg q hl; omega
/-- One or the other. -/
theorem GOk.alt (h1 : GOk tk a b p1 P1 D1 T1) (h2 : GOk tk b c p2 P2 D2 T2) (hab : a ≤ b) (hbc : b ≤ c) :
    GOk tk a c ⟨p1.empty || p2.empty, p1.first ++ p2.first, p1.last ++ p2.last⟩ (fun x => P1 x ∨ P2 x) (fun i j => D1 i j ∨ D2 i j) (fun i p j => T1 i p j ∨ T2 i p j) := by
  refine ⟨?_, ?_, ?_, ?_, ?_, ?_, ?_⟩
  · rintro i p j (h | h)
    · have := h1.rng i p j h; omega
    · have := h2.rng i p j h; omega
  · rintro p q (h | h)
    · have := h1.prg p q h; omega
    · have := h2.prg p q h; omega
  · intro p hp
    rcases List.mem_append.1 hp with h | h
    · have := h1.frg p h; omega
    · have := h2.frg p h; omega
  · intro p hp
    rcases List.mem_append.1 hp with h | h
    · have := h1.lrg p h; omega
    · have := h2.lrg p h; omega
  · rintro i p (h | h)
    · exact h1.l0 i p h
    · exact h2.l0 i p h
  · intro i j
    rw [h1.l1, h2.l1]
    simp only [List.mem_append, Bool.or_eq_true]
    constructor
    · rintro ((⟨h, e⟩ | ⟨p, hp, ht⟩) | ⟨h, e⟩ | ⟨p, hp, ht⟩)
      · exact .inl ⟨h, .inl e⟩
      · exact .inr ⟨p, .inl hp, .inl ht⟩
      · exact .inl ⟨h, .inr e⟩
      · exact .inr ⟨p, .inr hp, .inr ht⟩
    · rintro (⟨h, e | e⟩ | ⟨p, hp, ht⟩)
      · exact .inl (.inl ⟨h, e⟩)
      · exact .inr (.inl ⟨h, e⟩)
      · rcases ht with ht | ht
        · have := h1.rng i p j ht
          rcases hp with hp | hp
          · exact .inl (.inr ⟨p, hp, ht⟩)
          · have := h2.lrg p hp; omega
        · have := h2.rng i p j ht
          rcases hp with hp | hp
          · have := h1.lrg p hp; omega
          · exact .inr (.inr ⟨p, hp, ht⟩)
  · intro i p j
    rw [h1.l2, h2.l2]
    simp only [List.mem_append]
    constructor
    · rintro (⟨k, ⟨e, hp⟩ | ⟨q, hq, hP⟩⟩ | ⟨k, ⟨e, hp⟩ | ⟨q, hq, hP⟩⟩)
      · exact ⟨k, .inl ⟨e, .inl hp⟩⟩
      · exact ⟨k, .inr ⟨q, .inl hq, .inl hP⟩⟩
      · exact ⟨k, .inl ⟨e, .inr hp⟩⟩
      · exact ⟨k, .inr ⟨q, .inr hq, .inr hP⟩⟩
    · rintro ⟨k, ⟨e, hp | hp⟩ | ⟨q, hq, hP⟩⟩
      · exact .inl ⟨k, .inl ⟨e, hp⟩⟩
      · exact .inr ⟨k, .inl ⟨e, hp⟩⟩
      · rcases hq with hq | hq
        · have := h1.rng i q j hq
          rcases hP with hP | hP
          · exact .inl ⟨k, .inr ⟨q, hq, hP⟩⟩
          · have := h2.prg q p hP; omega
        · have := h2.rng i q j hq
          rcases hP with hP | hP
          · have := h1.prg q p hP; omega
          · exact .inr ⟨k, .inr ⟨q, hq, hP⟩⟩
theorem GOk.tg (h : GOk tk a b p1 P1 D1 T1) {i j : Nat} : TG D1 i j ↔ (i = j ∧ p1.empty = true) ∨ ∃ p ∈ p1.last, ∃ m, (i = m ∨ TG D1 i m) ∧ T1 m p j := by
  constructor
  · intro t
    induction t with
    | one d =>
      rcases (h.l1 _ _).1 d with e | ⟨p, hp, ht⟩
      · exact .inl e
      · exact .inr ⟨p, hp, _, .inl rfl, ht⟩
    | more t d ih =>
      rcases (h.l1 _ _).1 d with ⟨rfl, e⟩ | ⟨p, hp, ht⟩
      · exact ih
      · exact .inr ⟨p, hp, _, .inr t, ht⟩
  · rintro (⟨rfl, e⟩ | ⟨p, hp, m, rfl | t, ht⟩)
    · exact .one ((h.l1 _ _).2 (.inl ⟨rfl, e⟩))
    · exact .one ((h.l1 _ _).2 (.inr ⟨p, hp, ht⟩))
    · exact .more t ((h.l1 _ _).2 (.inr ⟨p, hp, ht⟩))
/-- Again and again. -/
theorem GOk.plus (h : GOk tk a b p1 P1 D1 T1) : GOk tk a b p1 (fun x => P1 x ∨ (x.1 ∈ p1.last ∧ x.2 ∈ p1.first)) (TG D1) (fun i p j => ∃ m, (i = m ∨ TG D1 i m) ∧ T1 m p j) := by
  refine ⟨?_, ?_, h.frg, h.lrg, ?_, fun i j => h.tg, ?_⟩
  · rintro i p j ⟨m, _, ht⟩; exact h.rng m p j ht
  · rintro p q (hP | ⟨h1, h2⟩)
    · exact h.prg p q hP
    · exact ⟨h.lrg p h1, h.frg q h2⟩
  · rintro i p ⟨m, _, ht⟩; exact h.l0 m p ht
  · intro i p j
    constructor
    · rintro ⟨m, hm, ht⟩
      obtain ⟨k, ⟨rfl, hp⟩ | ⟨q, hq, hP⟩⟩ := (h.l2 m p j).1 ht
      · rcases hm with rfl | t
        · exact ⟨k, .inl ⟨rfl, hp⟩⟩
        · rcases h.tg.1 t with ⟨rfl, _⟩ | ⟨q, hq, m, hm, ht⟩
          · exact ⟨k, .inl ⟨rfl, hp⟩⟩
          · exact ⟨k, .inr ⟨q, ⟨m, hm, ht⟩, .inr ⟨hq, hp⟩⟩⟩
      · exact ⟨k, .inr ⟨q, ⟨m, hm, hq⟩, .inl hP⟩⟩
    · rintro ⟨k, ⟨rfl, hp⟩ | ⟨q, ⟨m, hm, hq⟩, hP⟩⟩
      · exact ⟨j, .inl rfl, (h.l2 j p j).2 ⟨k, .inl ⟨rfl, hp⟩⟩⟩
      · rcases hP with hP | ⟨hl, hf⟩
        · exact ⟨m, hm, (h.l2 m p j).2 ⟨k, .inr ⟨q, hq, hP⟩⟩⟩
        · have d := (h.l1 m j).2 (.inr ⟨q, hl, hq⟩)
          refine ⟨j, .inr ?_, (h.l2 j p j).2 ⟨k, .inl ⟨rfl, hf⟩⟩⟩
          rcases hm with rfl | t
          · exact .one d
          · exact .more t d
/-- Or nothing. -/
theorem GOk.maybe (h : GOk tk a b p1 P1 D1 T1) : GOk tk a b ⟨true, p1.first, p1.last⟩ P1 (fun i j => i = j ∨ D1 i j) T1 := by
  refine ⟨h.rng, h.prg, h.frg, h.lrg, h.l0, fun i j => ?_, h.l2⟩
  rw [h.l1]
  constructor
  · rintro (e | ⟨e, _⟩ | r)
    · exact .inl ⟨e, rfl⟩
    · exact .inl ⟨e, rfl⟩
    · exact .inr r
  · rintro (⟨e, _⟩ | r)
    · exact .inl e
    · exact .inr (.inr r)
theorem GOk.lt (h : GOk tk a b p1 P1 D1 T1) : ∀ j i p, T1 i p j → i < j
  | 0, i, p, ht => (h.l0 i p ht).elim
  | j + 1, i, p, ht => by
    obtain ⟨_, ⟨rfl, _⟩ | ⟨q, hq, _⟩⟩ := (h.l2 i p j).1 ht
    · omega
    · have := GOk.lt h j i q hq; omega
end
end Go.Proofs.YtmldgfplnacecaaDoor

namespace Go.Proofs.YtmldgfplnacecaaDoor
open Go.RowKit Go.Shelf Go.Lib

/-- From which place of marks an expression leads to which. -/
def DE (ms : List Int) : E → Nat → Nat → Prop
  | .mk k c ks =>
    if k = 9 then fun i j => i = j
    else if ks = [] then fun i j => j = i + 1 ∧ ∃ m, ms[i]? = some m ∧ takesI k c m = true
    else if k = 4 then seqD ks
    else if k = 6 then fun i j => i = j ∨ TG (altD ks) i j
    else if k = 7 then TG (altD ks)
    else if k = 8 then fun i j => i = j ∨ altD ks i j
    else altD ks
where
  seqD : List E → Nat → Nat → Prop
    | [] => fun i j => i = j
    | e :: r => fun i j => ∃ m, DE ms e i m ∧ seqD r m j
  altD : List E → Nat → Nat → Prop
    | [] => fun _ _ => False
    | e :: r => fun i j => DE ms e i j ∨ altD r i j
theorem DE_nine {ms : List Int} {c : Int} {ks : List E} {i j : Nat} : DE ms (.mk 9 c ks) i j ↔ i = j := by unfold DE; rw [if_pos rfl]
theorem DE_leaf {ms : List Int} {k c : Int} {i j : Nat} (h9 : k ≠ 9) : DE ms (.mk k c []) i j ↔ j = i + 1 ∧ ∃ m, ms[i]? = some m ∧ takesI k c m = true := by unfold DE; rw [if_neg h9, if_pos rfl]
theorem DE_seq {ms : List Int} {c : Int} {ks : List E} {i j : Nat} (hl : ks ≠ []) : DE ms (.mk 4 c ks) i j ↔ DE.seqD ms ks i j := by unfold DE; rw [if_neg (by decide), if_neg hl, if_pos rfl]
theorem DE_star {ms : List Int} {c : Int} {ks : List E} {i j : Nat} (hl : ks ≠ []) : DE ms (.mk 6 c ks) i j ↔ i = j ∨ TG (DE.altD ms ks) i j := by unfold DE; rw [if_neg (by decide), if_neg hl, if_neg (by decide), if_pos rfl]
theorem DE_plus {ms : List Int} {c : Int} {ks : List E} {i j : Nat} (hl : ks ≠ []) : DE ms (.mk 7 c ks) i j ↔ TG (DE.altD ms ks) i j := by unfold DE; rw [if_neg (by decide), if_neg hl, if_neg (by decide), if_neg (by decide), if_pos rfl]
theorem DE_maybe {ms : List Int} {c : Int} {ks : List E} {i j : Nat} (hl : ks ≠ []) : DE ms (.mk 8 c ks) i j ↔ i = j ∨ DE.altD ms ks i j := by unfold DE; rw [if_neg (by decide), if_neg hl, if_neg (by decide), if_neg (by decide), if_neg (by decide), if_pos rfl]
theorem DE_alt {ms : List Int} {k c : Int} {ks : List E} {i j : Nat} (hl : ks ≠ []) (h9 : k ≠ 9) (h4 : k ≠ 4) (h6 : k ≠ 6) (h7 : k ≠ 7) (h8 : k ≠ 8) : DE ms (.mk k c ks) i j ↔ DE.altD ms ks i j := by unfold DE; rw [if_neg h9, if_neg hl, if_neg h4, if_neg h6, if_neg h7, if_neg h8]
theorem seqD_cons {ms : List Int} {e : E} {r : List E} {i j : Nat} : DE.seqD ms (e :: r) i j ↔ ∃ m, DE ms e i m ∧ DE.seqD ms r m j := by conv => lhs; unfold DE.seqD
theorem altD_cons {ms : List Int} {e : E} {r : List E} {i j : Nat} : DE.altD ms (e :: r) i j ↔ DE ms e i j ∨ DE.altD ms r i j := by conv => lhs; unfold DE.altD
theorem seqD_nil {ms : List Int} {i j : Nat} : DE.seqD ms [] i j ↔ i = j := by unfold DE.seqD; exact Iff.rfl
theorem altD_nil {ms : List Int} {i j : Nat} : DE.altD ms [] i j ↔ False := by unfold DE.altD; exact Iff.rfl
/-- What is kept grows at its end. -/
def LkX (o : Int) (s s' : Lk) : Prop := ∃ t u, s'.lv = s.lv ++ t ∧ s'.of = s.of ++ u ∧ u.length = t.length ∧ ∀ x ∈ u, x = o
theorem LkX.refl (o : Int) (s : Lk) : LkX o s s := ⟨[], [], by simp, by simp, rfl, fun x hx => by simp at hx⟩
theorem LkX.trans {o : Int} {a b c : Lk} (h : LkX o a b) (k : LkX o b c) : LkX o a c := by
  obtain ⟨t, u, h1, h2, h3, h4⟩ := h
  obtain ⟨t', u', k1, k2, k3, k4⟩ := k
  refine ⟨t ++ t', u ++ u', by rw [k1, h1, List.append_assoc], by rw [k2, h2, List.append_assoc], by simp [h3, k3], fun x hx => ?_⟩
  rcases List.mem_append.1 hx with hx | hx
  · exact h4 x hx
  · exact k4 x hx
theorem addS_x {o : Int} {a : Lk} {k : Int} {s : Lk} {p q : Pt} (h : LkX o a s) : LkX o a (addS k s p q) := by unfold addS; split <;> exact h
mutual
theorem look_x : ∀ (e : E) (o : Int) (s : Lk), LkX o s (lookE e o s).1
  | .mk k c ks, o, s => by
    by_cases h9 : k = 9
    · subst h9
      unfold lookE
      rw [if_pos rfl]
      exact LkX.refl _ _
    · by_cases hl : ks = []
      · subst hl
        rw [lookE_leaf h9]
        exact ⟨[.mk k c []], [o], rfl, rfl, rfl, fun x hx => by simpa using hx⟩
      · rw [lookE_node h9 hl]
        have q := lookL_x k ks o s ⟨k == 4, [], []⟩
        dsimp only
        split
        · exact q
        · exact q
theorem lookL_x : ∀ (k : Int) (ks : List E) (o : Int) (s : Lk) (p : Pt), LkX o s (lookE.lookL k ks o s p).1
  | k, [], o, s, p => by simp only [lookE.lookL]; exact LkX.refl _ _
  | k, e :: r, o, s, p => by
    rw [lookL_cons]
    exact (addS_x (look_x e o s)).trans (lookL_x k r o _ _)
end
/-- The marks that the leaves from there on take. -/
def TkOk (tk : Int → Nat → Prop) (ms : List Int) (a : Nat) (lv : List E) : Prop := ∀ (j : Nat) x, a ≤ j → lv[j]? = some x → ∀ i, tk ((j : Int) + 1) i ↔ ∃ m, ms[i]? = some m ∧ takesI x.k x.c m = true
theorem LkX.len {o : Int} {s s' : Lk} (h : LkX o s s') : s.lv.length ≤ s'.lv.length := by obtain ⟨t, u, h1, _⟩ := h; rw [h1]; simp
theorem LkX.get {o : Int} {s s' : Lk} (h : LkX o s s') {j : Nat} {x : E} (hx : s.lv[j]? = some x) : s'.lv[j]? = some x := by
  obtain ⟨t, u, h1, _⟩ := h
  rw [h1, List.getElem?_append_left (List.getElem?_eq_some_iff.1 hx).1]
  exact hx
theorem addS_lv {k : Int} {s : Lk} {p q : Pt} : (addS k s p q).lv = s.lv := by unfold addS; split <;> rfl
def seqOr (k : Int) (ms : List Int) (D : Nat → Nat → Prop) (r : List E) (i j : Nat) : Prop := (k = 4 ∧ ∃ m, D i m ∧ DE.seqD ms r m j) ∨ (k ≠ 4 ∧ (D i j ∨ DE.altD ms r i j))
mutual
theorem look_glu (ms : List Int) (tk : Int → Nat → Prop) : ∀ (e : E) (o : Int) (s : Lk), goodE e = true → TkOk tk ms s.lv.length (lookE e o s).1.lv →
    ∃ l T, (lookE e o s).1.pr = s.pr ++ l ∧ GOk tk s.lv.length (lookE e o s).1.lv.length (lookE e o s).2 (fun x => x ∈ l) (DE ms e) T
  | .mk k c ks, o, s, hg, ht => by
    obtain ⟨h9, hs, ha⟩ := good_parts hg
    by_cases hl : ks = []
    · subst hl
      rw [lookE_leaf h9] at ht ⊢
      have h := GOk.leaf (tk := tk) s.lv.length
      have h2 := h.congr (D2 := DE ms (.mk k c [])) (P2 := fun x => x ∈ ([] : List (Int × Int))) (fun i j => by
        rw [DE_leaf h9, ht s.lv.length (.mk k c []) (Nat.le_refl _) (by simp) i]
        exact Iff.rfl) (fun x => by simp)
      refine ⟨[], fun i p j => p = (s.lv.length : Int) + 1 ∧ j = i + 1 ∧ tk p i, by simp, ?_⟩
      rw [show (s.lv ++ [E.mk k c []]).length = s.lv.length + 1 by simp]
      exact h2
    · rw [lookE_node h9 hl] at ht ⊢
      have hlv : (if k = 6 ∨ k = 7 then (lookE.lookL k ks o s ⟨k == 4, [], []⟩).1.pair (lookE.lookL k ks o s ⟨k == 4, [], []⟩).2.last (lookE.lookL k ks o s ⟨k == 4, [], []⟩).2.first else (lookE.lookL k ks o s ⟨k == 4, [], []⟩).1).lv = (lookE.lookL k ks o s ⟨k == 4, [], []⟩).1.lv := by split <;> rfl
      dsimp only at ht ⊢
      rw [hlv] at ht ⊢
      have h0 : ∃ D0 T0, GOk tk s.lv.length s.lv.length ⟨k == 4, [], []⟩ (fun x => x ∈ ([] : List (Int × Int))) D0 T0 ∧ (k = 4 → ∀ i j, D0 i j ↔ i = j) ∧ (k ≠ 4 → ∀ i j, D0 i j ↔ False) := by
        by_cases h4 : k = 4
        · subst h4
          exact ⟨_, _, (GOk.nothing _).congr (fun i j => Iff.rfl) (fun x => by simp), fun _ i j => Iff.rfl, fun h => absurd rfl h⟩
        · rw [show (k == 4) = false by simpa using h4]
          exact ⟨_, _, (GOk.never _).congr (fun i j => Iff.rfl) (fun x => by simp), fun h => absurd h h4, fun _ i j => Iff.rfl⟩
      obtain ⟨D0, T0, g0, d4, dn⟩ := h0
      obtain ⟨l, T, hpr, g⟩ := lookL_glu ms tk k ks o s ⟨k == 4, [], []⟩ ha ht s.lv.length [] D0 T0 s.pr (Nat.le_refl _) g0 (by simp)
      generalize lookE.lookL k ks o s ⟨k == 4, [], []⟩ = r at hpr g ht ⊢
      have hD : ∀ i j, seqOr k ms D0 ks i j ↔ (k = 4 ∧ DE.seqD ms ks i j) ∨ (k ≠ 4 ∧ DE.altD ms ks i j) := fun i j => by
        unfold seqOr
        by_cases h4 : k = 4
        · simp [h4, d4 h4]
        · simp [h4, dn h4]
      by_cases h4 : k = 4
      · subst h4
        refine ⟨l, T, ?_, ?_⟩
        · rw [if_neg (by decide)]; exact hpr
        · rw [show (r.2.empty || ((4 : Int) == 6) || ((4 : Int) == 8)) = r.2.empty by cases r.2.empty <;> rfl]
          refine g.congr (fun i j => ?_) (fun x => Iff.rfl)
          rw [DE_seq hl, hD]
          simp
      · have ga : GOk tk s.lv.length r.1.lv.length r.2 (fun x => x ∈ l) (DE.altD ms ks) T := g.congr (fun i j => by rw [hD]; simp [h4]) (fun x => Iff.rfl)
        by_cases h6 : k = 6
        · subst h6
          have gp := ga.plus.maybe
          refine ⟨l ++ pairsL r.2.last r.2.first, fun i p j => ∃ m, (i = m ∨ TG (DE.altD ms ks) i m) ∧ T m p j, ?_, ?_⟩
          · rw [if_pos (.inl rfl)]
            show r.1.pr ++ pairsL r.2.last r.2.first = _
            rw [hpr, List.append_assoc]
          · rw [show (r.2.empty || ((6 : Int) == 6) || ((6 : Int) == 8)) = true by cases r.2.empty <;> rfl]
            exact gp.congr (fun i j => DE_star hl) (fun x => by rw [List.mem_append]; obtain ⟨a, b⟩ := x; rw [mem_pairs])
        · by_cases h7 : k = 7
          · subst h7
            have gp := ga.plus
            refine ⟨l ++ pairsL r.2.last r.2.first, fun i p j => ∃ m, (i = m ∨ TG (DE.altD ms ks) i m) ∧ T m p j, ?_, ?_⟩
            · rw [if_pos (.inr rfl)]
              show r.1.pr ++ pairsL r.2.last r.2.first = _
              rw [hpr, List.append_assoc]
            · rw [show (r.2.empty || ((7 : Int) == 6) || ((7 : Int) == 8)) = r.2.empty by cases r.2.empty <;> rfl]
              exact gp.congr (fun i j => DE_plus hl) (fun x => by rw [List.mem_append]; obtain ⟨a, b⟩ := x; rw [mem_pairs])
          · have hn : ¬ (k = 6 ∨ k = 7) := by rintro (e | e); exact h6 e; exact h7 e
            by_cases h8 : k = 8
            · subst h8
              refine ⟨l, T, ?_, ?_⟩
              · rw [if_neg hn]; exact hpr
              · rw [show (r.2.empty || ((8 : Int) == 6) || ((8 : Int) == 8)) = true by cases r.2.empty <;> rfl]
                exact ga.maybe.congr (fun i j => DE_maybe hl) (fun x => Iff.rfl)
            · refine ⟨l, T, ?_, ?_⟩
              · rw [if_neg hn]; exact hpr
              · have e6 : (k == 6) = false := beq_eq_false_iff_ne.2 h6
                have e8 : (k == 8) = false := beq_eq_false_iff_ne.2 h8
                rw [show (r.2.empty || (k == 6) || (k == 8)) = r.2.empty by rw [e6, e8, Bool.or_false, Bool.or_false]]
                exact ga.congr (fun i j => DE_alt hl h9 h4 h6 h7 h8) (fun x => Iff.rfl)
theorem lookL_glu (ms : List Int) (tk : Int → Nat → Prop) : ∀ (k : Int) (ks : List E) (o : Int) (s : Lk) (p : Pt), goodE.all ks = true → TkOk tk ms s.lv.length (lookE.lookL k ks o s p).1.lv →
    ∀ (a : Nat) (l0 : List (Int × Int)) (D0 : Nat → Nat → Prop) (T0 : Nat → Int → Nat → Prop) (pr0 : List (Int × Int)), a ≤ s.lv.length → GOk tk a s.lv.length p (fun x => x ∈ l0) D0 T0 → s.pr = pr0 ++ l0 →
    ∃ l T, (lookE.lookL k ks o s p).1.pr = pr0 ++ l ∧ GOk tk a (lookE.lookL k ks o s p).1.lv.length (lookE.lookL k ks o s p).2 (fun x => x ∈ l) (seqOr k ms D0 ks) T
  | k, [], o, s, p, _, _, a, l0, D0, T0, pr0, _, g, hpr => by
    simp only [lookE.lookL]
    refine ⟨l0, T0, hpr, g.congr (fun i j => ?_) (fun x => Iff.rfl)⟩
    unfold seqOr
    by_cases h4 : k = 4
    · simp [h4, seqD_nil]
    · simp [h4, altD_nil]
  | k, e :: r, o, s, p, hg, ht, a, l0, D0, T0, pr0, ha, g, hpr => by
    rw [lookL_cons] at ht ⊢
    have x1 := look_x e o s
    have x2 := lookL_x k r o (addS k (lookE e o s).1 p (lookE e o s).2) (addP k p (lookE e o s).2)
    obtain ⟨l1, T1, hp1, g1⟩ := look_glu ms tk e o s (all_cons hg).1 (fun j x hj hx => ht j x hj (x2.get (by rw [addS_lv]; exact hx)))
    have hl1 := x1.len
    generalize lookE e o s = q at ht x1 x2 hp1 g1 hl1 ⊢
    by_cases h4 : k = 4
    · subst h4
      have gs := g.seq g1 ha hl1
      have eS : addS 4 q.1 p q.2 = q.1.pair p.last q.2.first := by unfold addS; rw [if_pos rfl]
      have eP : addP 4 p q.2 = ⟨p.empty && q.2.empty, if p.empty then p.first ++ q.2.first else p.first, if q.2.empty then p.last ++ q.2.last else q.2.last⟩ := by unfold addP; rw [if_pos rfl]
      rw [eS, eP] at ht ⊢
      obtain ⟨l, T, k1, k2⟩ := lookL_glu ms tk 4 r o (q.1.pair p.last q.2.first) _ (all_cons hg).2 (fun j x hj hx => ht j x (by have : s.lv.length ≤ q.1.lv.length := hl1; have : q.1.lv.length ≤ j := hj; omega) hx) a (l0 ++ l1 ++ pairsL p.last q.2.first) _ _ pr0
        (by show a ≤ q.1.lv.length; omega) (gs.congr (fun i j => Iff.rfl) (fun x => by simp only [List.mem_append]; obtain ⟨u, v⟩ := x; rw [mem_pairs]; exact or_assoc)) (by show q.1.pr ++ pairsL p.last q.2.first = _; rw [hp1, hpr]; simp only [List.append_assoc])
      refine ⟨l, T, k1, k2.congr (fun i j => ?_) (fun x => Iff.rfl)⟩
      unfold seqOr
      constructor
      · rintro (⟨_, m, d, d2⟩ | ⟨h, _⟩)
        · obtain ⟨m', d1, d2⟩ := seqD_cons.1 d2
          exact .inl ⟨rfl, m', ⟨m, d, d1⟩, d2⟩
        · exact absurd rfl h
      · rintro (⟨_, m', ⟨m, d, d1⟩, d2⟩ | ⟨h, _⟩)
        · exact .inl ⟨rfl, m, d, seqD_cons.2 ⟨m', d1, d2⟩⟩
        · exact absurd rfl h
    · have gs := g.alt g1 ha hl1
      have eS : addS k q.1 p q.2 = q.1 := by unfold addS; rw [if_neg h4]
      have eP : addP k p q.2 = ⟨p.empty || q.2.empty, p.first ++ q.2.first, p.last ++ q.2.last⟩ := by unfold addP; rw [if_neg h4]
      rw [eS, eP] at ht ⊢
      obtain ⟨l, T, k1, k2⟩ := lookL_glu ms tk k r o q.1 _ (all_cons hg).2 (fun j x hj hx => ht j x (by omega) hx) a (l0 ++ l1) _ _ pr0
        (by omega) (gs.congr (fun i j => Iff.rfl) (fun x => by simp only [List.mem_append])) (by rw [hp1, hpr, List.append_assoc])
      refine ⟨l, T, k1, k2.congr (fun i j => ?_) (fun x => Iff.rfl)⟩
      unfold seqOr
      simp only [altD_cons, h4, false_and, false_or, ne_eq, not_false_eq_true, true_and]
      exact or_assoc.symm
end
end Go.Proofs.YtmldgfplnacecaaDoor

namespace Go.Proofs.YtmldgfplnacecaaDoor
open Go.RowKit Go.Shelf Go.Lib

theorem look_right_glu (ms : List Int) (tk : Int → Nat → Prop) (e : E) (o : Int) (s : Lk) (hr : rightE e = true) (ht : TkOk tk ms s.lv.length (lookE e o s).1.lv) :
    ∃ l T, (lookE e o s).1.pr = s.pr ++ l ∧ GOk tk s.lv.length (lookE e o s).1.lv.length (lookE e o s).2 (fun x => x ∈ l) (DE ms e) T := by
  by_cases h9 : e.k = 9
  · rw [look9 h9]
    obtain ⟨k, c, ks⟩ := e
    simp only [E.k] at h9
    subst h9
    exact ⟨[], fun _ _ _ => False, by simp, (GOk.nothing _).congr (fun i j => DE_nine) (fun x => by simp)⟩
  · rw [rightE_good h9] at hr
    simp only [Bool.and_eq_true] at hr
    exact look_glu ms tk e o s hr.1 ht
/-- Which of the leaves of all take which of the marks. -/
def tkL (ms : List Int) (lv : List E) (p : Int) (j : Nat) : Prop := 1 ≤ p ∧ ∃ x m, lv[(p - 1).toNat]? = some x ∧ ms[j]? = some m ∧ takesI x.k x.c m = true
theorem tkL_ok {ms : List Int} {lv lv' : List E} (h : ∀ (j : Nat) x, lv'[j]? = some x → lv[j]? = some x) (a : Nat) : TkOk (tkL ms lv) ms a lv' := fun j x _ hx i => by
  have e : ((j : Int) + 1 - 1).toNat = j := by omega
  constructor
  · rintro ⟨_, y, m, h1, h2, h3⟩
    rw [e, h j x hx] at h1
    injection h1 with h1
    subst h1
    exact ⟨m, h2, h3⟩
  · rintro ⟨m, h2, h3⟩
    exact ⟨by omega, x, m, by rw [e]; exact h j x hx, h2, h3⟩
theorem make_pre {ks : List E} (d : Nat) : ∀ i, i + d = ks.length → ∀ (j : Nat) x, (makeL (ks.take i) 0 mka0).l.lv[j]? = some x → (makeL ks 0 mka0).l.lv[j]? = some x := by
  induction d with
  | zero => intro i hi j x hx; rwa [List.take_of_length_le (by omega)] at hx
  | succ d ih =>
    intro i hi j x hx
    obtain ⟨e, he⟩ : ∃ e, ks[i]? = some e := ⟨ks[i]'(by omega), List.getElem?_eq_getElem _⟩
    refine ih (i + 1) (by omega) j x ?_
    rw [makeL_take he]
    exact (look_x e (i : Int) _).get hx
/-- The automaton of the first expressions. -/
structure MuOk (tk : Int → Nat → Prop) (a : Mka) (n : Nat) (Ds : Nat → Nat → Nat → Prop) (T : Nat → Int → Nat → Prop) : Prop where
  rng : ∀ i p j, T i p j → (0 : Int) < p ∧ p ≤ (a.l.lv.length : Int)
  prg : ∀ p q, (p, q) ∈ a.l.pr → ((0 : Int) < p ∧ p ≤ (a.l.lv.length : Int)) ∧ (0 : Int) < q ∧ q ≤ (a.l.lv.length : Int)
  l0 : ∀ i p, ¬ T i p 0
  l1 : ∀ b, b < n → ∀ i j, Ds b i j ↔ (i = j ∧ a.em.testBit b = true) ∨ ∃ p : Nat, (p : Int) ∈ a.la ∧ a.l.of[p - 1]? = some (b : Int) ∧ T i p j
  l2 : ∀ i p j, T i p (j + 1) ↔ tk p j ∧ ((j = i ∧ p ∈ a.fi) ∨ ∃ q, T i q j ∧ (q, p) ∈ a.l.pr)
theorem mu_step {ms : List Int} {tk : Int → Nat → Prop} {a : Mka} {t : St} {n : Nat} {Ds : Nat → Nat → Nat → Prop} {T : Nat → Int → Nat → Prop} (h : MuOk tk a n Ds T) (hok : MkaOk a t n) (e : E) (hr : rightE e = true) (ht : TkOk tk ms a.l.lv.length (lookE e (n : Int) a.l).1.lv)
    (hD : ∀ i j, Ds n i j ↔ DE ms e i j) : ∃ T', MuOk tk (addA e n a) (n + 1) Ds T' := by
  obtain ⟨l, Te, hpr, g⟩ := look_right_glu ms tk e (n : Int) a.l hr ht
  obtain ⟨t1, u, hlv, hof, hu, hun⟩ := look_x e (n : Int) a.l
  have hlen : a.l.lv.length ≤ (lookE e (n : Int) a.l).1.lv.length := by rw [hlv]; simp
  have hlt : (lookE e (n : Int) a.l).1.lv.length = a.l.lv.length + t1.length := by rw [hlv]; simp
  unfold addA
  generalize lookE e (n : Int) a.l = q at hpr g hlv hof hlen hlt ⊢
  have ho := hok.k.o
  have hfi := hok.hf
  have hla := hok.ha
  have ofl : ∀ p : Nat, p - 1 < a.l.lv.length → q.1.of[p - 1]? = a.l.of[p - 1]? := fun p hp => by rw [hof, List.getElem?_append_left (by omega)]
  have ofn : ∀ p : Nat, a.l.lv.length < p → p ≤ q.1.lv.length → q.1.of[p - 1]? = some (n : Int) := fun p h1 h2 => by
    rw [hof, List.getElem?_append_right (by omega)]
    have hi : p - 1 - a.l.of.length < u.length := by omega
    rw [List.getElem?_eq_getElem hi, hun _ (List.getElem_mem hi)]
  refine ⟨fun i p j => T i p j ∨ Te i p j, ?_, ?_, ?_, ?_, ?_⟩
  · rintro i p j (k | k)
    · have := h.rng i p j k; dsimp only; omega
    · have := g.rng i p j k; dsimp only; omega
  · intro p r hm
    dsimp only at hm ⊢
    rw [hpr] at hm
    rcases List.mem_append.1 hm with k | k
    · have := h.prg p r k; omega
    · have := g.prg p r k; omega
  · rintro i p (k | k)
    · exact h.l0 i p k
    · exact g.l0 i p k
  · intro b hb i j
    dsimp only
    by_cases hbn : b = n
    · subst hbn
      rw [hD, g.l1]
      have em0 : a.em.testBit b = false := Nat.testBit_lt_two_pow hok.he
      have em1 : (if q.2.empty = true then a.em ||| 2 ^ b else a.em).testBit b = q.2.empty := by
        cases q.2.empty with
        | true => rw [if_pos rfl, Nat.testBit_or, em0, Nat.testBit_two_pow_self]; rfl
        | false => rw [if_neg (by decide), em0]
      rw [em1]
      constructor
      · rintro (k | ⟨p, hp, k⟩)
        · exact .inl k
        · have hp2 := g.lrg p hp
          obtain ⟨pn, rfl⟩ : ∃ pn : Nat, p = (pn : Int) := ⟨p.toNat, by omega⟩
          exact .inr ⟨pn, List.mem_append.2 (.inr hp), ofn pn (by omega) (by omega), .inr k⟩
      · rintro (k | ⟨p, hp, k1, k2⟩)
        · exact .inl k
        · rcases List.mem_append.1 hp with hp | hp
          · have hp2 := hla _ hp
            rw [ofl p (by omega)] at k1
            obtain ⟨b', e1, e2⟩ := hok.ho _ _ k1
            omega
          · have hp2 := g.lrg _ hp
            rcases k2 with k2 | k2
            · have := h.rng i _ j k2; omega
            · exact .inr ⟨_, hp, k2⟩
    · have hbl : b < n := by omega
      rw [h.l1 b hbl]
      have em1 : (if q.2.empty = true then a.em ||| 2 ^ n else a.em).testBit b = a.em.testBit b := by
        split
        · rw [Nat.testBit_or, Nat.testBit_two_pow]
          simp; omega
        · rfl
      rw [em1]
      constructor
      · rintro (k | ⟨p, hp, k1, k2⟩)
        · exact .inl k
        · have hp2 := hla _ hp
          exact .inr ⟨p, List.mem_append.2 (.inl hp), by rw [ofl p (by omega)]; exact k1, .inl k2⟩
      · rintro (k | ⟨p, hp, k1, k2⟩)
        · exact .inl k
        · rcases List.mem_append.1 hp with hp | hp
          · have hp2 := hla _ hp
            rw [ofl p (by omega)] at k1
            rcases k2 with k2 | k2
            · exact .inr ⟨p, hp, k1, k2⟩
            · have := g.rng i _ j k2; omega
          · have hp2 := g.lrg _ hp
            rw [ofn p (by omega) (by omega)] at k1
            injection k1 with k1
            omega
  · intro i p j
    dsimp only
    rw [h.l2, g.l2, hpr]
    simp only [List.mem_append]
    constructor
    · rintro (⟨k, ⟨e, hp⟩ | ⟨r, hq, hP⟩⟩ | ⟨k, ⟨e, hp⟩ | ⟨r, hq, hP⟩⟩)
      · exact ⟨k, .inl ⟨e, .inl hp⟩⟩
      · exact ⟨k, .inr ⟨r, .inl hq, .inl hP⟩⟩
      · exact ⟨k, .inl ⟨e, .inr hp⟩⟩
      · exact ⟨k, .inr ⟨r, .inr hq, .inr hP⟩⟩
    · rintro ⟨k, ⟨e, hp | hp⟩ | ⟨r, hq, hP⟩⟩
      · exact .inl ⟨k, .inl ⟨e, hp⟩⟩
      · exact .inr ⟨k, .inl ⟨e, hp⟩⟩
      · rcases hq with hq | hq
        · have := h.rng i r j hq
          rcases hP with hP | hP
          · exact .inl ⟨k, .inr ⟨r, hq, hP⟩⟩
          · have := g.prg r p hP; omega
        · have := g.rng i r j hq
          rcases hP with hP | hP
          · have := h.prg r p hP; omega
          · exact .inr ⟨k, .inr ⟨r, hq, hP⟩⟩
def DsL (ms : List Int) (ks : List E) (b i j : Nat) : Prop := ∃ e, ks[b]? = some e ∧ DE ms e i j
theorem mu_all (ms : List Int) (ks : List E) (hr : ks.all rightE = true) (hc : leavesE.lvL ks < 1000) : ∀ i, i ≤ ks.length → ∃ T, MuOk (tkL ms (makeL ks 0 mka0).l.lv) (makeL (ks.take i) 0 mka0) i (DsL ms ks) T
  | 0, _ => by
    refine ⟨fun _ _ _ => False, ?_⟩
    rw [List.take_zero]
    refine ⟨fun _ _ _ h => h.elim, fun p q h => ?_, fun _ _ h => h, fun b hb => by omega, fun i p j => ?_⟩
    · simp [makeL, mka0] at h
    · simp [makeL, mka0]
  | i + 1, hi => by
    obtain ⟨T, h⟩ := mu_all ms ks hr hc i (by omega)
    obtain ⟨e, he⟩ : ∃ e, ks[i]? = some e := ⟨ks[i]'(by omega), List.getElem?_eq_getElem _⟩
    have hok := makeN_ok (ks.take i) (take_right hr i) (by have := (lvL_at he).1; omega)
    rw [List.length_take, Nat.min_eq_left (by omega)] at hok
    rw [makeL_take he]
    refine mu_step h hok e (all_right hr he) (tkL_ok (fun j x hx => ?_) _) (fun a b => ?_)
    · refine make_pre (ks.length - (i + 1)) (i + 1) (by omega) j x ?_
      rw [makeL_take he]
      exact hx
    · unfold DsL
      rw [he]
      constructor
      · rintro ⟨e', h1, h2⟩
        injection h1 with h1
        subst h1
        exact h2
      · intro h2; exact ⟨e, rfl, h2⟩
theorem MuOk.lt {tk : Int → Nat → Prop} {a : Mka} {n : Nat} {Ds : Nat → Nat → Nat → Prop} {T : Nat → Int → Nat → Prop} (h : MuOk tk a n Ds T) : ∀ j i p, T i p j → i < j
  | 0, i, p, ht => (h.l0 i p ht).elim
  | j + 1, i, p, ht => by
    obtain ⟨_, ⟨rfl, _⟩ | ⟨q, hq, _⟩⟩ := (h.l2 i p j).1 ht
    · omega
    · have := MuOk.lt h j i q hq; omega
end Go.Proofs.YtmldgfplnacecaaDoor

namespace Go.Proofs.YtmldgfplnacecaaDoor
open Go.RowKit Go.Shelf Go.Lib

theorem may_iff {a : Mka} {se : Bool} {xs : List Int} {q : Nat} : mayR (raOf se a) xs (q : Int) = true ↔ ((0 : Int) ∈ xs ∧ (q : Int) ∈ a.fi) ∨ ∃ p, p ∈ xs ∧ (p, (q : Int)) ∈ a.l.pr := by
  unfold mayR firstR
  show (decide ((0 : Int) ∈ xs) && decide ((q : Int) ∈ a.fi) || a.l.pr.any (pairR xs (q : Int))) = true ↔ _
  simp only [Bool.or_eq_true, Bool.and_eq_true, decide_eq_true_eq, List.any_eq_true]
  constructor
  · rintro (h | ⟨⟨u, v⟩, h1, h2⟩)
    · exact .inl h
    · unfold pairR at h2
      simp only [Bool.and_eq_true, beq_iff_eq, decide_eq_true_eq] at h2
      obtain ⟨rfl, h2⟩ := h2
      exact .inr ⟨u, h2, h1⟩
  · rintro (h | ⟨p, h1, h2⟩)
    · exact .inl h
    · exact .inr ⟨_, h2, by unfold pairR; simp [h1]⟩
theorem takes_iff {a : Mka} {se : Bool} {ms : List Int} {j k : Nat} {m : Int} (hm : ms[k]? = some m) : takesAt (raOf se a) j m = true ↔ tkL ms a.l.lv ((j + 1 : Nat) : Int) k := by
  unfold takesAt tkL
  show (match a.l.lv[j]? with | some e => takesI e.k e.c m | none => false) = true ↔ _
  rw [show (((j + 1 : Nat) : Int) - 1).toNat = j by omega]
  constructor
  · intro h
    cases hx : a.l.lv[j]? with
    | none => rw [hx] at h; simp at h
    | some e => rw [hx] at h; exact ⟨by omega, e, m, rfl, hm, h⟩
  · rintro ⟨_, x, m', h1, h2, h3⟩
    rw [hm] at h2
    injection h2 with h2
    subst h2
    rw [h1]
    exact h3
/-- The set behind the first marks. -/
theorem stK_mem {ms : List Int} {a : Mka} {t : St} {n : Nat} {se : Bool} {Ds : Nat → Nat → Nat → Prop} {T : Nat → Int → Nat → Prop} (h : MuOk (tkL ms a.l.lv) a n Ds T) (hok : MkaOk a t n) (hl : a.l.lv.length ≤ 1000) :
    ∀ k, k ≤ ms.length → ∀ p : Nat, (p : Int) ∈ stK se t ms k ↔ (p = 0 ∧ (k = 0 ∨ se = true)) ∨ ∃ i, i ≤ k ∧ (i = 0 ∨ se = true) ∧ T i (p : Int) k
  | 0, _, p => by
    rw [stK_zero]
    constructor
    · intro hp
      simp at hp
      exact .inl ⟨hp, .inl rfl⟩
    · rintro (⟨rfl, _⟩ | ⟨i, _, _, ht⟩)
      · simp
      · exact (h.l0 _ _ ht).elim
  | k + 1, hk, p => by
    obtain ⟨m, hm⟩ : ∃ m, ms[k]? = some m := ⟨_, List.getElem?_eq_getElem (show k < ms.length by omega)⟩
    have ih := stK_mem (se := se) h hok hl k (by omega)
    have hpl := stK_plc (se := se) hok ms k (by omega)
    obtain ⟨b0, b1, b2⟩ := step_bit (se := se) hok (stK se t ms k) m hpl
    rw [stK_succ hm, mem_posI]
    cases p with
    | zero =>
      constructor
      · rintro ⟨q, e, hq⟩
        obtain rfl : q = 0 := by omega
        rw [inM_lt (by omega), b0] at hq
        exact .inl ⟨rfl, .inr hq⟩
      · rintro (⟨_, e | e⟩ | ⟨i, _, _, ht⟩)
        · omega
        · exact ⟨0, rfl, by rw [inM_lt (by omega), b0]; exact e⟩
        · have := h.rng i _ _ ht; omega
    | succ j =>
      have key : (mayR (raOf se a) (stK se t ms k) ((j + 1 : Nat) : Int) && takesAt (raOf se a) j m) = true ↔ ∃ i, i ≤ k + 1 ∧ (i = 0 ∨ se = true) ∧ T i ((j + 1 : Nat) : Int) (k + 1) := by
        rw [Bool.and_eq_true, may_iff, takes_iff hm]
        constructor
        · rintro ⟨(⟨h0, hf⟩ | ⟨q, hq, hP⟩), htk⟩
          · rcases (ih 0).1 h0 with ⟨_, e⟩ | ⟨i, _, _, ht⟩
            · exact ⟨k, by omega, e, (h.l2 _ _ _).2 ⟨htk, .inl ⟨rfl, hf⟩⟩⟩
            · have := h.rng i _ _ ht; omega
          · have hq2 := h.prg q _ hP
            obtain ⟨qn, rfl⟩ : ∃ qn : Nat, q = (qn : Int) := ⟨q.toNat, by omega⟩
            rcases (ih qn).1 hq with ⟨e, _⟩ | ⟨i, hi, hs, ht⟩
            · omega
            · exact ⟨i, by omega, hs, (h.l2 _ _ _).2 ⟨htk, .inr ⟨_, ht, hP⟩⟩⟩
        · rintro ⟨i, hi, hs, ht⟩
          obtain ⟨htk, ⟨rfl, hf⟩ | ⟨q, hq, hP⟩⟩ := (h.l2 _ _ _).1 ht
          · exact ⟨.inl ⟨(ih 0).2 (.inl ⟨rfl, hs⟩), hf⟩, htk⟩
          · have hq2 := h.prg q _ hP
            have hik := h.lt k i q hq
            obtain ⟨qn, rfl⟩ : ∃ qn : Nat, q = (qn : Int) := ⟨q.toNat, by omega⟩
            exact ⟨.inr ⟨_, (ih qn).2 (.inr ⟨i, by omega, hs, hq⟩), hP⟩, htk⟩
      constructor
      · rintro ⟨q, e, hq⟩
        obtain rfl : q = j + 1 := by omega
        have h1024 : j + 1 < 1024 := by
          unfold inM at hq
          simp at hq
          omega
        rw [inM_lt h1024, b1] at hq
        exact .inr (key.1 hq)
      · rintro (⟨e, _⟩ | hT)
        · omega
        · have ht := hT
          obtain ⟨i, _, _, ht⟩ := ht
          have := h.rng i _ _ ht
          exact ⟨j + 1, rfl, by rw [inM_lt (by omega), b1]; exact key.2 hT⟩
/-- What an automaton tells. -/
theorem tells_leads (ks : List E) (ms : List Int) (se : Bool) (hr : ks.all rightE = true) (hc : lvL ks ≤ 900) (b : Nat) :
    (tellsU (mkN ks) (stK se (mkN ks) ms ms.length)).testBit b = true ↔ ∃ e, ks[b]? = some e ∧ ∃ i, i ≤ ms.length ∧ (i = 0 ∨ se = true) ∧ DE ms e i ms.length := by
  have hc' : leavesE.lvL ks < 1000 := by unfold lvL at hc; omega
  have hok := makeN_ok ks hr hc'
  have hlv := (makeN_count ks hr hc').1
  obtain ⟨T, h⟩ := mu_all ms ks hr hc' ks.length (Nat.le_refl _)
  rw [List.take_length] at h
  generalize makeL ks 0 mka0 = a at hok h hlv
  have hl : a.l.lv.length ≤ 1000 := by omega
  have hm := stK_mem (se := se) h hok hl ms.length (Nat.le_refl _)
  have hbl : b < ks.length → ∀ i j, (∃ e, ks[b]? = some e ∧ DE ms e i j) ↔ (i = j ∧ a.em.testBit b = true) ∨ ∃ p : Nat, (p : Int) ∈ a.la ∧ a.l.of[p - 1]? = some (b : Int) ∧ T i p j := fun hb i j => h.l1 b hb i j
  rw [tellsU_bit]
  constructor
  · rintro ⟨p, hp, h0, hb⟩
    obtain ⟨pn, rfl⟩ : ∃ pn : Nat, p = (pn : Int) := ⟨p.toNat, by omega⟩
    rw [Int.toNat_natCast, hok.ht] at hb
    rcases hb with ⟨rfl, he⟩ | ⟨hla, hof⟩
    · have hbn : b < ks.length := by
        refine Nat.lt_of_not_le fun hge => ?_
        rw [Nat.testBit_lt_two_pow (Nat.lt_of_lt_of_le hok.he (Nat.pow_le_pow_right (by omega) hge))] at he
        cases he
      rcases (hm 0).1 hp with ⟨_, e⟩ | ⟨i, _, _, ht⟩
      · obtain ⟨x, hx, hd⟩ := (hbl hbn ms.length ms.length).2 (.inl ⟨rfl, he⟩)
        refine ⟨x, hx, ms.length, Nat.le_refl _, ?_, hd⟩
        exact e
      · have := h.rng i _ _ ht; omega
    · have hp2 := hok.ha _ hla
      have hbn : b < ks.length := by obtain ⟨b', e1, e2⟩ := hok.ho _ _ hof; omega
      rcases (hm pn).1 hp with ⟨e, _⟩ | ⟨i, hi, hs, ht⟩
      · omega
      · obtain ⟨x, hx, hd⟩ := (hbl hbn i ms.length).2 (.inr ⟨pn, hla, hof, ht⟩)
        exact ⟨x, hx, i, hi, hs, hd⟩
  · rintro ⟨e, he, i, hi, hs, hd⟩
    have hbn : b < ks.length := (List.getElem?_eq_some_iff.1 he).1
    rcases (hbl hbn i ms.length).1 ⟨e, he, hd⟩ with ⟨rfl, hem⟩ | ⟨p, hla, hof, ht⟩
    · refine ⟨0, (hm 0).2 (.inl ⟨rfl, hs⟩), by omega, (hok.ht _ _).2 (.inl ⟨rfl, hem⟩)⟩
    · refine ⟨(p : Int), (hm p).2 (.inr ⟨i, hi, hs, ht⟩), by omega, ?_⟩
      rw [Int.toNat_natCast]
      exact (hok.ht _ _).2 (.inr ⟨hla, hof⟩)
end Go.Proofs.YtmldgfplnacecaaDoor

namespace Go.Proofs.YtmldgfplnacecaaDoor
open Go.RowKit Go.Shelf Go.Lib Go.Great Go.Maps

/-- An array by its cells. -/
def arr (n : Nat) (f : Nat → Value) : Array Value := ((List.range n).map f).toArray
theorem arr_size (n : Nat) (f : Nat → Value) : (arr n f).size = n := by simp [arr]
theorem arr_get {n i : Nat} (f : Nat → Value) (h : i < n) : (arr n f)[i]? = some (f i) := by simp [arr, h]
theorem arr_none {n i : Nat} (f : Nat → Value) (h : n ≤ i) : (arr n f)[i]? = none := by simp [arr, h]
theorem arr_set (n i : Nat) (f : Nat → Value) (v : Value) : (arr n f).setIfInBounds i v = arr n (fun j => if j = i then v else f j) := by
  apply Array.ext_getElem?
  intro j
  rw [Array.getElem?_setIfInBounds]
  by_cases hj : j < n
  · rw [arr_get f hj, arr_get (fun j => if j = i then v else f j) hj]
    by_cases e : i = j
    · subst e; rw [if_pos rfl, if_pos (by rw [arr_size]; exact hj), if_pos rfl]
    · rw [if_neg e, if_neg (fun h => e h.symm)]
  · rw [arr_none f (by omega), arr_none (fun j => if j = i then v else f j) (by omega)]
    split
    · rw [if_neg (by rw [arr_size]; omega)]
    · rfl
theorem arr_congr {n : Nat} {f g : Nat → Value} (h : ∀ i, i < n → f i = g i) : arr n f = arr n g := by
  unfold arr
  congr 1
  exact List.map_congr_left fun i hi => h i (List.mem_range.1 hi)
theorem made_arr (z : Value) (n : Nat) : madeCells #[z] n = arr n (fun _ => z) := by
  apply Array.ext_getElem?
  intro j
  by_cases hj : j < n
  · rw [arr_get _ hj]; simp [madeCells, hj, Nat.mod_one]
  · rw [arr_none _ (by omega)]; simp [madeCells]; omega
set_option maxRecDepth 100000 in
theorem make_heads (n : Nat) (hn : n ≤ 100000) (w : World) : (Instr.makeSlice 45 (.int .i64 (n : Int)) (.int .i64 (n : Int))).run Tryd.prog w = .ok (.slice (some ⟨w.heap.size, 0, none⟩) n n) (w.alloc (.cells (arr n fun _ => .slice none 0 0) 49)) := by
  obtain ⟨i, hi, hz, hsize, hby⟩ : ∃ i, Tryd.prog.info? 49 = some i ∧ i.zero = some (.slice none 0 0) ∧ i.size = 1 ∧ i.bytes = 24 := ⟨_, rfl, rfl, rfl, rfl⟩
  have := run_make (P := Tryd.prog) w 45 49 i _ Tryd.underlying45 hi hz .i64 .i64 (n : Int) (n : Int) (by omega) (by omega) (by rw [hby]; omega) (by omega)
  rw [hsize] at this
  rw [this, ← made_arr]
  simp [Value.cells]
set_option maxRecDepth 100000 in
theorem make_row (n : Nat) (hn : n ≤ 100000) (w : World) : (Instr.makeSlice 49 (.int .i64 (n : Int)) (.int .i64 (n : Int))).run Tryd.prog w = .ok (.slice (some ⟨w.heap.size, 0, none⟩) n n) (w.alloc (.cells (arr n fun _ => .bool false) 4)) := by
  obtain ⟨i, hi, hz, hsize, hby⟩ : ∃ i, Tryd.prog.info? 4 = some i ∧ i.zero = some (.bool false) ∧ i.size = 1 ∧ i.bytes = 1 := ⟨_, rfl, rfl, rfl, rfl⟩
  have := run_make (P := Tryd.prog) w 49 4 i _ Tryd.underlying49 hi hz .i64 .i64 (n : Int) (n : Int) (by omega) (by omega) (by rw [hby]; omega) (by omega)
  rw [hsize] at this
  rw [this, ← made_arr]
  simp [Value.cells]
/-- A table, as it lies. -/
structure TbB (w : World) (K : Nat) (f : Nat → Nat → Bool) (b : Nat) : Prop where
  lt : b < w.heap.size
  r : ∀ i, i < K → ∃ r, w.cell? ⟨b, i, none⟩ = some (.slice (some ⟨r, 0, none⟩) K K) ∧ r < w.heap.size ∧ ∀ j, j < K → w.cell? ⟨r, j, none⟩ = some (.bool (f i j))
theorem TbB.on {w w' : World} {K b : Nat} {f : Nat → Nat → Bool} (h : TbB w K f b) (hb : Below w.heap.size w w') : TbB w' K f b :=
  ⟨Nat.lt_of_lt_of_le h.lt hb.size, fun i hi => by
    obtain ⟨r, h1, h2, h3⟩ := h.r i hi
    exact ⟨r, (hb.cell (p := ⟨b, i, none⟩) h.lt).trans h1, Nat.lt_of_lt_of_le h2 hb.size, fun j hj => (hb.cell (p := ⟨r, j, none⟩) h2).trans (h3 j hj)⟩⟩
theorem TbB.congr {w : World} {K b : Nat} {f g : Nat → Nat → Bool} (h : TbB w K f b) (hg : ∀ i j, i < K → j < K → f i j = g i j) : TbB w K g b :=
  ⟨h.lt, fun i hi => by
    obtain ⟨r, h1, h2, h3⟩ := h.r i hi
    exact ⟨r, h1, h2, fun j hj => by rw [h3 j hj, hg i j hi hj]⟩⟩
def TbOk (w : World) (K : Nat) (f : Nat → Nat → Bool) (r : Ending) (w' : World) : Prop := ∃ b, r = .returned (.slice (some ⟨b, 0, none⟩) K K) ∧ TbB w' K f b ∧ Below w.heap.size w w'
theorem cells_apart {w : World} {k k' t t' : Nat} {cs cs' : Array Value} (h : Cells w k t cs) (h' : Cells w k' t' cs') (hne : t ≠ t') : k ≠ k' := by
  rintro rfl
  unfold Cells at h h'
  rw [h] at h'
  simp at h'
  exact hne h'.2
def headsV (K n : Nat) (rs : Nat → Nat) : Array Value := arr K fun i => if i < n then .slice (some ⟨rs i, 0, none⟩) K K else .slice none 0 0
/-- A table while it is made: so many rows are there. -/
structure TbM (w0 w : World) (b K n : Nat) (rs : Nat → Nat) (f : Nat → Nat → Bool) : Prop where
  bl : Below w0.heap.size w0 w
  hb : w0.heap.size ≤ b
  h : Cells w b 49 (headsV K n rs)
  r : ∀ i, i < n → w0.heap.size ≤ rs i ∧ Cells w (rs i) 4 (arr K fun j => .bool (f i j))
  d : ∀ i j, i < n → j < n → rs i = rs j → i = j
section
variable {w0 w w' : World} {b K n : Nat} {rs : Nat → Nat} {f : Nat → Nat → Bool}
theorem TbM.drew (h : TbM w0 w b K n rs f) : TbM w0 w.drew b K n rs f := ⟨h.bl.drew, h.hb, h.h, fun i hi => ⟨(h.r i hi).1, (h.r i hi).2⟩, h.d⟩
theorem TbM.on (h : TbM w0 w b K n rs f) (hb : Below w.heap.size w w') : TbM w0 w' b K n rs f := ⟨h.bl.trans (hb.mono h.bl.size), h.hb, h.h.on hb, fun i hi => ⟨(h.r i hi).1, (h.r i hi).2.on hb⟩, h.d⟩
theorem TbM.start (w0 w : World) (hb : Below w0.heap.size w0 w) (K : Nat) (rs : Nat → Nat) (f : Nat → Nat → Bool) : TbM w0 (w.alloc (.cells (arr K fun _ => .slice none 0 0) 49)) w.heap.size K 0 rs f :=
  ⟨hb.alloc hb.size _, hb.size, by
    have := cells_new w (arr K fun _ => Value.slice none 0 0) 49
    unfold headsV
    simpa using this, fun i hi => by omega, fun i j hi => by omega⟩
/-- A row more. -/
theorem TbM.row (h : TbM w0 w b K n rs f) : TbM w0 ((w.setCell ⟨b, n, none⟩ (.slice (some ⟨w.heap.size, 0, none⟩) K K)).alloc (.cells (arr K fun _ => .bool false) 4)) b K (n + 1) (fun i => if i = n then w.heap.size else rs i) (fun i j => if i = n then false else f i j) := by
  have hbl := h.h.lt
  have hh := h.h.set n (.slice (some ⟨w.heap.size, 0, none⟩) K K)
  have hs : (w.setCell ⟨b, n, none⟩ (.slice (some ⟨w.heap.size, 0, none⟩) K K)).heap.size = w.heap.size := by simp
  have hr : ∀ i, i < n → Cells (w.setCell ⟨b, n, none⟩ (.slice (some ⟨w.heap.size, 0, none⟩) K K)) (rs i) 4 (arr K fun j => .bool (f i j)) := fun i hi => by
    have k2 := (h.r i hi).2
    have := cells_apart k2 h.h (by decide)
    unfold Cells at k2 ⊢
    rw [Below.heap_setCell _ _ _ _ (by simpa using this)]
    exact k2
  have hb0 : Below w0.heap.size w0 (w.setCell ⟨b, n, none⟩ (.slice (some ⟨w.heap.size, 0, none⟩) K K)) := h.bl.setCell h.hb _
  obtain ⟨W, hW⟩ : ∃ W, w.setCell ⟨b, n, none⟩ (.slice (some ⟨w.heap.size, 0, none⟩) K K) = W := ⟨_, rfl⟩
  rw [hW] at hh hs hr hb0 ⊢
  have nb := below_new W (.cells (arr K fun _ => .bool false) 4)
  have hn := cells_new W (arr K fun _ => .bool false) 4
  rw [hs] at hn
  refine ⟨hb0.alloc hb0.size _, h.hb, ?_, fun i hi => ?_, fun i j hi hj e => ?_⟩
  · have := hh.on nb
    unfold headsV at this
    rw [arr_set] at this
    unfold headsV
    rw [show (arr K fun i => if i < n + 1 then Value.slice (some ⟨if i = n then w.heap.size else rs i, 0, none⟩) K K else .slice none 0 0) = arr K (fun j => if j = n then .slice (some ⟨w.heap.size, 0, none⟩) K K else if j < n then .slice (some ⟨rs j, 0, none⟩) K K else .slice none 0 0) from arr_congr fun i _ => by
      by_cases e : i = n
      · subst e; simp
      · by_cases l : i < n
        · rw [if_pos (show i < n + 1 by omega), if_neg e, if_neg e, if_pos l]
        · rw [if_neg (show ¬ i < n + 1 by omega), if_neg e, if_neg l]]
    exact this
  · by_cases e : i = n
    · subst e
      simp only [if_true]
      exact ⟨h.bl.size, hn⟩
    · simp only [if_neg e]
      exact ⟨(h.r i (by omega)).1, (hr i (by omega)).on nb⟩
  · by_cases e1 : i = n
    · by_cases e2 : j = n
      · omega
      · simp only [if_pos e1, if_neg e2] at e
        have := (h.r j (by omega)).2.lt
        omega
    · by_cases e2 : j = n
      · simp only [if_neg e1, if_pos e2] at e
        have := (h.r i (by omega)).2.lt
        omega
      · simp only [if_neg e1, if_neg e2] at e
        exact h.d i j (by omega) (by omega) e
/-- A cell is set. -/
theorem TbM.put (h : TbM w0 w b K n rs f) {i j : Nat} (hi : i < n) (v : Bool) : TbM w0 (w.setCell ⟨rs i, j, none⟩ (.bool v)) b K n rs (fun a c => if a = i ∧ c = j then v else f a c) := by
  obtain ⟨k1, k2⟩ := h.r i hi
  refine ⟨h.bl.setCell k1 _, h.hb, ?_, fun a ha => ⟨(h.r a ha).1, ?_⟩, h.d⟩
  · have := cells_apart h.h k2 (by decide)
    have hh := h.h
    unfold Cells at hh ⊢
    rw [Below.heap_setCell _ _ _ _ (by simpa using this)]
    exact hh
  · by_cases e : a = i
    · subst e
      have := k2.set j (.bool v)
      rw [arr_set] at this
      rw [show (arr K fun c => Value.bool (if a = a ∧ c = j then v else f a c)) = arr K (fun c => if c = j then .bool v else .bool (f a c)) from arr_congr fun c _ => by
        by_cases e : c = j
        · rw [if_pos e, if_pos ⟨rfl, e⟩]
        · rw [if_neg e, if_neg (fun q => e q.2)]]
      exact this
    · obtain ⟨_, q2⟩ := h.r a ha
      have hne : rs a ≠ rs i := fun q => e (h.d a i ha hi q)
      rw [show (arr K fun c => Value.bool (if a = i ∧ c = j then v else f a c)) = arr K (fun c => .bool (f a c)) from arr_congr fun c _ => by rw [if_neg (fun q => e q.1)]]
      unfold Cells at q2 ⊢
      rw [Below.heap_setCell _ _ _ _ (by simpa using hne)]
      exact q2
/-- All rows are there. -/
theorem TbM.done (h : TbM w0 w b K K rs f) : TbB w K f b :=
  ⟨h.h.lt, fun i hi => ⟨rs i, by
    rw [h.h.cell i]
    unfold headsV
    rw [arr_get _ hi, if_pos hi], (h.r i hi).2.lt, fun j hj => by rw [(h.r i hi).2.cell j, arr_get _ hj]⟩⟩
theorem TbM.head (h : TbM w0 w b K n rs f) {i : Nat} (hi : i < K) (hn : i < n) : w.cell? ⟨b, i, none⟩ = some (.slice (some ⟨rs i, 0, none⟩) K K) := by
  rw [h.h.cell i]
  unfold headsV
  rw [arr_get _ hi, if_pos hn]
theorem TbM.head0 (h : TbM w0 w b K n rs f) {i : Nat} (hi : i < K) (hn : n ≤ i) : w.cell? ⟨b, i, none⟩ = some (.slice none 0 0) := by
  rw [h.h.cell i]
  unfold headsV
  rw [arr_get _ hi, if_neg (by omega)]
theorem TbM.cell (h : TbM w0 w b K n rs f) {i j : Nat} (hi : i < n) (hj : j < K) : w.cell? ⟨rs i, j, none⟩ = some (.bool (f i j)) := by
  rw [(h.r i hi).2.cell j, arr_get _ hj]
end
end Go.Proofs.YtmldgfplnacecaaDoor

namespace Go.Proofs.YtmldgfplnacecaaDoor
open Go.RowKit Go.Shelf Go.Lib Go.Great Go.Maps

set_option maxHeartbeats 8000000 in
set_option maxRecDepth 100000 in
theorem either_any {K : Nat} (hK : K ≤ 1000) {f g : Nat → Nat → Bool} {ba bg : Nat} {w : World} (hf : TbB w K f ba) (hg : TbB w K g bg) :
    Calls Tryd.prog 62 #[.slice (some ⟨ba, 0, none⟩) K K, .slice (some ⟨bg, 0, none⟩) K K] w (TbOk w K fun i j => f i j || g i j) := by
  obtain ⟨F, hF⟩ : ∃ F : Nat → Nat → Bool, (fun i j => f i j || g i j) = F := ⟨_, rfl⟩
  have hFi : ∀ i j, F i j = (f i j || g i j) := fun i j => by rw [← hF]
  rw [hF]
  have H := Lib.hid (And.intro hf (And.intro hg hFi))
  have mk1 := make_heads K (by omega) w
  clear hf hg hF hFi
  go_enter Tryd.func62, Tryd.ntmps62
  go_wp2_with fail
  clear mk1
  go_loopw [6] (fun u wr => ∃ (i : Nat) (rs : Nat → Nat) (q : Nat → Nat → Bool), u = .int .i64 (i : Int) ∧ i ≤ K ∧ TbM w wr w.heap.size K i rs q ∧ ∀ a, a < i → ∀ c, c < K → q a c = F a c) (fun u _ => K - (RowKit.intOf u).toNat)
  case atStart => exact ⟨0, fun _ => 0, fun _ _ => false, rfl, by omega, TbM.start w w (Below.refl _ _) K _ _, fun a ha => by omega⟩
  case round =>
    obtain ⟨i, rs, q, rfl, hi, hM, hq⟩ := hrel
    by_cases hlt : i < K
    · have i1 : (i : Int) < (K : Int) := by omega
      have mk2 := make_row K (by omega) wr
      have nb := below_new wr (.cells (arr K fun _ => .bool false) 4)
      have c0 : wr.cell? ⟨w.heap.size, i, none⟩ = some (.slice none 0 0) := hM.head0 hlt (Nat.le_refl _)
      have z0 : w.heap.size < wr.heap.size := hM.h.lt
      have f0 : wr.frozen? ⟨w.heap.size, i, none⟩ = false := hM.h.froz i
      have hM1 := hM.row
      obtain ⟨W1, hW1⟩ : ∃ W, (wr.setCell ⟨w.heap.size, i, none⟩ (.slice (some ⟨wr.heap.size, 0, none⟩) K K)).alloc (.cells (arr K fun _ => .bool false) 4) = W := ⟨_, rfl⟩
      rw [hW1] at hM1
      have HW := Lib.hid hW1
      have HM := Lib.hid (And.intro hM1 (And.intro hq hlt))
      clear hM hq hM1 hW1 nb
      go_wp2_with fail
      rw [HW.out]
      clear mk2 c0 z0 f0
      obtain ⟨wo, rfl⟩ : ∃ W : World, W = wr := ⟨_, rfl⟩
      go_loopw [7] (fun u wi => ∃ (j : Nat) (q' : Nat → Nat → Bool), u = .int .i64 (j : Int) ∧ j ≤ K ∧ TbM w wi w.heap.size K (i + 1) (fun a => if a = i then wo.heap.size else rs a) q' ∧ (∀ a, a < i → ∀ c, c < K → q' a c = F a c) ∧ ∀ c, c < j → q' i c = F i c) (fun u _ => K - (RowKit.intOf u).toNat)
      case atStart => exact ⟨0, _, rfl, by omega, HM.out.1, fun a ha c hc => by rw [if_neg (by omega)]; exact HM.out.2.1 a ha c hc, fun c hc => by omega⟩
      case round =>
        obtain ⟨j, q', rfl, hj, hM', hq1, hq2⟩ := hrel
        by_cases hjl : j < K
        · have i2 : (j : Int) < (K : Int) := by omega
          have hil := HM.out.2.2
          have hb := hM'.bl
          obtain ⟨r1, a1, a2, a3⟩ := (H.out.1.on hb).r i hil
          obtain ⟨r2, b1, b2, b3⟩ := (H.out.2.1.on hb).r i hil
          have a3 := a3 j hjl
          have b3 := b3 j hjl
          have hro : (if i = i then wo.heap.size else rs i) = wo.heap.size := if_pos rfl
          have c1 := hM'.head hil (Nat.lt_succ_self i)
          have hc2 := (hM'.r i (Nat.lt_succ_self i)).2
          rw [hro] at c1 hc2
          have f2 : wr.frozen? ⟨wo.heap.size, j, none⟩ = false := hc2.froz j
          have z2 : wo.heap.size < wr.heap.size := hc2.lt
          have c2 : wr.cell? ⟨wo.heap.size, j, none⟩ = some (.bool (q' i j)) := by rw [hc2.cell j, arr_get _ hjl]
          have hF := H.out.2.2 i j
          have hP := fun v => (hM'.put (i := i) (j := j) (Nat.lt_succ_self i) v)
          rw [hro] at hP
          have hend : ∀ v, v = F i j → ∃ (j2 : Nat) (q2 : Nat → Nat → Bool), Value.int .i64 ((j : Int) + 1) = .int .i64 (j2 : Int) ∧ j2 ≤ K ∧ TbM w ((wr.setCell ⟨wo.heap.size, j, none⟩ (.bool v)).drew) w.heap.size K (i + 1) (fun a => if a = i then wo.heap.size else rs a) q2 ∧ (∀ a, a < i → ∀ c, c < K → q2 a c = F a c) ∧ ∀ c, c < j2 → q2 i c = F i c := fun v hv => by
            refine ⟨j + 1, _, by simp, by omega, (hP v).drew, fun a ha c hc => ?_, fun c hc => ?_⟩
            · rw [if_neg (by omega)]; exact hq1 a ha c hc
            · by_cases e : c = j
              · rw [if_pos ⟨rfl, e⟩, hv, e]
              · rw [if_neg (fun h => e h.2)]; exact hq2 c (by omega)
          have HE := Lib.hid hend
          have hii : (i : Int) < (K : Int) := by omega
          clear hP hend hM' hq1 hq2 hc2 hro hb hi
          cases e1 : f i j with
          | true =>
            rw [e1] at a3 hF
            have HF := Lib.hid (HE.out true (by rw [hF]; rfl))
            clear hF
            go_wp2_with fail
            go_region
            all_goals
              go_wp2_with fail
              go_roundw
              case rel => exact HF.out
              case measure => simp [RowKit.intOf]; omega
          | false =>
            rw [e1] at a3 hF
            cases e2 : g i j with
            | true =>
              rw [e2] at b3 hF
              have HF := Lib.hid (HE.out true (by rw [hF]; rfl))
              clear hF
              go_wp2_with fail
              go_region
              all_goals
                go_wp2_with fail
                go_roundw
                case rel => exact HF.out
                case measure => simp [RowKit.intOf]; omega
            | false =>
              rw [e2] at b3 hF
              have HF := Lib.hid (HE.out false (by rw [hF]; rfl))
              clear hF
              go_wp2_with fail
              go_region
              all_goals
                go_wp2_with fail
                go_roundw
                case rel => exact HF.out
                case measure => simp [RowKit.intOf]; omega
        · obtain rfl : j = K := by omega
          have i2 : ¬ (j : Int) < (j : Int) := by omega
          have i2' : decide ((j : Int) < (j : Int)) = false := by simp
          have hend : ∃ (i2 : Nat) (rs2 : Nat → Nat) (q2 : Nat → Nat → Bool), Value.int .i64 ((i : Int) + 1) = .int .i64 (i2 : Int) ∧ i2 ≤ j ∧ TbM w wr w.heap.size j i2 rs2 q2 ∧ ∀ a, a < i2 → ∀ c, c < j → q2 a c = F a c := by
            refine ⟨i + 1, _, q', by simp, by have := HM.out.2.2; omega, hM', fun a ha c hc => ?_⟩
            by_cases e : a = i
            · subst e; exact hq2 c hc
            · exact hq1 a (by omega) c hc
          have HE := Lib.hid hend
          have HI := HM.out.2.2
          clear hend hM' hq1 hq2
          go_wp2_with fail
          go_roundw
          case rel => exact HE.out
          case measure => simp [RowKit.intOf]; omega
    · obtain rfl : i = K := by omega
      have i1 : ¬ (i : Int) < (i : Int) := by omega
      have i1' : decide ((i : Int) < (i : Int)) = false := by simp
      have HE := Lib.hid (And.intro (hM.done.congr (fun a c ha hc => hq a ha c hc)) hM.bl)
      clear hM hq
      go_wp2_with fail
      go_ret
      exact ⟨_, rfl, HE.out.1, HE.out.2⟩
end Go.Proofs.YtmldgfplnacecaaDoor

namespace Go.Proofs.YtmldgfplnacecaaDoor
open Go.RowKit Go.Shelf Go.Lib Go.Great Go.Maps

def viaB (f g : Nat → Nat → Bool) (i : Nat) : Nat → Nat → Bool
  | 0, _ => false
  | k + 1, c => viaB f g i k c || (f i k && g k c)
def RestB (f : Nat → Nat → Bool) (i k j : Nat) : Prop := f i k = true ∨ j = 0
set_option maxHeartbeats 8000000 in
set_option maxRecDepth 100000 in
theorem times_any {K : Nat} (hK : K ≤ 1000) {f g : Nat → Nat → Bool} {ba bg : Nat} {w : World} (hf : TbB w K f ba) (hg : TbB w K g bg) :
    Calls Tryd.prog 61 #[.slice (some ⟨ba, 0, none⟩) K K, .slice (some ⟨bg, 0, none⟩) K K] w (TbOk w K fun i c => viaB f g i K c) := by
  obtain ⟨P, hP⟩ : ∃ P : Nat → Nat → Nat → Bool, viaB f g = P := ⟨_, rfl⟩
  have hP0 : ∀ i c, P i 0 c = false := fun i c => by rw [← hP]; rfl
  have hPs : ∀ i k c, P i (k + 1) c = (P i k c || (f i k && g k c)) := fun i k c => by rw [← hP]; rfl
  rw [hP]
  have H := Lib.hid (And.intro hf (And.intro hg (And.intro hP0 hPs)))
  have mk1 := make_heads K (by omega) w
  clear hf hg hP hP0 hPs
  go_enter Tryd.func61, Tryd.ntmps61
  go_wp2_with fail
  clear mk1
  go_loopw [6] (fun u wr => ∃ (i : Nat) (rs : Nat → Nat) (q : Nat → Nat → Bool), u = .int .i64 (i : Int) ∧ i ≤ K ∧ TbM w wr w.heap.size K i rs q ∧ ∀ a, a < i → ∀ c, c < K → q a c = P a K c) (fun u _ => K - (RowKit.intOf u).toNat)
  case atStart => exact ⟨0, fun _ => 0, fun _ _ => false, rfl, by omega, TbM.start w w (Below.refl _ _) K _ _, fun a ha => by omega⟩
  case round =>
    obtain ⟨i, rs, q, rfl, hi, hM, hq⟩ := hrel
    by_cases hlt : i < K
    · have i1 : (i : Int) < (K : Int) := by omega
      have mk2 := make_row K (by omega) wr
      have c0 : wr.cell? ⟨w.heap.size, i, none⟩ = some (.slice none 0 0) := hM.head0 hlt (Nat.le_refl _)
      have z0 : w.heap.size < wr.heap.size := hM.h.lt
      have f0 : wr.frozen? ⟨w.heap.size, i, none⟩ = false := hM.h.froz i
      have hM1 := hM.row
      obtain ⟨W1, hW1⟩ : ∃ W, (wr.setCell ⟨w.heap.size, i, none⟩ (.slice (some ⟨wr.heap.size, 0, none⟩) K K)).alloc (.cells (arr K fun _ => .bool false) 4) = W := ⟨_, rfl⟩
      rw [hW1] at hM1
      have HW := Lib.hid hW1
      have HM := Lib.hid (And.intro hM1 (And.intro hq hlt))
      clear hM hq hM1 hW1
      go_wp2_with fail
      rw [HW.out]
      clear mk2 c0 z0 f0
      obtain ⟨wo, rfl⟩ : ∃ W : World, W = wr := ⟨_, rfl⟩
      go_loopw [7] (fun u wi => ∃ (k : Nat) (q' : Nat → Nat → Bool), u = .int .i64 (k : Int) ∧ k ≤ K ∧ TbM w wi w.heap.size K (i + 1) (fun a => if a = i then wo.heap.size else rs a) q' ∧ (∀ a, a < i → ∀ c, c < K → q' a c = P a K c) ∧ ∀ c, c < K → q' i c = P i k c) (fun u _ => K - (RowKit.intOf u).toNat)
      case atStart => exact ⟨0, _, rfl, by omega, HM.out.1, fun a ha c hc => by rw [if_neg (by omega)]; exact HM.out.2.1 a ha c hc, fun c hc => by rw [if_pos rfl, H.out.2.2.1]⟩
      case round =>
        obtain ⟨k, q', rfl, hk, hM', hq1, hq2⟩ := hrel
        by_cases hkl : k < K
        · have i3 : (k : Int) < (K : Int) := by omega
          have HJ := Lib.hid (And.intro hM' (And.intro hq1 (And.intro hq2 hkl)))
          clear hM' hq1 hq2
          go_wp2_with fail
          obtain ⟨wk, rfl⟩ : ∃ W : World, W = wr := ⟨_, rfl⟩
          go_loopw [8] (fun u wi => ∃ (j : Nat) (q' : Nat → Nat → Bool), u = .int .i64 (j : Int) ∧ j ≤ K ∧ RestB f i k j ∧ TbM w wi w.heap.size K (i + 1) (fun a => if a = i then wo.heap.size else rs a) q' ∧ (∀ a, a < i → ∀ c, c < K → q' a c = P a K c) ∧ ∀ c, c < K → q' i c = if c < j then P i (k + 1) c else P i k c) (fun u _ => K - (RowKit.intOf u).toNat)
          case atStart => exact ⟨0, q', rfl, by omega, .inr rfl, HJ.out.1, HJ.out.2.1, fun c hc => by rw [if_neg (by omega)]; exact HJ.out.2.2.1 c hc⟩
          case round =>
            obtain ⟨j, q2, rfl, hj, hfj, hM', hq1, hq2⟩ := hrel
            have hil := HM.out.2.2
            have hkl := HJ.out.2.2.2
            have hb := hM'.bl
            by_cases hjl : j < K
            · have i2 : (j : Int) < (K : Int) := by omega
              have i2' : decide ((j : Int) < (K : Int)) = true := by simpa using i2
              obtain ⟨r1, a1, a2, a3⟩ := (H.out.1.on hb).r i hil
              replace a3 := a3 k hkl
              have hii : (i : Int) < (K : Int) := by omega
              have hkk : (k : Int) < (K : Int) := by omega
              cases e1 : f i k with
              | true =>
                rw [e1] at a3
                obtain ⟨r2, b1, b2, b3⟩ := (H.out.2.1.on hb).r k hkl
                replace b3 := b3 j hjl
                have hro : (if i = i then wo.heap.size else rs i) = wo.heap.size := if_pos rfl
                have c1 := hM'.head hil (Nat.lt_succ_self i)
                have hc2 := (hM'.r i (Nat.lt_succ_self i)).2
                rw [hro] at c1 hc2
                have f2 : wr.frozen? ⟨wo.heap.size, j, none⟩ = false := hc2.froz j
                have z2 : wo.heap.size < wr.heap.size := hc2.lt
                have c2 : wr.cell? ⟨wo.heap.size, j, none⟩ = some (.bool (q2 i j)) := by rw [hc2.cell j, arr_get _ hjl]
                have hqij := hq2 j hjl
                rw [if_neg (by omega)] at hqij
                have hPs := H.out.2.2.2 i k j
                rw [e1, Bool.true_and] at hPs
                have hP := fun v => (hM'.put (i := i) (j := j) (Nat.lt_succ_self i) v)
                rw [hro] at hP
                have hend : ∀ v, v = P i (k + 1) j → ∃ (j2 : Nat) (q3 : Nat → Nat → Bool), Value.int .i64 ((j : Int) + 1) = .int .i64 (j2 : Int) ∧ j2 ≤ K ∧ RestB f i k j2 ∧ TbM w ((wr.setCell ⟨wo.heap.size, j, none⟩ (.bool v)).drew) w.heap.size K (i + 1) (fun a => if a = i then wo.heap.size else rs a) q3 ∧ (∀ a, a < i → ∀ c, c < K → q3 a c = P a K c) ∧ ∀ c, c < K → q3 i c = if c < j2 then P i (k + 1) c else P i k c := fun v hv => by
                  refine ⟨j + 1, _, by simp, by omega, .inl e1, (hP v).drew, fun a ha c hc => ?_, fun c hc => ?_⟩
                  · rw [if_neg (by omega)]; exact hq1 a ha c hc
                  · by_cases e : c = j
                    · rw [if_pos ⟨rfl, e⟩, hv, if_pos (by omega), e]
                    · rw [if_neg (fun h => e h.2), hq2 c hc]
                      by_cases l : c < j
                      · rw [if_pos l, if_pos (by omega)]
                      · rw [if_neg l, if_neg (by omega)]
                have HE := Lib.hid hend
                have HPQ := Lib.hid (And.intro hqij hPs)
                clear hP hend hM' hq1 hq2 hc2 hro hb hi hqij hPs hfj e1
                cases e3 : q2 i j with
                | true =>
                  rw [e3] at c2
                  have HF := Lib.hid (HE.out true (by rw [HPQ.out.2, ← HPQ.out.1, e3]; rfl))
                  go_wp2_with fail
                  go_region
                  all_goals
                    go_wp2_with fail
                    go_roundw
                    case rel => exact HF.out
                    case measure => simp [RowKit.intOf]; omega
                | false =>
                  rw [e3] at c2
                  cases e2 : g k j with
                  | true =>
                    rw [e2] at b3
                    have HF := Lib.hid (HE.out true (by rw [HPQ.out.2, ← HPQ.out.1, e3, e2]; rfl))
                    go_wp2_with fail
                    go_region
                    all_goals
                      go_wp2_with fail
                      go_roundw
                      case rel => exact HF.out
                      case measure => simp [RowKit.intOf]; omega
                  | false =>
                    rw [e2] at b3
                    have HF := Lib.hid (HE.out false (by rw [HPQ.out.2, ← HPQ.out.1, e3, e2]; rfl))
                    go_wp2_with fail
                    go_region
                    all_goals
                      go_wp2_with fail
                      go_roundw
                      case rel => exact HF.out
                      case measure => simp [RowKit.intOf]; omega
              | false =>
                rw [e1] at a3
                have hj0 : j = 0 := by
                  rcases hfj with e | e
                  · rw [e1] at e; cases e
                  · exact e
                have hend : ∃ (k2 : Nat) (q3 : Nat → Nat → Bool), Value.int .i64 ((k : Int) + 1) = .int .i64 (k2 : Int) ∧ k2 ≤ K ∧ TbM w wr w.heap.size K (i + 1) (fun a => if a = i then wo.heap.size else rs a) q3 ∧ (∀ a, a < i → ∀ c, c < K → q3 a c = P a K c) ∧ ∀ c, c < K → q3 i c = P i k2 c := by
                  refine ⟨k + 1, q2, by simp, by omega, hM', hq1, fun c hc => ?_⟩
                  rw [hq2 c hc, if_neg (by omega), H.out.2.2.2, e1, Bool.false_and, Bool.or_false]
                have HE := Lib.hid hend
                clear hend hM' hq1 hq2 hb hfj hj0
                go_wp2_with fail
                go_roundw
                case rel => exact HE.out
                case measure => simp [RowKit.intOf]; omega
            · obtain rfl : j = K := by omega
              have i2 : ¬ (j : Int) < (j : Int) := by omega
              have i2' : decide ((j : Int) < (j : Int)) = false := by simp
              have hend : ∃ (k2 : Nat) (q3 : Nat → Nat → Bool), Value.int .i64 ((k : Int) + 1) = .int .i64 (k2 : Int) ∧ k2 ≤ j ∧ TbM w wr w.heap.size j (i + 1) (fun a => if a = i then wo.heap.size else rs a) q3 ∧ (∀ a, a < i → ∀ c, c < j → q3 a c = P a j c) ∧ ∀ c, c < j → q3 i c = P i k2 c := by
                refine ⟨k + 1, q2, by simp, by omega, hM', hq1, fun c hc => ?_⟩
                rw [hq2 c hc, if_pos hc]
              have HE := Lib.hid hend
              clear hend hM' hq1 hq2 hb hfj
              go_wp2_with fail
              go_roundw
              case rel => exact HE.out
              case measure => simp [RowKit.intOf]; omega
        · obtain rfl : k = K := by omega
          have i2 : ¬ (k : Int) < (k : Int) := by omega
          have i2' : decide ((k : Int) < (k : Int)) = false := by simp
          have hend : ∃ (i2 : Nat) (rs2 : Nat → Nat) (q2 : Nat → Nat → Bool), Value.int .i64 ((i : Int) + 1) = .int .i64 (i2 : Int) ∧ i2 ≤ k ∧ TbM w wr w.heap.size k i2 rs2 q2 ∧ ∀ a, a < i2 → ∀ c, c < k → q2 a c = P a k c := by
            refine ⟨i + 1, _, q', by simp, by have := HM.out.2.2; omega, hM', fun a ha c hc => ?_⟩
            by_cases e : a = i
            · subst e; exact hq2 c hc
            · exact hq1 a (by omega) c hc
          have HE := Lib.hid hend
          have HI := HM.out.2.2
          clear hend hM' hq1 hq2
          go_wp2_with fail
          go_roundw
          case rel => exact HE.out
          case measure => simp [RowKit.intOf]; omega
    · obtain rfl : i = K := by omega
      have i1 : ¬ (i : Int) < (i : Int) := by omega
      have i1' : decide ((i : Int) < (i : Int)) = false := by simp
      have HE := Lib.hid (And.intro (hM.done.congr (fun a c ha hc => hq a ha c hc)) hM.bl)
      clear hM hq
      go_wp2_with fail
      go_ret
      exact ⟨_, rfl, HE.out.1, HE.out.2⟩
end Go.Proofs.YtmldgfplnacecaaDoor

namespace Go.Proofs.YtmldgfplnacecaaDoor
open Go.RowKit Go.Shelf Go.Lib Go.Great Go.Maps

def oneI (k c m : Int) : Bool := if k = 0 then m == c else if k = 1 then decide (0 ≤ m) && decide (m ≤ 35) else if k = 2 then decide (0 ≤ m) && decide (m ≤ 35) && m != c else k == 3 && m == 36
set_option maxHeartbeats 8000000 in
set_option maxRecDepth 100000 in
theorem one_any (k c m : Int) (A : Option Addr) (n cap : Nat) (w : World) : Calls Tryd.prog 60 #[.agg #[.int .i64 k, .int .i64 c, .slice A n cap], .int .i64 m] w fun e w' => e = .returned (.bool (oneI k c m)) ∧ Below w.heap.size w w' := by
  obtain ⟨R, hR⟩ : ∃ R, oneI k c m = R := ⟨_, rfl⟩
  rw [hR]
  have HR := Lib.hid hR
  have hb := Lib.hid (below_new w (.cells #[.int .i64 k, .int .i64 c, .slice A n cap] 48))
  clear hR
  by_cases h0 : k = 0
  · subst h0
    by_cases hc : m = c
    · subst hc
      go_enter Tryd.func60, Tryd.ntmps60
      go_wp2_with fail
      go_ret
      exact ⟨by rw [← HR.out]; simp [oneI], hb.out⟩
    · have hq : (m == c) = false := by simpa using hc
      go_enter Tryd.func60, Tryd.ntmps60
      go_wp2_with fail
      go_ret
      exact ⟨by rw [← HR.out]; simp [oneI, hc], hb.out⟩
  · have q0 : (k == 0) = false := by simpa using h0
    by_cases h1 : k = 1
    · subst h1
      by_cases m0 : 0 ≤ m
      · by_cases m1 : m ≤ 35
        · go_enter Tryd.func60, Tryd.ntmps60
          go_wp2_with fail
          go_ret
          exact ⟨by rw [← HR.out]; simp [oneI, m0, m1], hb.out⟩
        · have j1 : decide (m ≤ 35) = false := by simpa using m1
          go_enter Tryd.func60, Tryd.ntmps60
          go_wp2_with fail
          go_ret
          exact ⟨by rw [← HR.out]; simp [oneI]; intros; omega, hb.out⟩
      · have j0 : decide (0 ≤ m) = false := by simpa using m0
        go_enter Tryd.func60, Tryd.ntmps60
        go_wp2_with fail
        go_ret
        exact ⟨by rw [← HR.out]; simp [oneI]; intros; omega, hb.out⟩
    · have q1 : (k == 1) = false := by simpa using h1
      by_cases h2 : k = 2
      · subst h2
        by_cases m0 : 0 ≤ m
        · by_cases m1 : m ≤ 35
          · by_cases hc : m = c
            · subst hc
              go_enter Tryd.func60, Tryd.ntmps60
              go_wp2_with fail
              go_ret
              exact ⟨by rw [← HR.out]; simp [oneI], hb.out⟩
            · have hq : (m != c) = true := by simpa using hc
              go_enter Tryd.func60, Tryd.ntmps60
              go_wp2_with fail
              go_ret
              exact ⟨by rw [← HR.out]; simp [oneI, m0, m1, hc], hb.out⟩
          · have j1 : decide (m ≤ 35) = false := by simpa using m1
            go_enter Tryd.func60, Tryd.ntmps60
            go_wp2_with fail
            go_ret
            exact ⟨by rw [← HR.out]; simp [oneI]; intros; omega, hb.out⟩
        · have j0 : decide (0 ≤ m) = false := by simpa using m0
          go_enter Tryd.func60, Tryd.ntmps60
          go_wp2_with fail
          go_ret
          exact ⟨by rw [← HR.out]; simp [oneI]; intros; omega, hb.out⟩
      · have q2 : (k == 2) = false := by simpa using h2
        by_cases h3 : k = 3
        · subst h3
          by_cases hm : m = 36
          · subst hm
            go_enter Tryd.func60, Tryd.ntmps60
            go_wp2_with fail
            go_ret
            exact ⟨by rw [← HR.out]; simp [oneI], hb.out⟩
          · have hq : (m == 36) = false := by simpa using hm
            go_enter Tryd.func60, Tryd.ntmps60
            go_wp2_with fail
            go_ret
            exact ⟨by rw [← HR.out]; simp [oneI, hm], hb.out⟩
        · have q3 : (k == 3) = false := by simpa using h3
          go_enter Tryd.func60, Tryd.ntmps60
          go_wp2_with fail
          go_ret
          exact ⟨by rw [← HR.out]; simp [oneI, h0, h1, h2, h3], hb.out⟩
def cloB (K : Nat) (t : Nat → Nat → Bool) : Nat → Nat → Nat → Bool
  | 0 => t
  | r + 1 => fun i j => cloB K t r i j || viaB (cloB K t r) t i K j
def addB (K : Nat) (k : Int) (f t : Nat → Nat → Bool) : Nat → Nat → Bool :=
  if k = 4 then fun i j => viaB f t i K j else if k = 6 ∨ k = 7 then fun i j => f i j || cloB K t K i j else fun i j => f i j || t i j
def diagB (k : Int) : Bool := k == 4 || k == 6 || k == 8 || k == 9
def baseB (ms : List Int) (k c : Int) (i j : Nat) : Bool := (decide (j = i) && diagB k) || (decide (j = i + 1) && decide (i < ms.length) && decide (k < 4) && oneI k c (ms.getD i 0))
def ldB (ms : List Int) : E → Nat → Nat → Bool
  | .mk k c ks => ldL k ks (baseB ms k c)
where
  ldL (k : Int) : List E → (Nat → Nat → Bool) → Nat → Nat → Bool
    | [], f => f
    | e :: r, f => ldL k r (addB (ms.length + 1) k f (ldB ms e))
theorem ldL_cons (ms : List Int) (k : Int) (e : E) (r : List E) (f : Nat → Nat → Bool) : ldB.ldL ms k (e :: r) f = ldB.ldL ms k r (addB (ms.length + 1) k f (ldB ms e)) := by conv => lhs; unfold ldB.ldL
theorem ldL_append (ms : List Int) (k : Int) : ∀ (a r : List E) (f : Nat → Nat → Bool), ldB.ldL ms k (a ++ r) f = ldB.ldL ms k r (ldB.ldL ms k a f)
  | [], r, f => by simp [ldB.ldL]
  | e :: a, r, f => by rw [List.cons_append, ldL_cons, ldL_cons, ldL_append ms k a r]
theorem ldL_take {ms : List Int} {k : Int} {ks : List E} {i : Nat} {e : E} (h : ks[i]? = some e) (f : Nat → Nat → Bool) : ldB.ldL ms k (ks.take (i + 1)) f = addB (ms.length + 1) k (ldB.ldL ms k (ks.take i) f) (ldB ms e) := by
  rw [List.take_add_one, h, Option.toList_some, ldL_append, ldL_cons]
  simp [ldB.ldL]
theorem ldB_eq (ms : List Int) (e : E) : ldB ms e = ldB.ldL ms e.k e.ks (baseB ms e.k e.c) := by
  cases e
  conv => lhs; unfold ldB
  rfl
end Go.Proofs.YtmldgfplnacecaaDoor

namespace Go.Proofs.YtmldgfplnacecaaDoor
open Go.RowKit Go.Shelf Go.Lib Go.Great Go.Maps

theorem base_row {ms : List Int} {k c : Int} {i j : Nat} {d : Bool} (hd : diagB k = d) (h : (decide (i < ms.length) && decide (k < 4)) = false) : baseB ms k c i j = if j = i then d else false := by
  unfold baseB
  rw [hd]
  have : (decide (j = i + 1) && decide (i < ms.length) && decide (k < 4) && oneI k c (ms.getD i 0)) = false := by
    rw [Bool.and_assoc (decide (j = i + 1)), h]; simp
  rw [this, Bool.or_false]
  by_cases e : j = i
  · rw [if_pos e]; simp [e]
  · rw [if_neg e]; simp [e]
theorem base_leaf {ms : List Int} {k c : Int} {i j : Nat} {m : Int} (hd : diagB k = false) (hk : k < 4) (hm : ms[i]? = some m) : baseB ms k c i j = if j = i + 1 then oneI k c m else false := by
  unfold baseB
  have hi := (List.getElem?_eq_some_iff.1 hm).1
  rw [hd, List.getD_eq_getElem?_getD, hm]
  by_cases e : j = i + 1
  · rw [if_pos e]; simp [e, hi, hk]
  · rw [if_neg e]; simp [e]
theorem diag_lt {k : Int} (h : k < 4) : diagB k = false := by
  unfold diagB
  simp
  omega
set_option maxHeartbeats 16000000 in
set_option maxRecDepth 100000 in
theorem leads_any (ms : List Int) (Am : Option Addr) (cm : Nat) (hms : ms.length ≤ 900) : ∀ N e, szE e ≤ N → ∀ v w, Nd w w.heap.size e v → IS w w.heap.size ms Am cm → Calls Tryd.prog 24 #[v, .slice Am ms.length cm] w (TbOk w (ms.length + 1) (ldB ms e)) := by
  intro N
  induction N with
  | zero => intro e he; have := szE_pos e; omega
  | succ N ih =>
    intro e he v w h hI
    obtain ⟨_, _, A, cap, rfl, hks⟩ := Nd_iff.1 h
    have hkid := fun i f (hf : e.ks[i]? = some f) => szE_kid (List.mem_of_getElem? hf)
    rw [ldB_eq]
    obtain ⟨k, hk⟩ : ∃ k, e.k = k := ⟨_, rfl⟩
    obtain ⟨c, hc⟩ : ∃ c, e.c = c := ⟨_, rfl⟩
    obtain ⟨ks, hkk⟩ : ∃ ks, e.ks = ks := ⟨_, rfl⟩
    rw [hk, hc, hkk]
    rw [hkk] at hks hkid
    have hnb : ks.length ≤ 9223372036854775807 := by have := hks.l; have := hks.m; unfold maxLen at this; omega
    obtain ⟨n, hn⟩ : ∃ n, ks.length = n := ⟨_, rfl⟩
    obtain ⟨nm, hnm⟩ : ∃ n, ms.length = n := ⟨_, rfl⟩
    obtain ⟨K, hK⟩ : ∃ K, nm + 1 = K := ⟨_, rfl⟩
    have hKi : (nm : Int) + 1 = (K : Int) := by omega
    obtain ⟨W0, hW0⟩ : ∃ W, w.alloc (.cells #[.int .i64 k, .int .i64 c, .slice A n cap] 48) = W := ⟨_, rfl⟩
    have b0 : Below w.heap.size w W0 := by rw [← hW0]; exact below_new _ _
    have x0 : Cells W0 w.heap.size 48 #[.int .i64 k, .int .i64 c, .slice A n cap] := by rw [← hW0]; exact cells_new _ _ _
    obtain ⟨F0, hF0⟩ : ∃ F, baseB ms k c = F := ⟨_, rfl⟩
    have hK1000 : K ≤ 1000 := by omega
    have HI := Lib.hid ih
    have H := Lib.hid (And.intro hks (And.intro hkid (And.intro he (And.intro hI (And.intro hn (And.intro hnm (And.intro hK (And.intro b0 (And.intro x0 hF0)))))))))
    have HKi := Lib.hid hKi
    have HW := Lib.hid hW0
    have mk1 := make_heads K (by omega) W0
    rw [hn] at hnb
    rw [hn, hnm, hK, hF0]
    have hnm900 : nm ≤ 900 := by omega
    clear ih hks hkid he h hI hn hnm hK b0 x0 hF0 hKi hW0 hk hc hkk hms
    go_enter Tryd.func24, Tryd.ntmps24
    go_upto_region 2 with fail
    rw [HKi.out, HW.out]
    go_wp2_with fail
    clear mk1
    go_loopw [7] (fun u wr => ∃ (i : Nat) (rs : Nat → Nat) (q : Nat → Nat → Bool), u = .int .i64 (i : Int) ∧ i ≤ K ∧ TbM W0 wr W0.heap.size K i rs q ∧ ∀ a, a < i → ∀ j, j < K → q a j = F0 a j) (fun u _ => K - (RowKit.intOf u).toNat)
    case atStart => exact ⟨0, fun _ => 0, fun _ _ => false, rfl, by omega, TbM.start W0 W0 (Below.refl _ _) K _ _, fun a ha => by omega⟩
    case round =>
      obtain ⟨i, rs, q, rfl, hi, hM, hq⟩ := hrel
      by_cases hlt : i < K
      · have i1 : (i : Int) < (K : Int) := by omega
        have mk2 := make_row K (by omega) wr
        have c0 : wr.cell? ⟨W0.heap.size, i, none⟩ = some (.slice none 0 0) := hM.head0 hlt (Nat.le_refl _)
        have z0 : W0.heap.size < wr.heap.size := hM.h.lt
        have f0 : wr.frozen? ⟨W0.heap.size, i, none⟩ = false := hM.h.froz i
        have hM1 := hM.row
        obtain ⟨W1, hW1⟩ : ∃ W, (wr.setCell ⟨W0.heap.size, i, none⟩ (.slice (some ⟨wr.heap.size, 0, none⟩) K K)).alloc (.cells (arr K fun _ => .bool false) 4) = W := ⟨_, rfl⟩
        rw [hW1] at hM1
        have HW1 := Lib.hid hW1
        have hr1 : (if i = i then wr.heap.size else rs i) = wr.heap.size := if_pos rfl
        have c1 := hM1.head hlt (Nat.lt_succ_self i)
        have hc2 := (hM1.r i (Nat.lt_succ_self i)).2
        have hP := fun v => (hM1.put (i := i) (j := i) (Nat.lt_succ_self i) v).drew
        rw [hr1] at c1 hc2 hP
        have c2 : W1.cell? ⟨wr.heap.size, i, none⟩ = some (.bool false) := by rw [hc2.cell i, arr_get _ hlt, if_pos rfl]
        have f2 : W1.frozen? ⟨wr.heap.size, i, none⟩ = false := hc2.froz i
        have z2 : wr.heap.size < W1.heap.size := hc2.lt
        have xb : Cells W1 w.heap.size 48 #[.int .i64 k, .int .i64 c, .slice A n cap] := (hM1.bl.block _ H.out.2.2.2.2.2.2.2.2.1.lt).trans H.out.2.2.2.2.2.2.2.2.1
        have k0 : W1.cell? ⟨w.heap.size, 0, none⟩ = some (.int .i64 k) := xb.cell 0
        have zk : w.heap.size < W1.heap.size := xb.lt
        have nek : w.heap.size ≠ wr.heap.size := by have := H.out.2.2.2.2.2.2.2.2.1.lt; omega
        have hq' : ∀ v a, a < i → ∀ j, j < K → (if a = i ∧ j = i then v else if a = i then false else q a j) = F0 a j := fun v a ha j hj => by
          rw [if_neg (by omega), if_neg (by omega)]; exact hq a ha j hj
        have HM := Lib.hid (And.intro hP (And.intro hq' (And.intro hlt xb)))
        have hnmK := H.out.2.2.2.2.2.2.1
        have hlen := H.out.2.2.2.2.2.1
        have hF0 := H.out.2.2.2.2.2.2.2.2.2
        have hend : ∀ v, diagB k = v → (decide (i < nm) && decide (k < 4)) = false → ∃ (i2 : Nat) (rs2 : Nat → Nat) (q2 : Nat → Nat → Bool), Value.int .i64 ((i : Int) + 1) = .int .i64 (i2 : Int) ∧ i2 ≤ K ∧ TbM W0 (W1.setCell ⟨wr.heap.size, i, none⟩ (.bool v)).drew W0.heap.size K i2 rs2 q2 ∧ ∀ a, a < i2 → ∀ j, j < K → q2 a j = F0 a j := fun v hv hn4 => by
          refine ⟨i + 1, _, _, by simp, by omega, HM.out.1 v, fun a ha j hj => ?_⟩
          by_cases e : a = i
          · subst e
            rw [← hF0, base_row hv (by rw [hlen]; exact hn4)]
            by_cases e2 : j = a
            · rw [if_pos ⟨rfl, e2⟩, if_pos e2]
            · rw [if_neg (fun h => e2 h.2), if_pos rfl, if_neg e2]
          · exact HM.out.2.1 v a (by omega) j hj
        have HE := Lib.hid hend
        clear hM hq hM1 hW1 hP hq' hc2 hr1 xb hend hnmK hlen hF0
        by_cases h4 : k < 4
        · have l4 : decide (k < 4) = true := by simpa using h4
          have q4 : (k == 4) = false := by simp; omega
          have q6 : (k == 6) = false := by simp; omega
          have q8 : (k == 8) = false := by simp; omega
          have q9 : (k == 9) = false := by simp; omega
          have hd := diag_lt h4
          by_cases hn1 : i < nm
          · have j1 : (i : Int) + 1 < (K : Int) := by have := H.out.2.2.2.2.2.2.1; omega
            have j1' : decide ((i : Int) + 1 < (K : Int)) = true := by simpa using j1
            have jnm : (i : Int) < (nm : Int) := by omega
            have hw1 : IntKind.i64.wrap ((i : Int) + 1) = (i : Int) + 1 := IntWalk.i64_in _ (by omega)
            have hw2 : ((i : Int) + 1).toNat = i + 1 := by omega
            have hw3 : (0 : Int) ≤ (i : Int) + 1 := by omega
            obtain ⟨m, hm⟩ : ∃ m, ms[i]? = some m := ⟨ms[i]'(by rw [H.out.2.2.2.2.2.1]; exact hn1), List.getElem?_eq_getElem _⟩
            obtain ⟨bm, om, rfl, hbm, hcm⟩ := H.out.2.2.2.1.r (by rintro rfl; simp at hm)
            obtain ⟨W2, hW2⟩ : ∃ W, (W1.setCell ⟨wr.heap.size, i, none⟩ (.bool false)).drew = W := ⟨_, rfl⟩
            have hM2 := HM.out.1 false
            rw [hW2] at hM2
            have HW2 := Lib.hid hW2
            have d1 := hM2.head hlt (Nat.lt_succ_self i)
            simp only [if_true] at d1
            have xb2 : Cells W2 w.heap.size 48 #[.int .i64 k, .int .i64 c, .slice A n cap] := (hM2.bl.block _ H.out.2.2.2.2.2.2.2.2.1.lt).trans H.out.2.2.2.2.2.2.2.2.1
            have e0 : W2.cell? ⟨w.heap.size, 0, none⟩ = some (.int .i64 k) := xb2.cell 0
            have e1 : W2.cell? ⟨w.heap.size, 1, none⟩ = some (.int .i64 c) := xb2.cell 1
            have e2 : W2.cell? ⟨w.heap.size, 2, none⟩ = some (.slice A n cap) := xb2.cell 2
            have bw2 : Below w.heap.size w W2 := H.out.2.2.2.2.2.2.2.1.trans (hM2.bl.mono H.out.2.2.2.2.2.2.2.1.size)
            have em : W2.cell? ⟨bm, om + i, none⟩ = some (.int .i64 m) := (bw2.cell (p := ⟨bm, om + i, none⟩) hbm).trans (hcm i m hm)
            have zw2 : w.heap.size < W2.heap.size := xb2.lt
            have zb2 : W0.heap.size < W2.heap.size := hM2.h.lt
            have zm2 : bm < W2.heap.size := Nat.lt_of_lt_of_le hbm bw2.size
            have HO := Lib.hid (And.intro hM2 (And.intro hm (And.intro hd h4)))
            clear hM2 hm hcm xb2 bw2 hW2 hd h4 HE
            go_wp2_with fail
            rw [HW1.out]
            clear mk2 c0 z0 f0
            go_region
            all_goals
              go_wp2_with fail
            rw [HW2.out]
            clear c1 c2 f2 z2 k0 zk
            go_region_law (first
              | (go_simp
                 go_at_call 60
                 refine (one_any k c m A n cap _).mono ?_
                 rintro rr w8 ⟨rfl, hb8⟩
                 have hb9 := (Below.refl W2.heap.size W2).drew.trans hb8
                 have hM8 := HO.out.1.on hb9
                 have g1 := hM8.head hlt (Nat.lt_succ_self i)
                 have hg2 := (hM8.r i (Nat.lt_succ_self i)).2
                 simp only [if_true] at g1 hg2
                 have g2 : ∃ u, w8.cell? ⟨wr.heap.size, i + 1, none⟩ = some u := ⟨_, by rw [hg2.cell (i + 1), arr_get _ (by omega)]⟩
                 obtain ⟨u2, g2⟩ := g2
                 have g3 : w8.frozen? ⟨wr.heap.size, i + 1, none⟩ = false := hg2.froz _
                 have g4 : wr.heap.size < w8.heap.size := hg2.lt
                 have g5 : W0.heap.size < w8.heap.size := hM8.h.lt
                 have hP8 := hM8.put (i := i) (j := i + 1) (Nat.lt_succ_self i) (oneI k c m)
                 simp only [if_true] at hP8
                 have HP8 := Lib.hid hP8
                 clear hb8 hb9 hM8 hg2 hP8))
            all_goals
              have hend : ∃ (i2 : Nat) (rs2 : Nat → Nat) (q2 : Nat → Nat → Bool), Value.int .i64 ((i : Int) + 1) = .int .i64 (i2 : Int) ∧ i2 ≤ K ∧ TbM W0 (w8.setCell ⟨wr.heap.size, i + 1, none⟩ (.bool (oneI k c m))) W0.heap.size K i2 rs2 q2 ∧ ∀ a, a < i2 → ∀ j, j < K → q2 a j = F0 a j := by
                refine ⟨i + 1, _, _, by simp, by omega, HP8.out, fun a ha j hj => ?_⟩
                by_cases e : a = i
                · subst e
                  rw [← H.out.2.2.2.2.2.2.2.2.2, base_leaf HO.out.2.2.1 HO.out.2.2.2 HO.out.2.1]
                  by_cases e2 : j = a + 1
                  · rw [if_pos ⟨rfl, e2⟩, if_pos e2]
                  · rw [if_neg (fun h => e2 h.2), if_neg e2]
                    split <;> simp
                · rw [if_neg (fun h => e h.1)]
                  exact HM.out.2.1 false a (by omega) j hj
              have HEND := Lib.hid hend
              clear hend
              go_wp2_with fail
              go_roundw
              case rel => exact HEND.out
              case measure => simp [RowKit.intOf]; omega
          · have j1 : ¬ (i : Int) + 1 < (K : Int) := by have := H.out.2.2.2.2.2.2.1; omega
            have j1' : decide ((i : Int) + 1 < (K : Int)) = false := by simpa using j1
            have HF := Lib.hid (HE.out false hd (by simp [hn1]))
            clear hd h4 hn1 HE HM
            go_wp2_with fail
            rw [HW1.out]
            clear mk2 c0 z0 f0
            go_region
            all_goals
              go_wp2_with fail
              go_roundw
              case rel => exact HF.out
              case measure => simp [RowKit.intOf]; omega
        · have l4 : decide (k < 4) = false := by simpa using h4
          have l4' : ¬ k < 4 := h4
          by_cases e4 : k = 4
          · have q4 : (k == 4) = true := by simpa using e4
            have hd : diagB k = true := by unfold diagB; simp only [q4]; rfl
            have HF := Lib.hid (HE.out true hd (by rw [l4, Bool.and_false]))
            clear hd HE HM e4
            by_cases j1 : (i : Int) + 1 < (K : Int)
            · have j1' : decide ((i : Int) + 1 < (K : Int)) = true := by simpa using j1
              go_wp2_with fail
              rw [HW1.out]
              clear mk2 c0 z0 f0
              go_region
              all_goals
                go_wp2_with fail
                go_roundw
                case rel => exact HF.out
                case measure => simp [RowKit.intOf]; omega
            · have j1' : decide ((i : Int) + 1 < (K : Int)) = false := by simpa using j1
              go_wp2_with fail
              rw [HW1.out]
              clear mk2 c0 z0 f0
              go_region
              all_goals
                go_wp2_with fail
                go_roundw
                case rel => exact HF.out
                case measure => simp [RowKit.intOf]; omega
          · skip
            by_cases e6 : k = 6
            · have q4 : (k == 4) = false := by simpa using e4
              have q6 : (k == 6) = true := by simpa using e6
              have hd : diagB k = true := by unfold diagB; simp only [q4, q6]; rfl
              have HF := Lib.hid (HE.out true hd (by rw [l4, Bool.and_false]))
              clear hd HE HM e4 e6
              by_cases j1 : (i : Int) + 1 < (K : Int)
              · have j1' : decide ((i : Int) + 1 < (K : Int)) = true := by simpa using j1
                go_wp2_with fail
                rw [HW1.out]
                clear mk2 c0 z0 f0
                go_region
                all_goals
                  go_wp2_with fail
                  go_roundw
                  case rel => exact HF.out
                  case measure => simp [RowKit.intOf]; omega
              · have j1' : decide ((i : Int) + 1 < (K : Int)) = false := by simpa using j1
                go_wp2_with fail
                rw [HW1.out]
                clear mk2 c0 z0 f0
                go_region
                all_goals
                  go_wp2_with fail
                  go_roundw
                  case rel => exact HF.out
                  case measure => simp [RowKit.intOf]; omega
            · skip
              by_cases e8 : k = 8
              · have q4 : (k == 4) = false := by simpa using e4
                have q6 : (k == 6) = false := by simpa using e6
                have q8 : (k == 8) = true := by simpa using e8
                have hd : diagB k = true := by unfold diagB; simp only [q4, q6, q8]; rfl
                have HF := Lib.hid (HE.out true hd (by rw [l4, Bool.and_false]))
                clear hd HE HM e4 e6 e8
                by_cases j1 : (i : Int) + 1 < (K : Int)
                · have j1' : decide ((i : Int) + 1 < (K : Int)) = true := by simpa using j1
                  go_wp2_with fail
                  rw [HW1.out]
                  clear mk2 c0 z0 f0
                  go_region
                  all_goals
                    go_wp2_with fail
                    go_roundw
                    case rel => exact HF.out
                    case measure => simp [RowKit.intOf]; omega
                · have j1' : decide ((i : Int) + 1 < (K : Int)) = false := by simpa using j1
                  go_wp2_with fail
                  rw [HW1.out]
                  clear mk2 c0 z0 f0
                  go_region
                  all_goals
                    go_wp2_with fail
                    go_roundw
                    case rel => exact HF.out
                    case measure => simp [RowKit.intOf]; omega
              · skip
                by_cases e9 : k = 9
                · have q4 : (k == 4) = false := by simpa using e4
                  have q6 : (k == 6) = false := by simpa using e6
                  have q8 : (k == 8) = false := by simpa using e8
                  have q9 : (k == 9) = true := by simpa using e9
                  have hd : diagB k = true := by unfold diagB; simp only [q4, q6, q8, q9]; rfl
                  have HF := Lib.hid (HE.out true hd (by rw [l4, Bool.and_false]))
                  clear hd HE HM e4 e6 e8 e9
                  by_cases j1 : (i : Int) + 1 < (K : Int)
                  · have j1' : decide ((i : Int) + 1 < (K : Int)) = true := by simpa using j1
                    go_wp2_with fail
                    rw [HW1.out]
                    clear mk2 c0 z0 f0
                    go_region
                    all_goals
                      go_wp2_with fail
                      go_roundw
                      case rel => exact HF.out
                      case measure => simp [RowKit.intOf]; omega
                  · have j1' : decide ((i : Int) + 1 < (K : Int)) = false := by simpa using j1
                    go_wp2_with fail
                    rw [HW1.out]
                    clear mk2 c0 z0 f0
                    go_region
                    all_goals
                      go_wp2_with fail
                      go_roundw
                      case rel => exact HF.out
                      case measure => simp [RowKit.intOf]; omega
                · skip
                  have q4 : (k == 4) = false := by simpa using e4
                  have q6 : (k == 6) = false := by simpa using e6
                  have q8 : (k == 8) = false := by simpa using e8
                  have q9 : (k == 9) = false := by simpa using e9
                  have hd : diagB k = false := by unfold diagB; simp only [q4, q6, q8, q9]; rfl
                  have HF := Lib.hid (HE.out false hd (by rw [l4, Bool.and_false]))
                  clear hd HE HM e4 e6 e8 e9
                  by_cases j1 : (i : Int) + 1 < (K : Int)
                  · have j1' : decide ((i : Int) + 1 < (K : Int)) = true := by simpa using j1
                    go_wp2_with fail
                    rw [HW1.out]
                    clear mk2 c0 z0 f0
                    go_region
                    all_goals
                      go_wp2_with fail
                      go_roundw
                      case rel => exact HF.out
                      case measure => simp [RowKit.intOf]; omega
                  · have j1' : decide ((i : Int) + 1 < (K : Int)) = false := by simpa using j1
                    go_wp2_with fail
                    rw [HW1.out]
                    clear mk2 c0 z0 f0
                    go_region
                    all_goals
                      go_wp2_with fail
                      go_roundw
                      case rel => exact HF.out
                      case measure => simp [RowKit.intOf]; omega
      · obtain rfl : i = K := by omega
        have i1 : ¬ (i : Int) < (i : Int) := by omega
        have i1' : decide ((i : Int) < (i : Int)) = false := by simp
        have hT := hM.done.congr (fun a j ha hj => hq a ha j hj)
        have HT := Lib.hid (And.intro hT hM.bl)
        clear hM hq hT
        go_wp2_with fail
        go_loopw [6, 8] (fun u v wr => ∃ (p bq : Nat), v = .int .i64 (p : Int) ∧ u = .slice (some ⟨bq, 0, none⟩) i i ∧ p ≤ n ∧ TbB wr i (ldB.ldL ms k (ks.take p) F0) bq ∧ Below W0.heap.size W0 wr) (fun _ v _ => n - (RowKit.intOf v).toNat)
        case atStart => exact ⟨0, _, rfl, rfl, by omega, by simpa [ldB.ldL] using HT.out.1, HT.out.2⟩
        case round =>
          obtain ⟨p, bq, rfl, rfl, hp, hO, hb⟩ := hrel
          have xb : Cells wr w.heap.size 48 #[.int .i64 k, .int .i64 c, .slice A n cap] := (hb.block _ H.out.2.2.2.2.2.2.2.2.1.lt).trans H.out.2.2.2.2.2.2.2.2.1
          have k2 : wr.cell? ⟨w.heap.size, 2, none⟩ = some (.slice A n cap) := xb.cell 2
          have bw : Below w.heap.size w wr := H.out.2.2.2.2.2.2.2.1.trans (hb.mono H.out.2.2.2.2.2.2.2.1.size)
          by_cases hpl : p < n
          · have i2 : (p : Int) < (n : Int) := by omega
            obtain ⟨f, hf⟩ : ∃ f, ks[p]? = some f := ⟨ks[p]'(by rw [H.out.2.2.2.2.1]; exact hpl), List.getElem?_eq_getElem _⟩
            obtain ⟨b, o, rfl, hbl, hr⟩ := H.out.1.r (by rintro rfl; simp at hf)
            obtain ⟨A', cap', c0, c1, c2, hNd⟩ := row_get' hr hf
            have d0 := (bw.cell (p := ⟨b, o + p * 3, none⟩) hbl).trans c0
            have d1 := (bw.cell (p := ⟨b, o + p * 3 + 1, none⟩) hbl).trans c1
            have d2 := (bw.cell (p := ⟨b, o + p * 3 + 2, none⟩) hbl).trans c2
            have C := HI.out f (by have := H.out.2.1 p f hf; have := H.out.2.2.1; omega) _ wr ((hNd.below bw).mono bw.size) (H.out.2.2.2.1.on bw)
            rw [H.out.2.2.2.2.2.1, H.out.2.2.2.2.2.2.1] at C
            have hst := ldL_take (ms := ms) (k := k) hf F0
            rw [H.out.2.2.2.2.2.1, H.out.2.2.2.2.2.2.1] at hst
            obtain ⟨G, hG⟩ : ∃ G, ldB.ldL ms k (ks.take p) F0 = G := ⟨_, rfl⟩
            obtain ⟨t, ht⟩ : ∃ t, ldB ms f = t := ⟨_, rfl⟩
            rw [hG, ht] at hst
            rw [ht] at C
            rw [hG] at hO
            have HC := Lib.hid C
            have HO := Lib.hid (And.intro hO (And.intro hb (And.intro hst hpl)))
            clear C hO hb xb bw hst hf hr c0 c1 c2 hNd hG ht
            go_wp2_with fail
            refine HC.out.mono ?_
            rintro rr w2 ⟨bt, rfl, hT2, hb2⟩
            have hbw2 := HO.out.2.1.trans (hb2.mono HO.out.2.1.size)
            have xb2 : Cells w2 w.heap.size 48 #[.int .i64 k, .int .i64 c, .slice (some ⟨b, o, none⟩) n cap] := (hbw2.block _ H.out.2.2.2.2.2.2.2.2.1.lt).trans H.out.2.2.2.2.2.2.2.2.1
            have kk : w2.cell? ⟨w.heap.size, 0, none⟩ = some (.int .i64 k) := xb2.cell 0
            have hO2 := HO.out.1.on hb2
            have H2 := Lib.hid (And.intro hT2 (And.intro hO2 hbw2))
            have hadd : ∀ bz wz, TbB wz i (addB i k G t) bz → Below w2.heap.size w2 wz → ∃ (p' bq' : Nat), Value.int .i64 ((p : Int) + 1) = .int .i64 (p' : Int) ∧ Value.slice (some ⟨bz, 0, none⟩) i i = .slice (some ⟨bq', 0, none⟩) i i ∧ p' ≤ n ∧ TbB wz i (ldB.ldL ms k (ks.take p') F0) bq' ∧ Below W0.heap.size W0 wz := fun bz wz hz hbz =>
              ⟨p + 1, bz, by simp, rfl, by have := HO.out.2.2.2; omega, by rw [HO.out.2.2.1]; exact hz, hbw2.trans (hbz.mono hbw2.size)⟩
            have HA := Lib.hid hadd
            have C4 := times_any hK1000 hO2 hT2
            have C5 := either_any hK1000 hO2 hT2
            have HC4 := Lib.hid C4
            have HC5 := Lib.hid C5
            clear hT2 hO2 hbw2 xb2 hadd C4 C5 hb2 d0 d1 d2
            by_cases e4 : k = 4
            · have q4 : (k == 4) = true := by simpa using e4
              have hA : addB i k G t = fun a j => viaB G t a i j := by unfold addB; rw [if_pos e4]
              have HAA := Lib.hid hA
              clear hA e4
              go_wp2_with fail
              refine HC4.out.mono ?_
              rintro rr w3 ⟨b3, rfl, h3, hb3⟩
              have HEND := Lib.hid (HA.out b3 w3 (by rw [HAA.out]; exact h3) hb3)
              clear h3 hb3
              go_wp2_with fail
              go_roundw
              case rel => exact HEND.out
              case measure => simp [RowKit.intOf]; omega
            · have q4 : (k == 4) = false := by simpa using e4
              by_cases e67 : k = 6 ∨ k = 7
              · have hA : addB i k G t = fun a j => G a j || cloB i t i a j := by unfold addB; rw [if_neg e4, if_pos e67]
                have HAA := Lib.hid hA
                clear hA
                by_cases e6 : k = 6
                · have q6 : (k == 6) = true := by simpa using e6
                  clear e4 e67 e6
                  go_wp2_with fail
                  go_loopw [10, 11] (fun u v wi => ∃ (r bz : Nat), v = .int .i64 (r : Int) ∧ u = .slice (some ⟨bz, 0, none⟩) i i ∧ r ≤ i ∧ TbB wi i (cloB i t r) bz ∧ Below w2.heap.size w2 wi) (fun _ v _ => i - (RowKit.intOf v).toNat)
                  case atStart => exact ⟨0, bt, rfl, rfl, by omega, H2.out.1, Below.refl _ _⟩
                  case round =>
                    obtain ⟨r, bz, rfl, rfl, hr, hz, hbz⟩ := hrel
                    by_cases hrl : r < i
                    · have i3 : (r : Int) < (i : Int) := by omega
                      have HC6 := Lib.hid (times_any hK1000 hz (H2.out.1.on hbz))
                      have HZ := Lib.hid (And.intro hz hbz)
                      clear hz hbz
                      go_wp2_with fail
                      refine HC6.out.mono ?_
                      rintro rr w4 ⟨b4, rfl, h4', hb4⟩
                      have HC7 := Lib.hid (either_any hK1000 (HZ.out.1.on hb4) h4')
                      have HZ4 := Lib.hid (HZ.out.2.trans (hb4.mono HZ.out.2.size))
                      clear h4' hb4
                      go_wp2_with fail
                      refine HC7.out.mono ?_
                      rintro rr w5 ⟨b5, rfl, h5, hb5⟩
                      have hend : ∃ (r' bz' : Nat), Value.int .i64 ((r : Int) + 1) = .int .i64 (r' : Int) ∧ Value.slice (some ⟨b5, 0, none⟩) i i = .slice (some ⟨bz', 0, none⟩) i i ∧ r' ≤ i ∧ TbB w5 i (cloB i t r') bz' ∧ Below w2.heap.size w2 w5 := ⟨r + 1, b5, by simp, rfl, by omega, h5, HZ4.out.trans (hb5.mono HZ4.out.size)⟩
                      have HEND := Lib.hid hend
                      clear hend h5 hb5
                      go_wp2_with fail
                      go_roundw
                      case rel => exact HEND.out
                      case measure => simp [RowKit.intOf]; omega
                    · obtain rfl : r = i := by omega
                      have i3 : ¬ (r : Int) < (r : Int) := by omega
                      have i3' : decide ((r : Int) < (r : Int)) = false := by simp
                      have HC6 := Lib.hid (either_any hK1000 (H2.out.2.1.on hbz) hz)
                      have HZ := Lib.hid hbz
                      clear hz hbz
                      go_wp2_with fail
                      refine HC6.out.mono ?_
                      rintro rr w3 ⟨b3, rfl, h3, hb3⟩
                      have HEND := Lib.hid (HA.out b3 w3 (by rw [HAA.out]; exact h3) (HZ.out.trans (hb3.mono HZ.out.size)))
                      clear h3 hb3
                      go_wp2_with fail
                      go_roundw
                      case rel => exact HEND.out
                      case measure => simp [RowKit.intOf]; omega
                · have q6 : (k == 6) = false := by simpa using e6
                  have q7 : (k == 7) = true := by simp; omega
                  clear e4 e67 e6
                  go_wp2_with fail
                  go_loopw [10, 11] (fun u v wi => ∃ (r bz : Nat), v = .int .i64 (r : Int) ∧ u = .slice (some ⟨bz, 0, none⟩) i i ∧ r ≤ i ∧ TbB wi i (cloB i t r) bz ∧ Below w2.heap.size w2 wi) (fun _ v _ => i - (RowKit.intOf v).toNat)
                  case atStart => exact ⟨0, bt, rfl, rfl, by omega, H2.out.1, Below.refl _ _⟩
                  case round =>
                    obtain ⟨r, bz, rfl, rfl, hr, hz, hbz⟩ := hrel
                    by_cases hrl : r < i
                    · have i3 : (r : Int) < (i : Int) := by omega
                      have HC6 := Lib.hid (times_any hK1000 hz (H2.out.1.on hbz))
                      have HZ := Lib.hid (And.intro hz hbz)
                      clear hz hbz
                      go_wp2_with fail
                      refine HC6.out.mono ?_
                      rintro rr w4 ⟨b4, rfl, h4', hb4⟩
                      have HC7 := Lib.hid (either_any hK1000 (HZ.out.1.on hb4) h4')
                      have HZ4 := Lib.hid (HZ.out.2.trans (hb4.mono HZ.out.2.size))
                      clear h4' hb4
                      go_wp2_with fail
                      refine HC7.out.mono ?_
                      rintro rr w5 ⟨b5, rfl, h5, hb5⟩
                      have hend : ∃ (r' bz' : Nat), Value.int .i64 ((r : Int) + 1) = .int .i64 (r' : Int) ∧ Value.slice (some ⟨b5, 0, none⟩) i i = .slice (some ⟨bz', 0, none⟩) i i ∧ r' ≤ i ∧ TbB w5 i (cloB i t r') bz' ∧ Below w2.heap.size w2 w5 := ⟨r + 1, b5, by simp, rfl, by omega, h5, HZ4.out.trans (hb5.mono HZ4.out.size)⟩
                      have HEND := Lib.hid hend
                      clear hend h5 hb5
                      go_wp2_with fail
                      go_roundw
                      case rel => exact HEND.out
                      case measure => simp [RowKit.intOf]; omega
                    · obtain rfl : r = i := by omega
                      have i3 : ¬ (r : Int) < (r : Int) := by omega
                      have i3' : decide ((r : Int) < (r : Int)) = false := by simp
                      have HC6 := Lib.hid (either_any hK1000 (H2.out.2.1.on hbz) hz)
                      have HZ := Lib.hid hbz
                      clear hz hbz
                      go_wp2_with fail
                      refine HC6.out.mono ?_
                      rintro rr w3 ⟨b3, rfl, h3, hb3⟩
                      have HEND := Lib.hid (HA.out b3 w3 (by rw [HAA.out]; exact h3) (HZ.out.trans (hb3.mono HZ.out.size)))
                      clear h3 hb3
                      go_wp2_with fail
                      go_roundw
                      case rel => exact HEND.out
                      case measure => simp [RowKit.intOf]; omega
              · have q6 : (k == 6) = false := by simp; omega
                have q7 : (k == 7) = false := by simp; omega
                have hA : addB i k G t = fun a j => G a j || t a j := by unfold addB; rw [if_neg e4, if_neg e67]
                have HAA := Lib.hid hA
                clear hA e4 e67
                go_wp2_with fail
                refine HC5.out.mono ?_
                rintro rr w3 ⟨b3, rfl, h3, hb3⟩
                have HEND := Lib.hid (HA.out b3 w3 (by rw [HAA.out]; exact h3) hb3)
                clear h3 hb3
                go_wp2_with fail
                go_roundw
                case rel => exact HEND.out
                case measure => simp [RowKit.intOf]; omega
          · obtain rfl : p = n := by omega
            have i2 : ¬ (p : Int) < (p : Int) := by omega
            have i2' : decide ((p : Int) < (p : Int)) = false := by simp
            have hfin : ks.take p = ks := by rw [← H.out.2.2.2.2.1, List.take_length]
            rw [hfin] at hO
            have HE := Lib.hid (And.intro hO bw)
            clear hO hb xb bw hfin
            go_wp2_with fail
            go_ret
            exact ⟨_, rfl, HE.out.1, HE.out.2⟩
end Go.Proofs.YtmldgfplnacecaaDoor

namespace Go.Proofs.YtmldgfplnacecaaDoor
open Go.RowKit Go.Shelf Go.Lib

def Mo (D : Nat → Nat → Prop) : Prop := ∀ i j, D i j → i ≤ j
def LdOk (L : Nat) (f : Nat → Nat → Bool) (D : Nat → Nat → Prop) : Prop := ∀ i j, i ≤ L → j ≤ L → (f i j = true ↔ D i j)
theorem TG.mo {D : Nat → Nat → Prop} (h : Mo D) {i j : Nat} (t : TG D i j) : i ≤ j := by
  induction t with
  | one d => exact h _ _ d
  | more t d ih => exact Nat.le_trans ih (h _ _ d)
theorem TG.congr {D E : Nat → Nat → Prop} (h : ∀ i j, D i j → E i j) {i j : Nat} (t : TG D i j) : TG E i j := by
  induction t with
  | one d => exact .one (h _ _ d)
  | more t d ih => exact .more ih (h _ _ d)
mutual
theorem DE_mono (ms : List Int) : ∀ e, Mo (DE ms e)
  | .mk k c ks => by
    intro i j h
    by_cases h9 : k = 9
    · subst h9; exact Nat.le_of_eq (DE_nine.1 h)
    · by_cases hl : ks = []
      · subst hl
        have := ((DE_leaf h9).1 h).1
        omega
      · by_cases h4 : k = 4
        · subst h4; exact seqD_mono ms ks i j ((DE_seq hl).1 h)
        · by_cases h6 : k = 6
          · subst h6
            rcases (DE_star hl).1 h with e | t
            · omega
            · exact TG.mo (altD_mono ms ks) t
          · by_cases h7 : k = 7
            · subst h7; exact TG.mo (altD_mono ms ks) ((DE_plus hl).1 h)
            · by_cases h8 : k = 8
              · subst h8
                rcases (DE_maybe hl).1 h with e | t
                · omega
                · exact altD_mono ms ks i j t
              · exact altD_mono ms ks i j ((DE_alt hl h9 h4 h6 h7 h8).1 h)
theorem seqD_mono (ms : List Int) : ∀ ks, Mo (DE.seqD ms ks)
  | [] => fun i j h => Nat.le_of_eq (seqD_nil.1 h)
  | e :: r => fun i j h => by
    obtain ⟨m, h1, h2⟩ := seqD_cons.1 h
    exact Nat.le_trans (DE_mono ms e i m h1) (seqD_mono ms r m j h2)
theorem altD_mono (ms : List Int) : ∀ ks, Mo (DE.altD ms ks)
  | [] => fun i j h => (altD_nil.1 h).elim
  | e :: r => fun i j h => by
    rcases altD_cons.1 h with h | h
    · exact DE_mono ms e i j h
    · exact altD_mono ms r i j h
end
theorem via_iff (f t : Nat → Nat → Bool) (i j : Nat) : ∀ K, viaB f t i K j = true ↔ ∃ m, m < K ∧ f i m = true ∧ t m j = true
  | 0 => by
    unfold viaB
    constructor
    · intro h; cases h
    · rintro ⟨m, h, _⟩; omega
  | K + 1 => by
    unfold viaB
    rw [Bool.or_eq_true, Bool.and_eq_true, via_iff f t i j K]
    constructor
    · rintro (⟨m, h1, h2⟩ | ⟨h1, h2⟩)
      · exact ⟨m, by omega, h2⟩
      · exact ⟨K, by omega, h1, h2⟩
    · rintro ⟨m, h1, h2⟩
      by_cases e : m = K
      · subst e; exact .inr h2
      · exact .inl ⟨m, by omega, h2⟩
theorem LdOk.via {L : Nat} {f t : Nat → Nat → Bool} {D E : Nat → Nat → Prop} (h : LdOk L f D) (k : LdOk L t E) (hE : Mo E) : LdOk L (fun i j => viaB f t i (L + 1) j) (fun i j => ∃ m, D i m ∧ E m j) := fun i j hi hj => by
  rw [via_iff]
  constructor
  · rintro ⟨m, h1, h2, h3⟩
    exact ⟨m, (h i m hi (by omega)).1 h2, (k m j (by omega) hj).1 h3⟩
  · rintro ⟨m, h1, h2⟩
    have := hE m j h2
    exact ⟨m, by omega, (h i m hi (by omega)).2 h1, (k m j (by omega) hj).2 h2⟩
theorem clo_sub {L : Nat} {t : Nat → Nat → Bool} {D : Nat → Nat → Prop} (h : LdOk L t D) : ∀ r i j, i ≤ L → j ≤ L → cloB (L + 1) t r i j = true → TG D i j
  | 0, i, j, hi, hj, e => .one ((h i j hi hj).1 e)
  | r + 1, i, j, hi, hj, e => by
    unfold cloB at e
    rw [Bool.or_eq_true, via_iff] at e
    rcases e with e | ⟨m, h1, h2, h3⟩
    · exact clo_sub h r i j hi hj e
    · exact .more (clo_sub h r i m hi (by omega) h2) ((h m j (by omega) hj).1 h3)
theorem clo_up {K : Nat} {t : Nat → Nat → Bool} {r r' : Nat} (hr : r ≤ r') {i j : Nat} (h : cloB K t r i j = true) : cloB K t r' i j = true := by
  induction hr with
  | refl => exact h
  | step _ ih => unfold cloB; rw [Bool.or_eq_true]; exact .inl ih
theorem clo_sup {L : Nat} {t : Nat → Nat → Bool} {D : Nat → Nat → Prop} (h : LdOk L t D) (hD : Mo D) {i j : Nat} (g : TG D i j) : j ≤ L → cloB (L + 1) t (j - i) i j = true := by
  induction g with
  | one d =>
    intro hj
    have := hD _ _ d
    exact clo_up (Nat.zero_le _) (by unfold cloB; exact (h _ _ (by omega) hj).2 d)
  | more g d ih =>
    rename_i m j
    intro hj
    have h1 := hD _ _ d
    have h2 := TG.mo hD g
    have h3 := ih (by omega)
    by_cases e : m = j
    · subst e; exact h3
    · refine clo_up (r := m - i + 1) (by omega) ?_
      unfold cloB
      rw [Bool.or_eq_true, via_iff]
      exact .inr ⟨m, by omega, h3, (h m j (by omega) hj).2 d⟩
theorem LdOk.clo {L : Nat} {t : Nat → Nat → Bool} {D : Nat → Nat → Prop} (h : LdOk L t D) (hD : Mo D) : LdOk L (cloB (L + 1) t (L + 1)) (TG D) := fun i j hi hj =>
  ⟨clo_sub h _ i j hi hj, fun g => clo_up (by omega) (clo_sup h hD g hj)⟩
theorem LdOk.or {L : Nat} {f t : Nat → Nat → Bool} {D E : Nat → Nat → Prop} (h : LdOk L f D) (k : LdOk L t E) : LdOk L (fun i j => f i j || t i j) (fun i j => D i j ∨ E i j) := fun i j hi hj => by
  rw [Bool.or_eq_true, h i j hi hj, k i j hi hj]
theorem LdOk.congr {L : Nat} {f : Nat → Nat → Bool} {D E : Nat → Nat → Prop} (h : LdOk L f D) (e : ∀ i j, E i j ↔ D i j) : LdOk L f E := fun i j hi hj => (h i j hi hj).trans (e i j).symm
theorem base_node {ms : List Int} {k c : Int} (hk : ¬ k < 4) (i j : Nat) : baseB ms k c i j = true ↔ i = j ∧ diagB k = true := by
  unfold baseB
  rw [show decide (k < 4) = false by simpa using hk]
  simp
  intro _
  exact eq_comm
theorem one_takes {k c m : Int} (h : shapedK k c 0 = true) (h9 : k ≠ 9) : k < 4 ∧ oneI k c m = takesI k c m := by
  unfold shapedK at h
  by_cases c1 : k = 0 ∨ k = 2
  · rw [if_pos c1] at h
    simp only [Bool.and_eq_true] at h
    have hc := h.1
    unfold isC at hc
    simp only [Bool.and_eq_true, decide_eq_true_eq] at hc
    rcases c1 with rfl | rfl
    · refine ⟨by decide, ?_⟩
      unfold oneI takesI
      by_cases e : m = c
      · subst e
        simp
        omega
      · simp [e]
    · refine ⟨by decide, ?_⟩
      unfold oneI takesI
      simp
  · rw [if_neg c1] at h
    by_cases c2 : k = 1 ∨ k = 3 ∨ k = 9
    · rcases c2 with rfl | rfl | rfl
      · exact ⟨by decide, by unfold oneI takesI; simp⟩
      · exact ⟨by decide, by unfold oneI takesI; simp⟩
      · exact absurd rfl h9
    · rw [if_neg c2] at h
      by_cases c3 : k = 4 ∨ k = 5
      · rw [if_pos c3] at h; simp at h
      · rw [if_neg c3] at h
        by_cases c4 : k = 6 ∨ k = 7 ∨ k = 8
        · rw [if_pos c4] at h; simp at h
        · rw [if_neg c4] at h; cases h
theorem node_kind {k c : Int} {n : Nat} (h : shapedK k c n = true) (hn : n ≠ 0) : (k = 4 ∨ k = 5 ∨ k = 6 ∨ k = 7 ∨ k = 8) ∧ (k = 6 ∨ k = 7 ∨ k = 8 → n = 1) := by
  unfold shapedK at h
  by_cases c1 : k = 0 ∨ k = 2
  · rw [if_pos c1] at h; simp at h; exact absurd h.2 hn
  · rw [if_neg c1] at h
    by_cases c2 : k = 1 ∨ k = 3 ∨ k = 9
    · rw [if_pos c2] at h; simp at h; exact absurd h.2 hn
    · rw [if_neg c2] at h
      by_cases c3 : k = 4 ∨ k = 5
      · exact ⟨by omega, fun _ => by omega⟩
      · rw [if_neg c3] at h
        by_cases c4 : k = 6 ∨ k = 7 ∨ k = 8
        · rw [if_pos c4] at h; simp at h; exact ⟨by omega, fun _ => h.2⟩
        · rw [if_neg c4] at h; cases h
mutual
theorem ld_DE (ms : List Int) : ∀ e, goodE e = true → LdOk ms.length (ldB ms e) (DE ms e)
  | .mk k c ks, hg => by
    obtain ⟨h9, hs, ha⟩ := good_parts hg
    rw [ldB_eq]
    simp only [E.k, E.c, E.ks]
    by_cases hl : ks = []
    · subst hl
      obtain ⟨h4, h1⟩ : k < 4 ∧ ∀ m, oneI k c m = takesI k c m := ⟨(one_takes (m := 0) hs h9).1, fun m => (one_takes hs h9).2⟩
      simp only [ldB.ldL]
      intro i j hi hj
      rw [DE_leaf h9]
      unfold baseB
      rw [diag_lt h4]
      simp only [Bool.and_false, Bool.false_or, Bool.and_eq_true, decide_eq_true_eq]
      constructor
      · rintro ⟨⟨⟨rfl, h2⟩, _⟩, h3⟩
        obtain ⟨m, hm⟩ : ∃ m, ms[i]? = some m := ⟨_, List.getElem?_eq_getElem h2⟩
        rw [List.getD_eq_getElem?_getD, hm, Option.getD_some, h1] at h3
        exact ⟨rfl, m, hm, h3⟩
      · rintro ⟨rfl, m, hm, h3⟩
        refine ⟨⟨⟨rfl, (List.getElem?_eq_some_iff.1 hm).1⟩, h4⟩, ?_⟩
        rw [List.getD_eq_getElem?_getD, hm, Option.getD_some, h1]
        exact h3
    · obtain ⟨hk, hn⟩ := node_kind hs (by intro e; exact hl (List.eq_nil_of_length_eq_zero e))
      have hb : LdOk ms.length (baseB ms k c) (fun i j => i = j ∧ diagB k = true) := fun i j _ _ => base_node (by omega) i j
      by_cases h4 : k = 4
      · subst h4
        refine (ldL_seq ms ks (baseB ms 4 c) _ ha hb).congr fun i j => ?_
        rw [DE_seq hl]
        constructor
        · intro h; exact ⟨i, ⟨rfl, rfl⟩, h⟩
        · rintro ⟨m, ⟨rfl, _⟩, h⟩; exact h
      · by_cases h67 : k = 6 ∨ k = 7
        · have h1 := hn (by omega)
          obtain ⟨f, rfl⟩ := List.length_eq_one_iff.1 h1
          have hf := ld_DE ms f (all_cons ha).1
          have hfm := DE_mono ms f
          rw [ldL_cons]
          simp only [ldB.ldL]
          unfold addB
          rw [if_neg h4, if_pos h67]
          refine (hb.or (hf.clo hfm)).congr fun i j => ?_
          have ht : TG (DE.altD ms [f]) i j ↔ TG (DE ms f) i j := ⟨TG.congr (fun a b h => by
            rcases altD_cons.1 h with h | h
            · exact h
            · exact (altD_nil.1 h).elim), TG.congr (fun a b h => altD_cons.2 (.inl h))⟩
          rcases h67 with rfl | rfl
          · rw [DE_star hl, ht]
            constructor
            · rintro (h | h)
              · exact .inl ⟨h, rfl⟩
              · exact .inr h
            · rintro (h | h)
              · exact .inl h.1
              · exact .inr h
          · rw [DE_plus hl, ht]
            constructor
            · intro h; exact .inr h
            · rintro (⟨_, h⟩ | h)
              · exact absurd h (by decide)
              · exact h
        · refine (ldL_alt ms k ks (baseB ms k c) _ h4 h67 ha hb).congr fun i j => ?_
          by_cases h8 : k = 8
          · subst h8
            rw [DE_maybe hl]
            constructor
            · rintro (h | h)
              · exact .inl ⟨h, rfl⟩
              · exact .inr h
            · rintro (h | h)
              · exact .inl h.1
              · exact .inr h
          · rw [DE_alt hl h9 h4 (fun e => h67 (.inl e)) (fun e => h67 (.inr e)) h8]
            have h5 : k = 5 := by omega
            subst h5
            constructor
            · intro h; exact .inr h
            · rintro (⟨_, h⟩ | h)
              · exact absurd h (by decide)
              · exact h
theorem ldL_seq (ms : List Int) : ∀ (ks : List E) (f : Nat → Nat → Bool) (D0 : Nat → Nat → Prop), goodE.all ks = true → LdOk ms.length f D0 → LdOk ms.length (ldB.ldL ms 4 ks f) (fun i j => ∃ m, D0 i m ∧ DE.seqD ms ks m j)
  | [], f, D0, _, h => by
    simp only [ldB.ldL]
    refine h.congr fun i j => ?_
    constructor
    · rintro ⟨m, h1, h2⟩
      obtain rfl := seqD_nil.1 h2
      exact h1
    · intro h1; exact ⟨j, h1, seqD_nil.2 rfl⟩
  | e :: r, f, D0, ha, h => by
    rw [ldL_cons]
    have he := ld_DE ms e (all_cons ha).1
    have := ldL_seq ms r (addB (ms.length + 1) 4 f (ldB ms e)) _ (all_cons ha).2 (by unfold addB; rw [if_pos rfl]; exact h.via he (DE_mono ms e))
    refine this.congr fun i j => ?_
    constructor
    · rintro ⟨m, h1, h2⟩
      obtain ⟨m', h3, h4⟩ := seqD_cons.1 h2
      exact ⟨m', ⟨m, h1, h3⟩, h4⟩
    · rintro ⟨m', ⟨m, h1, h3⟩, h4⟩
      exact ⟨m, h1, seqD_cons.2 ⟨m', h3, h4⟩⟩
theorem ldL_alt (ms : List Int) : ∀ (k : Int) (ks : List E) (f : Nat → Nat → Bool) (D0 : Nat → Nat → Prop), k ≠ 4 → ¬ (k = 6 ∨ k = 7) → goodE.all ks = true → LdOk ms.length f D0 → LdOk ms.length (ldB.ldL ms k ks f) (fun i j => D0 i j ∨ DE.altD ms ks i j)
  | k, [], f, D0, _, _, _, h => by
    simp only [ldB.ldL]
    refine h.congr fun i j => ?_
    rw [altD_nil, or_false]
  | k, e :: r, f, D0, h4, h67, ha, h => by
    rw [ldL_cons]
    have he := ld_DE ms e (all_cons ha).1
    have := ldL_alt ms k r (addB (ms.length + 1) k f (ldB ms e)) _ h4 h67 (all_cons ha).2 (by unfold addB; rw [if_neg h4, if_neg h67]; exact h.or he)
    refine this.congr fun i j => ?_
    rw [altD_cons, or_assoc]
end
theorem ld_right {ms : List Int} {e : E} (hr : rightE e = true) : LdOk ms.length (ldB ms e) (DE ms e) := by
  by_cases h9 : e.k = 9
  · obtain ⟨k, c, ks⟩ := e
    simp only [E.k] at h9
    subst h9
    have hs : shapedK 9 c ks.length = true := by simpa [rightE, E.k, E.c, E.ks] using hr
    have hl := List.eq_nil_of_length_eq_zero (shaped_leaf hs (by decide) (by decide) (by decide) (by decide) (by decide))
    subst hl
    intro i j _ _
    rw [DE_nine, ldB_eq]
    simp only [E.k, E.c, E.ks, ldB.ldL]
    rw [base_node (by decide)]
    exact ⟨fun h => h.1, fun h => ⟨h, rfl⟩⟩
  · rw [rightE_good h9] at hr
    simp only [Bool.and_eq_true] at hr
    exact ld_DE ms e hr.1
end Go.Proofs.YtmldgfplnacecaaDoor

namespace Go.Proofs.YtmldgfplnacecaaDoor
open Go.RowKit Go.Shelf Go.Lib Go.Great Go.Maps

def orF (g : Nat → Bool) : Nat → Bool
  | 0 => false
  | i + 1 => orF g i || g i
theorem orF_iff (g : Nat → Bool) : ∀ n, orF g n = true ↔ ∃ i, i < n ∧ g i = true
  | 0 => by
    unfold orF
    constructor
    · intro h; cases h
    · rintro ⟨i, h, _⟩; omega
  | n + 1 => by
    unfold orF
    rw [Bool.or_eq_true, orF_iff g n]
    constructor
    · rintro (⟨i, h1, h2⟩ | h)
      · exact ⟨i, by omega, h2⟩
      · exact ⟨n, by omega, h⟩
    · rintro ⟨i, h1, h2⟩
      by_cases e : i = n
      · subst e; exact .inr h2
      · exact .inl ⟨i, by omega, h2⟩
def isB (se : Bool) (ms : List Int) (e : E) : Bool := ldB ms e 0 ms.length || (se && orF (fun i => ldB ms e i ms.length) (ms.length + 1))
def isK (se : Bool) (ms : List Int) (ks : List E) (b : Nat) : Bool := match ks[b]? with | some e => isB se ms e | none => false
def wantN (f : Nat → Bool) : Nat → Nat
  | 0 => 0
  | p + 1 => if f p then wantN f p ||| 2 ^ p else wantN f p
theorem wantN_bit (f : Nat → Bool) (b : Nat) : ∀ p, (wantN f p).testBit b = (decide (b < p) && f b)
  | 0 => by simp [wantN]
  | p + 1 => by
    unfold wantN
    by_cases h : f p = true
    · rw [if_pos h, Nat.testBit_or, wantN_bit f b p, Nat.testBit_two_pow]
      by_cases e : p = b
      · subst e; simp [h]
      · have : (decide (b < p) : Bool) = decide (b < p + 1) := by simp; omega
        rw [this]; simp [e]
    · rw [if_neg h, wantN_bit f b p]
      by_cases e : p = b
      · subst e; simp [h]
      · have : (decide (b < p) : Bool) = decide (b < p + 1) := by simp; omega
        rw [this]
theorem wantN_lt (f : Nat → Bool) : ∀ p, wantN f p < 2 ^ p
  | 0 => by simp [wantN]
  | p + 1 => by
    have h := wantN_lt f p
    have e : 2 ^ (p + 1) = 2 ^ p + 2 ^ p := by rw [Nat.pow_succ]; omega
    unfold wantN
    split
    · exact Nat.or_lt_two_pow (by omega) (by rw [e]; have := Nat.two_pow_pos p; omega)
    · omega
theorem isB_iff {se : Bool} {ms : List Int} {e : E} (hr : rightE e = true) : isB se ms e = true ↔ ∃ i, i ≤ ms.length ∧ (i = 0 ∨ se = true) ∧ DE ms e i ms.length := by
  have h := ld_right (ms := ms) hr
  unfold isB
  rw [Bool.or_eq_true, Bool.and_eq_true, orF_iff, h 0 _ (Nat.zero_le _) (Nat.le_refl _)]
  constructor
  · rintro (h1 | ⟨hs, i, h1, h2⟩)
    · exact ⟨0, Nat.zero_le _, .inl rfl, h1⟩
    · exact ⟨i, by omega, .inr hs, (h i _ (by omega) (Nat.le_refl _)).1 h2⟩
  · rintro ⟨i, h1, rfl | hs, h2⟩
    · exact .inl h2
    · exact .inr ⟨hs, i, by omega, (h i _ h1 (Nat.le_refl _)).2 h2⟩
theorem tells_want {ks : List E} {ms : List Int} {se : Bool} (hr : ks.all rightE = true) (hc : lvL ks ≤ 900) : tellsU (mkN ks) (stK se (mkN ks) ms ms.length) = wantN (isK se ms ks) ks.length := by
  apply Nat.eq_of_testBit_eq
  intro b
  rw [Bool.eq_iff_iff, tells_leads ks ms se hr hc b, wantN_bit, Bool.and_eq_true, decide_eq_true_eq]
  unfold isK
  constructor
  · rintro ⟨e, he, h⟩
    rw [he]
    exact ⟨(List.getElem?_eq_some_iff.1 he).1, (isB_iff (all_right hr he)).2 h⟩
  · rintro ⟨hb, h⟩
    obtain ⟨e, he⟩ : ∃ e, ks[b]? = some e := ⟨_, List.getElem?_eq_getElem hb⟩
    rw [he] at h
    exact ⟨e, he, (isB_iff (all_right hr he)).1 h⟩
set_option maxHeartbeats 8000000 in
set_option maxRecDepth 100000 in
theorem tells_big (se : Bool) (ks : List E) (ms : List Int) (Ak Am : Option Addr) (ck cm : Nat) (w : World) (h : SArg w ks ms Ak Am ck cm) (hbig : 80 < szL ks ∨ 8 < ms.length) :
    Calls Tryd.prog 4 #[.bool se, .slice Ak ks.length ck, .slice Am ms.length cm] w (TrOk w) := by
  have C := great_any ks Ak ck w h.k
  have hm63 : ms.length ≤ 9223372036854775807 := by have := h.m.l; have := h.m.m; unfold maxLen at this; omega
  obtain ⟨nm, hnm⟩ : ∃ n, ms.length = n := ⟨_, rfl⟩
  rw [hnm] at hbig hm63 ⊢
  have H := Lib.hid h
  clear h hnm
  cases hg : decide (80 < szL ks) with
  | true =>
    rw [hg] at C
    have HC := Lib.hid C
    clear C hg hbig
    go_enter Tryd.func4, Tryd.ntmps4
    go_wp2_with fail
    refine HC.out.mono ?_
    rintro r w2 ⟨rfl, hb2⟩
    have a2 := H.out.below hb2
    have C2 := Lib.hid (awake_any w2 a2.t)
    have H2 := Lib.hid hb2
    clear a2 hb2
    go_wp2_with fail
    refine C2.out.mono ?_
    rintro r w3 ⟨rfl, hb3⟩
    have H3 := Lib.hid (H2.out.trans (hb3.mono H2.out.size))
    clear hb3
    go_wp2_with fail
    go_ret
    exact ⟨rfl, H3.out⟩
  | false =>
    rw [hg] at C
    have HC := Lib.hid C
    have h12 : 8 < nm := by
      simp at hg
      omega
    have i1 : (8 : Int) < (nm : Int) := by omega
    have j1 : decide ((8 : Int) < (nm : Int)) = true := by simpa using i1
    clear C hg hbig
    go_enter Tryd.func4, Tryd.ntmps4
    go_wp2_with fail
    refine HC.out.mono ?_
    rintro r w2 ⟨rfl, hb2⟩
    have a2 := H.out.below hb2
    have C2 := Lib.hid (awake_any w2 a2.t)
    have H2 := Lib.hid hb2
    clear a2 hb2
    go_wp2_with fail
    refine C2.out.mono ?_
    rintro r w3 ⟨rfl, hb3⟩
    have H3 := Lib.hid (H2.out.trans (hb3.mono H2.out.size))
    clear hb3
    go_wp2_with fail
    go_ret
    exact ⟨rfl, H3.out⟩
set_option maxHeartbeats 8000000 in
set_option maxRecDepth 100000 in
theorem tells_wrong (se : Bool) (ks : List E) (ms : List Int) (Ak Am : Option Addr) (ck cm : Nat) (w : World) (h : SArg w ks ms Ak Am ck cm) (h80 : szL ks ≤ 80) (h8 : ms.length ≤ 8) (hr : (ks.all rightE && decide (ks.length ≤ 40)) = false) :
    Calls Tryd.prog 4 #[.bool se, .slice Ak ks.length ck, .slice Am ms.length cm] w (TrOk w) := by
  have C := great_any ks Ak ck w h.k
  rw [show decide (80 < szL ks) = false by simp; omega] at C
  obtain ⟨nm, hnm⟩ : ∃ n, ms.length = n := ⟨_, rfl⟩
  rw [hnm] at h8 ⊢
  have i1 : ¬ (8 : Int) < (nm : Int) := by omega
  have j1 : decide ((8 : Int) < (nm : Int)) = false := by simpa using i1
  have HC := Lib.hid C
  have H := Lib.hid (And.intro h (And.intro h80 hr))
  clear h hnm C h80 hr
  go_enter Tryd.func4, Tryd.ntmps4
  go_wp2_with fail
  refine HC.out.mono ?_
  rintro r w2 ⟨rfl, hb2⟩
  have a2 := H.out.1.below hb2
  have C2 := Lib.hid (awake_any w2 a2.t)
  have H2 := Lib.hid hb2
  clear a2 hb2
  go_wp2_with fail
  refine C2.out.mono ?_
  rintro r w3 ⟨rfl, hb3⟩
  have b3 := H2.out.trans (hb3.mono H2.out.size)
  have C3 := allRight_any ks Ak ck w3 (H.out.1.k.on b3) (by have := H.out.2.1; omega)
  rw [H.out.2.2] at C3
  have HC3 := Lib.hid C3
  have H3 := Lib.hid b3
  clear hb3 b3 C3
  go_wp2_with fail
  refine HC3.out.mono ?_
  rintro r w4 ⟨rfl, hb4⟩
  have H4 := Lib.hid (H3.out.trans (hb4.mono H3.out.size))
  clear hb4
  go_wp2_with fail
  go_ret
  exact ⟨rfl, H4.out⟩
end Go.Proofs.YtmldgfplnacecaaDoor

namespace Go.Proofs.YtmldgfplnacecaaDoor
open Go.RowKit Go.Shelf Go.Lib Go.Great Go.Maps

def curB (se : Bool) (t : Nat → Nat → Bool) (k i : Nat) : Bool := t 0 k || (se && orF (fun a => t a k) i)
theorem curB_succ (t : Nat → Nat → Bool) (k i : Nat) : curB true t k (i + 1) = (curB true t k i || t i k) := by
  unfold curB
  simp only [Bool.true_and]
  show (t 0 k || (orF (fun a => t a k) i || t i k)) = _
  rw [Bool.or_assoc]
theorem curB_false (t : Nat → Nat → Bool) (k i j : Nat) : curB false t k i = curB false t k j := by simp [curB]
def ProgSet (W0 : World) (X : List Int) (u : Value) (wr : World) : Prop := ∃ A c, u = .slice A X.length c ∧ IS wr wr.heap.size X A c ∧ Below W0.heap.size W0 wr
set_option maxHeartbeats 16000000 in
set_option maxRecDepth 100000 in
theorem tells_main (se : Bool) (ks : List E) (ms : List Int) (Ak Am : Option Addr) (ck cm : Nat) (w : World) (h : SArg w ks ms Ak Am ck cm) (h80 : szL ks ≤ 80) (h8 : ms.length ≤ 8) (hr : ks.all rightE = true) (h40 : ks.length ≤ 40) :
    Calls Tryd.prog 4 #[.bool se, .slice Ak ks.length ck, .slice Am ms.length cm] w (TrOk w) := by
  have C := great_any ks Ak ck w h.k
  rw [show decide (80 < szL ks) = false by simp; omega] at C
  have hlv : lvL ks ≤ 80 := Nat.le_trans (lv_le_sz ks) h80
  have hwant := tells_want (se := se) (ms := ms) hr (by omega)
  obtain ⟨nm, hnm⟩ : ∃ n, ms.length = n := ⟨_, rfl⟩
  rw [hnm] at h8 hwant ⊢
  have i1 : ¬ (8 : Int) < (nm : Int) := by omega
  have j1 : decide ((8 : Int) < (nm : Int)) = false := by simpa using i1
  have HC := Lib.hid C
  have H := Lib.hid (And.intro h (And.intro h80 (And.intro hr (And.intro h40 hnm))))
  have HWT := Lib.hid hwant
  clear h hnm C h80 hr h40 hlv hwant
  go_enter Tryd.func4, Tryd.ntmps4
  go_wp2_with fail
  refine HC.out.mono ?_
  rintro r w2 ⟨rfl, hb2⟩
  have a2 := H.out.1.below hb2
  have C2 := Lib.hid (awake_any w2 a2.t)
  have H2 := Lib.hid hb2
  clear a2 hb2
  go_wp2_with fail
  refine C2.out.mono ?_
  rintro r w3 ⟨rfl, hb3⟩
  have b3 := H2.out.trans (hb3.mono H2.out.size)
  have C3 := allRight_any ks Ak ck w3 (H.out.1.k.on b3) (by have := H.out.2.1; omega)
  rw [H.out.2.2.1, show decide (ks.length ≤ 40) = true by simpa using H.out.2.2.2.1] at C3
  have HC3 := Lib.hid C3
  have H3 := Lib.hid b3
  clear hb3 b3 C3
  go_wp2_with fail
  refine HC3.out.mono ?_
  rintro r w4 ⟨rfl, hb4⟩
  have b4 := H3.out.trans (hb4.mono H3.out.size)
  have C4 := Lib.hid (toL_any ks (by have := H.out.2.1; omega) Ak ck w4 (H.out.1.k.on b4))
  have H4 := Lib.hid b4
  clear hb4 b4
  go_wp2_with fail
  refine C4.out.mono ?_
  rintro r w5 ⟨A5, c5, rfl, hks5, hb5⟩
  have b5 := H4.out.trans (hb5.mono H4.out.size)
  have C5 := Lib.hid (new_any se ks A5 c5 w5 (hks5.ks (fun b hb => hb.2) (fun e v hN => NdP.nd (fun b hb => hb.2) _ e v (Nat.le_refl _) hN)) (fault_zero6 H.out.2.2.1 H.out.2.2.2.1 H.out.2.1) (H.out.1.t.below b5 H.out.1.t.lt))
  have H5 := Lib.hid b5
  clear hks5 hb5 b5
  go_wp2_with fail
  refine C5.out.mono ?_
  rintro r w6 ⟨q, nn, rfl, _, hn6, hb6⟩
  have b6 := H5.out.trans (hb6.mono H5.out.size)
  have H6 := Lib.hid (And.intro hn6 b6)
  clear hn6 hb6 b6
  go_wp2_with fail
  refine (begin_any q.b w6).mono ?_
  rintro r w9 ⟨rfl, hw9⟩
  have b9 : Below w6.heap.size w6 w9 := by rw [hw9]; exact below_new _ _
  have i9 : IS w9 w9.heap.size [0] (some ⟨w6.heap.size, 0, none⟩) 1 := by rw [hw9]; exact is_begin w6
  have R0 : ProgSet w6 (stK se (mkN ks) ms 0) (.slice (some ⟨w6.heap.size, 0, none⟩) 1 1) w9 := ⟨_, _, rfl, i9, b9⟩
  have HR0 := Lib.hid R0
  clear b9 i9 R0 hw9
  go_wp2_with fail
  go_loopw [9, 10] (fun u9 u10 wr => ∃ k : Nat, u10 = .int .i64 (k : Int) ∧ k ≤ nm ∧ ProgSet w6 (stK se (mkN ks) ms k) u9 wr) (fun _ u10 _ => nm - (RowKit.intOf u10).toNat)
  case atStart => exact ⟨0, rfl, by omega, HR0.out⟩
  case round =>
    obtain ⟨k, rfl, hk, A, c, rfl, i1', hb⟩ := hrel
    have bw := H6.out.2.trans (hb.mono H6.out.2.size)
    by_cases hlt : k < nm
    · have i5 : (k : Int) < (nm : Int) := by omega
      obtain ⟨X, hX⟩ : ∃ X, stK se (mkN ks) ms k = X := ⟨_, rfl⟩
      rw [hX] at i1' ⊢
      obtain ⟨m, hm⟩ : ∃ m, ms[k]? = some m := ⟨ms[k]'(by have := H.out.2.2.2.2; omega), List.getElem?_eq_getElem _⟩
      have his := H.out.1.m
      obtain ⟨bm, om, rfl, hbl, hc⟩ := his.r (by rintro rfl; simp at hm)
      have d0 := (bw.cell (p := ⟨bm, om + k, none⟩) hbl).trans (hc k m hm)
      have h64 := his.i m (List.mem_of_getElem? hm)
      have C22 := Lib.hid (step_any (H6.out.1.below hb) (H.out.1.t.below bw H.out.1.t.lt) X A c i1' m h64)
      have HX := Lib.hid (And.intro hX (And.intro hm hb))
      clear hX hm his hc h64 i1' hb bw
      go_wp2_with fail
      refine C22.out.mono ?_
      rintro r w14 ⟨v14, rfl, ho14, hb14⟩
      have hend : ∃ k1 : Nat, Value.int .i64 ((k : Int) + 1) = .int .i64 (k1 : Int) ∧ k1 ≤ nm ∧ ProgSet w6 (stK se (mkN ks) ms k1) v14 w14 := by
        refine ⟨k + 1, by simp, by omega, ?_⟩
        obtain ⟨A1, c1, rfl, j1⟩ := ho14.is
        rw [stK_succ HX.out.2.1, HX.out.1]
        exact ⟨A1, c1, rfl, j1, HX.out.2.2.trans (hb14.mono HX.out.2.2.size)⟩
      have HEND := Lib.hid hend
      clear hend ho14 hb14 d0
      go_wp2_with fail
      go_roundw
      case rel => exact HEND.out
      case measure => simp [RowKit.intOf]; omega
    · obtain rfl : k = nm := by omega
      have i5 : ¬ (k : Int) < (k : Int) := by omega
      have i5' : decide ((k : Int) < (k : Int)) = false := by simp
      obtain ⟨X, hX⟩ : ∃ X, stK se (mkN ks) ms k = X := ⟨_, rfl⟩
      rw [hX] at i1' ⊢
      obtain ⟨F, hF⟩ : ∃ F, isK se ms ks = F := ⟨_, rfl⟩
      have hkn : ks.length ≤ 40 := H.out.2.2.2.1
      obtain ⟨n, hn⟩ : ∃ n, ks.length = n := ⟨_, rfl⟩
      rw [hn] at hkn
      have HX := Lib.hid (And.intro hX (And.intro i1' (And.intro hb (And.intro bw (And.intro hF hn)))))
      clear hX i1' hb hF bw
      rw [show ks.length = n from hn]
      clear hn
      obtain ⟨wa, rfl⟩ : ∃ W : World, W = wr := ⟨_, rfl⟩
      go_wp2_with fail
      go_loopw [11, 12] (fun u v wi => ∃ p : Nat, v = .int .i64 (p : Int) ∧ p ≤ n ∧ u = .int .u64 ((wantN F p : Nat) : Int) ∧ Below wa.heap.size wa wi) (fun _ v _ => n - (RowKit.intOf v).toNat)
      case atStart => exact ⟨0, rfl, by omega, rfl, Below.refl _ _⟩
      case round =>
        obtain ⟨p, rfl, hp, rfl, hb⟩ := hrel
        by_cases hpl : p < n
        · have i6 : (p : Int) < (n : Int) := by omega
          obtain ⟨f, hf⟩ : ∃ f, ks[p]? = some f := ⟨ks[p]'(by rw [HX.out.2.2.2.2.2]; exact hpl), List.getElem?_eq_getElem _⟩
          have bw := HX.out.2.2.2.1.trans (hb.mono HX.out.2.2.2.1.size)
          obtain ⟨b, o, rfl, hbl, hrow⟩ := H.out.1.k.r (by rintro rfl; simp at hf)
          obtain ⟨A', cap', c0, c1, c2, hNd⟩ := row_get' hrow hf
          have d0 := (bw.cell (p := ⟨b, o + p * 3, none⟩) hbl).trans c0
          have d1 := (bw.cell (p := ⟨b, o + p * 3 + 1, none⟩) hbl).trans c1
          have d2 := (bw.cell (p := ⟨b, o + p * 3 + 2, none⟩) hbl).trans c2
          have C := leads_any ms Am cm (by have := H.out.2.2.2.2; omega) _ f (Nat.le_refl _) _ wr ((hNd.below bw).mono bw.size) (H.out.1.m.on bw)
          have hFp : F p = curB se (ldB ms f) k (k + 1) := by
            rw [← HX.out.2.2.2.2.1]
            unfold isK
            rw [hf]
            show isB se ms f = _
            unfold isB
            rw [H.out.2.2.2.2]
            rfl
          rw [H.out.2.2.2.2] at C
          obtain ⟨K, hK⟩ : ∃ K, k + 1 = K := ⟨_, rfl⟩
          obtain ⟨t, ht⟩ : ∃ t, ldB ms f = t := ⟨_, rfl⟩
          rw [hK, ht] at C hFp
          have hW := wantN_lt F p
          have hWs : wantN F (p + 1) = if F p then wantN F p ||| 2 ^ p else wantN F p := rfl
          obtain ⟨V, hV⟩ : ∃ V, wantN F p = V := ⟨_, rfl⟩
          rw [hV] at hW hWs ⊢
          have hpl2 : 2 ^ p < 18446744073709551616 := Nat.pow_lt_pow_right (a := 2) (n := 64) (by omega) (by omega)
          have hpw := wrap_pow p (by omega)
          obtain ⟨P, hP⟩ : ∃ z, 2 ^ p = z := ⟨_, rfl⟩
          rw [hP] at hW hWs hpl2 hpw
          have HBI := Lib.hid (bits_or_u64_nat V P (by omega) hpl2)
          have HP := Lib.hid (And.intro hWs (And.intro hpw (And.intro hFp (And.intro hb (And.intro hK hpl)))))
          have hkK : k < K := by omega
          have hK9 : K ≤ 9 := by omega
          have HC1 := Lib.hid C
          clear hWs hpw hFp hb C c0 c1 c2 hNd hrow hf bw hV hP hW hpl2 hK ht
          go_wp2_with fail
          refine HC1.out.mono ?_
          rintro r w20 ⟨bt, rfl, hT, hb20⟩
          obtain ⟨r0, s0, s1, s2⟩ := hT.r 0 (by omega)
          have s3 := s2 k hkK
          have hkKi : (k : Int) < (K : Int) := by omega
          have hK0 : (0 : Int) < (K : Int) := by omega
          have hbw := HP.out.2.2.2.1.trans (hb20.mono HP.out.2.2.2.1.size)
          have HT := Lib.hid (And.intro hT hbw)
          clear s2 hT hbw hb20 d0 d1 d2
          go_wp2_with fail
          go_loopw [14, 15] (fun u v wi => ∃ i : Nat, v = .int .i64 (i : Int) ∧ i ≤ K ∧ u = .bool (curB se t k i) ∧ wi = w20) (fun _ v _ => K - (RowKit.intOf v).toNat)
          case atStart => exact ⟨0, rfl, by omega, by simp [curB, orF], rfl⟩
          case round =>
            obtain ⟨i, rfl, hi, rfl, hwi⟩ := hrel
            obtain rfl := hwi.symm
            cases se with
            | false =>
              have HV := Lib.hid (show F p = curB false t k i by rw [HP.out.2.2.1]; exact curB_false _ _ _ _)
              by_cases hik : i ≤ k
              · have j5 : (i : Int) ≤ (k : Int) := by omega
                have j5' : decide ((i : Int) ≤ (k : Int)) = true := by simpa using j5
                have hFv := HV.out
                cases hfp : F p with
                | true =>
                  have hcur : curB false t k i = true := by rw [← hFv]; exact hfp
                  have hend : ∃ p2 : Nat, Value.int .i64 ((p : Int) + 1) = .int .i64 (p2 : Int) ∧ p2 ≤ n ∧ Value.int .u64 ((V ||| P : Nat) : Int) = .int .u64 ((wantN F p2 : Nat) : Int) ∧ Below wa.heap.size wa w20 := ⟨p + 1, by simp, by have := HP.out.2.2.2.2.2; omega, by rw [HP.out.1, hfp, if_pos rfl], HT.out.2⟩
                  have HEND := Lib.hid hend
                  have HHP := Lib.hid HP.out.2.1
                  rw [hcur]
                  clear hend hFv hfp hcur
                  go_wp2_with fail
                  go_roundw
                  case rel => rw [HHP.out, HBI.out]; exact HEND.out
                  case measure => have := HP.out.2.2.2.2.2; simp [RowKit.intOf]; omega
                | false =>
                  have hcur : curB false t k i = false := by rw [← hFv]; exact hfp
                  have hend : ∃ p2 : Nat, Value.int .i64 ((p : Int) + 1) = .int .i64 (p2 : Int) ∧ p2 ≤ n ∧ Value.int .u64 ((V : Nat) : Int) = .int .u64 ((wantN F p2 : Nat) : Int) ∧ Below wa.heap.size wa w20 := ⟨p + 1, by simp, by have := HP.out.2.2.2.2.2; omega, by rw [HP.out.1, hfp, if_neg (by decide)], HT.out.2⟩
                  have HEND := Lib.hid hend
                  rw [hcur]
                  clear hend hFv hfp hcur
                  go_wp2_with fail
                  go_roundw
                  case rel => exact HEND.out
                  case measure => have := HP.out.2.2.2.2.2; simp [RowKit.intOf]; omega
              · have j5 : ¬ (i : Int) ≤ (k : Int) := by omega
                have j5' : decide ((i : Int) ≤ (k : Int)) = false := by simpa using j5
                have hFv := HV.out
                cases hfp : F p with
                | true =>
                  have hcur : curB false t k i = true := by rw [← hFv]; exact hfp
                  have hend : ∃ p2 : Nat, Value.int .i64 ((p : Int) + 1) = .int .i64 (p2 : Int) ∧ p2 ≤ n ∧ Value.int .u64 ((V ||| P : Nat) : Int) = .int .u64 ((wantN F p2 : Nat) : Int) ∧ Below wa.heap.size wa w20 := ⟨p + 1, by simp, by have := HP.out.2.2.2.2.2; omega, by rw [HP.out.1, hfp, if_pos rfl], HT.out.2⟩
                  have HEND := Lib.hid hend
                  have HHP := Lib.hid HP.out.2.1
                  rw [hcur]
                  clear hend hFv hfp hcur
                  go_wp2_with fail
                  go_roundw
                  case rel => rw [HHP.out, HBI.out]; exact HEND.out
                  case measure => have := HP.out.2.2.2.2.2; simp [RowKit.intOf]; omega
                | false =>
                  have hcur : curB false t k i = false := by rw [← hFv]; exact hfp
                  have hend : ∃ p2 : Nat, Value.int .i64 ((p : Int) + 1) = .int .i64 (p2 : Int) ∧ p2 ≤ n ∧ Value.int .u64 ((V : Nat) : Int) = .int .u64 ((wantN F p2 : Nat) : Int) ∧ Below wa.heap.size wa w20 := ⟨p + 1, by simp, by have := HP.out.2.2.2.2.2; omega, by rw [HP.out.1, hfp, if_neg (by decide)], HT.out.2⟩
                  have HEND := Lib.hid hend
                  rw [hcur]
                  clear hend hFv hfp hcur
                  go_wp2_with fail
                  go_roundw
                  case rel => exact HEND.out
                  case measure => have := HP.out.2.2.2.2.2; simp [RowKit.intOf]; omega
            | true =>
              by_cases hik : i ≤ k
              · have j5 : (i : Int) ≤ (k : Int) := by omega
                have j5' : decide ((i : Int) ≤ (k : Int)) = true := by simpa using j5
                obtain ⟨ri, r1, r2, r3⟩ := HT.out.1.r i (by omega)
                replace r3 := r3 k hkK
                have hiK : (i : Int) < (K : Int) := by omega
                have hs := curB_succ t k i
                cases hcur : curB true t k i with
                | true =>
                  have hend : ∃ i2 : Nat, Value.int .i64 ((i : Int) + 1) = .int .i64 (i2 : Int) ∧ i2 ≤ K ∧ Value.bool true = .bool (curB true t k i2) ∧ True := ⟨i + 1, by simp, by omega, by rw [hs, hcur]; rfl, trivial⟩
                  have HEND := Lib.hid hend
                  clear hend hs hcur
                  go_wp2_with fail
                  go_roundw
                  case rel => exact HEND.out
                  case measure => simp [RowKit.intOf]; omega
                | false =>
                  have hend : ∃ i2 : Nat, Value.int .i64 ((i : Int) + 1) = .int .i64 (i2 : Int) ∧ i2 ≤ K ∧ Value.bool (t i k) = .bool (curB true t k i2) ∧ True := ⟨i + 1, by simp, by omega, by rw [hs, hcur]; rfl, trivial⟩
                  have HEND := Lib.hid hend
                  clear hend hs hcur
                  go_wp2_with fail
                  go_roundw
                  case rel => exact HEND.out
                  case measure => simp [RowKit.intOf]; omega
              · have hiK : i = K := by have := HP.out.2.2.2.2.1; omega
                have HV := Lib.hid (show F p = curB true t k i by rw [HP.out.2.2.1, hiK])
                have j5 : ¬ (i : Int) ≤ (k : Int) := by omega
                have j5' : decide ((i : Int) ≤ (k : Int)) = false := by simpa using j5
                clear hiK
                have hFv := HV.out
                cases hfp : F p with
                | true =>
                  have hcur : curB true t k i = true := by rw [← hFv]; exact hfp
                  have hend : ∃ p2 : Nat, Value.int .i64 ((p : Int) + 1) = .int .i64 (p2 : Int) ∧ p2 ≤ n ∧ Value.int .u64 ((V ||| P : Nat) : Int) = .int .u64 ((wantN F p2 : Nat) : Int) ∧ Below wa.heap.size wa w20 := ⟨p + 1, by simp, by have := HP.out.2.2.2.2.2; omega, by rw [HP.out.1, hfp, if_pos rfl], HT.out.2⟩
                  have HEND := Lib.hid hend
                  have HHP := Lib.hid HP.out.2.1
                  rw [hcur]
                  clear hend hFv hfp hcur
                  go_wp2_with fail
                  go_roundw
                  case rel => rw [HHP.out, HBI.out]; exact HEND.out
                  case measure => have := HP.out.2.2.2.2.2; simp [RowKit.intOf]; omega
                | false =>
                  have hcur : curB true t k i = false := by rw [← hFv]; exact hfp
                  have hend : ∃ p2 : Nat, Value.int .i64 ((p : Int) + 1) = .int .i64 (p2 : Int) ∧ p2 ≤ n ∧ Value.int .u64 ((V : Nat) : Int) = .int .u64 ((wantN F p2 : Nat) : Int) ∧ Below wa.heap.size wa w20 := ⟨p + 1, by simp, by have := HP.out.2.2.2.2.2; omega, by rw [HP.out.1, hfp, if_neg (by decide)], HT.out.2⟩
                  have HEND := Lib.hid hend
                  rw [hcur]
                  clear hend hFv hfp hcur
                  go_wp2_with fail
                  go_roundw
                  case rel => exact HEND.out
                  case measure => have := HP.out.2.2.2.2.2; simp [RowKit.intOf]; omega
        · obtain rfl : p = n := by omega
          have i6 : ¬ (p : Int) < (p : Int) := by omega
          have i6' : decide ((p : Int) < (p : Int)) = false := by simp
          have hfin : tellsU (mkN ks) X = wantN F p := by
            have := HWT.out
            rw [HX.out.2.2.2.2.1, HX.out.2.2.2.2.2] at this
            rw [← this, HX.out.1]
          have C20 := tells_any (H6.out.1.below (HX.out.2.2.1.trans (hb.mono HX.out.2.2.1.size))) X A c (HX.out.2.1.on hb)
          rw [hfin] at C20
          obtain ⟨V, hV⟩ : ∃ V, wantN F p = V := ⟨_, rfl⟩
          rw [hV] at C20
          have HC20 := Lib.hid C20
          rw [hV]
          have hvv : ((V : Int) == (V : Int)) = true := by simp
          have HB := Lib.hid (HX.out.2.2.2.1.trans (hb.mono HX.out.2.2.2.1.size))
          clear hfin C20 hb hV
          go_wp2_with fail
          refine HC20.out.mono ?_
          rintro r w30 ⟨rfl, e30⟩
          obtain rfl := e30
          go_wp2_with fail
          go_ret
          exact ⟨rfl, HB.out⟩
theorem nfaTells_any (se : Bool) (ks : List E) (ms : List Int) (Ak Am : Option Addr) (ck cm : Nat) (w : World) (h : SArg w ks ms Ak Am ck cm) :
    Calls Tryd.prog 4 #[.bool se, .slice Ak ks.length ck, .slice Am ms.length cm] w (TrOk w) := by
  by_cases h1 : 80 < szL ks ∨ 8 < ms.length
  · exact tells_big se ks ms Ak Am ck cm w h h1
  · cases hr : (ks.all rightE && decide (ks.length ≤ 40)) with
    | false => exact tells_wrong se ks ms Ak Am ck cm w h (by omega) (by omega) hr
    | true =>
      simp only [Bool.and_eq_true, decide_eq_true_eq] at hr
      exact tells_main se ks ms Ak Am ck cm w h (by omega) (by omega) hr.1 hr.2
end Go.Proofs.YtmldgfplnacecaaDoor

namespace Go.Proofs.YtmldgfplnacecaaDoor
open Go.ChangeShapes Go.WideShapes Go.ChangeAt Go.RowKit Go.Shelf
open Go.Lib

set_option maxRecDepth 100000 in
theorem nfaTells_lifted (os : Os) (started : os.Started) (H : Type) (enc : TypeId × Value → H) :
    ReturnsInHanded {} Tryd.checked os 4 .any (fun w args => (Rows.nfaTellsSpec.pre enc Tryd.prog Tryd.f4 [] false w args ∧ laidMetH Tryd.prog laidBits w) ∧ sizedMet enc Tryd.prog Tryd.f4 (OpenSpec.ofChange Rows.nfaTellsSpec) false w args)
      (Rows.nfaTellsSpec.post enc Tryd.prog Tryd.f4 false true false false) := by
  refine returnsInHanded_of_change_and (C := Tryd.checked) (X := fun w _ => laidMetH Tryd.prog laidBits w) (fun _ _ _ hh h => h.of_heap hh) own started (by kernel_rfl) Tryd.func4
    (ChangeSpec.witness_shaped (enc := enc) (C := Tryd.checked) (os := os) (X := fun w _ => laidMetH Tryd.prog laidBits w) false (World.laidAll Tryd.prog os laidBits) #[.bool false, .slice none 0 0, .slice none 0 0] 8 (World.laidAll_os _ _ _)
      (World.shaped_of_ZipB (by kernel_rfl) (by kernel_rfl)) (by kernel_rfl) (by kernel_rfl) (by kernel_rfl)
      (by rw [MakeChecks.laidMetH_plain _ _ _ (by kernel_rfl)]; exact laidMet_laidAll _ (by kernel_rfl) (by kernel_rfl))) ?_
  intro W base args ds gs before hval0 hW _ _ hL _
  have hval : ∀ (j : Nat) t v, Tryd.f4.params[j]? = some t → args[j]? = some v → Value.okWide Tryd.prog W .any base t v := hval0
  have hW' := hW
  obtain ⟨p, q, hA0, hV, rfl, _, _⟩ := hW
  have hA : DataW.TrodAll enc Tryd.prog W 0 (fun _ => true) true Tryd.f4.params.toList args.toList ds p := hA0
  rw [Tryd.params4] at hA hval
  obtain ⟨v0, vs0, d0, ds0, p0, q0, hargs, rfl, rfl, h0, r0⟩ := trodAll_cons hA
  obtain ⟨v1, vs1, d1, ds1, p1, q1, rfl, rfl, rfl, h1, r1⟩ := trodAll_cons r0
  obtain ⟨v2, vs2, d2, ds2, p2, q2, rfl, rfl, rfl, h2, r2⟩ := trodAll_cons r1
  obtain ⟨rfl, rfl, rfl⟩ := trodAll_nil r2
  obtain rfl : args = #[v0, v1, v2] := by cases args; simp_all
  obtain ⟨rfl, rfl⟩ := trodVars_none hV
  obtain ⟨se, rfl, rfl, rfl⟩ := open_bool Tryd.underlying4 (hval 0 4 v0 rfl rfl) h0
  have t1 := h1
  have lt1 : ∀ x ∈ p1, x.block < W.heap.size := by obtain ⟨m, hm⟩ := t1; exact DataW.trod_lt m _ _ _ hm
  have t2 := h2
  have lt2 : ∀ x ∈ p2, x.block < W.heap.size := by obtain ⟨m, hm⟩ := t2; exact DataW.trod_lt m _ _ _ hm
  obtain ⟨ks, Ak, ck, rfl, hk⟩ := ks_of_arg (hval 1 22 v1 rfl rfl) h1
  obtain ⟨ms, Am, cm, rfl, hm, _⟩ := is_of_arg (hval 2 23 v2 rfl rfl) h2
  rw [MakeChecks.laidMetH_plain _ _ _ (by kernel_rfl)] at hL
  have hZ : TZ W := tz_of_reads (Lib.laidMet.reads hL (.head _))
  clear hA0 hval0
  refine (nfaTells_any se ks ms Ak Am ck cm W ⟨hk, hm, hZ⟩).mono fun e W' ⟨he, bel⟩ => ?_
  subst he
  exact ⟨_, rfl, _, _, _, [], _, [], hW', trodAll_mk1 (shut_bool Tryd.underlying4 _), (trodAll_cons_mk (shut_bool Tryd.underlying4 _) (trodAll_cons_mk (Below.trod laidOut (by kernel_rfl) (of_decide_eq_true (by kernel_rfl)) t1 bel lt1) (trodAll_cons_mk (Below.trod laidOut (by kernel_rfl) (of_decide_eq_true (by kernel_rfl)) t2 bel lt2) trodAll_mk0))), rfl, bel.frame _, fun h => by cases h⟩

theorem nfaTells_row : Rows.NfaTellsSaid :=
  OpenClaim.holds_of_wide 4 Tryd.f4 rfl rfl rfl rfl rfl rfl rfl ⟨rfl, rfl, rfl, rfl, rfl⟩ rfl rfl rfl rfl rfl (by kernel_rfl) Tryd.func4 (by kernel_rfl)
    (of_decide_eq_true (by kernel_rfl)) (by unfold Func.isWrapper; first | (rw [if_pos (by decide +kernel)]; kernel_rfl) | (rw [if_neg (by decide +kernel)]; exact ⟨rfl, rfl⟩))
    (fun os started H enc _ => nfaTells_lifted os started H enc)

/-- THE STATEMENT. -/
theorem nfaTells_holds : Rows.NfaTellsCardSaid :=
  Claim7.holds_tied_plain_at .later [] [.data] true (true, "514ee3f9c623097908ebe5a446b6330cc07a40f1cd1db0d920030062fa9fe13d") false
    nfaTells_row (fun _ h => by cases h) (by kernel_rfl) (fun _ h => by cases h) nfaTells_row_tie rfl ⟨rfl, rfl⟩ (by kernel_rfl) rfl
    (fun f fn hf hfn => by
      obtain rfl : f = 4 := Option.some.inj ((show Tryd.prog.funcNamed Rows.nfaTellsRow.func = some 4 by kernel_rfl).symm.trans hf) |>.symm
      obtain rfl : fn = Tryd.f4 := (Option.some.inj (Tryd.func4.symm.trans hfn)).symm
      exact ⟨by kernel_rfl, fun j t ht => by
        rw [Tryd.params4] at ht
        have hm : t ∈ [4, 22, 23] := by simpa using Array.mem_of_getElem? ht
        have hall : ([4, 22, 23].all fun u => !Tryd.prog.wantsStandIn u) = true := by kernel_rfl
        exact (show Tryd.prog.wantsStandIn t = false by simpa using List.all_eq_true.1 hall t hm)⟩)
    (by kernel_rfl)
#print axioms nfaTells_holds
end Go.Proofs.YtmldgfplnacecaaDoor

