/-
  An expression as it lies in memory: a struct of two numbers and a slice of such structs, to whatever depth; what lies so lies so in every later world.
-/
import Derived.Test.YtegkogadceodlaaBase
namespace Go.Proofs.Ytegkogadceodlaa
open Go.RowKit Go.Shelf Go.Lib

/-- An expression: its kind, its class, its parts. -/
inductive E where
  | mk (k c : Int) (ks : List E)
def E.k : E → Int | .mk k _ _ => k
def E.c : E → Int | .mk _ c _ => c
def E.ks : E → List E | .mk _ _ ks => ks
/-- How many nodes. -/
def szE : E → Nat
  | .mk _ _ ks => 1 + szL ks
where szL : List E → Nat
  | [] => 0
  | e :: r => szE e + szL r
abbrev szL := szE.szL
theorem szE_eq (e : E) : szE e = 1 + szL e.ks := by cases e; rfl
theorem szL_append (a b : List E) : szL (a ++ b) = szL a + szL b := by
  induction a with
  | nil => simp [szL, szE.szL]
  | cons e r ih => simp only [List.cons_append, szL, szE.szL] at *; omega
theorem szE_pos (e : E) : 1 ≤ szE e := by rw [szE_eq]; omega
theorem szL_mem {ks : List E} {e : E} (h : e ∈ ks) : szE e ≤ szL ks := by
  induction ks with
  | nil => cases h
  | cons a r ih =>
    simp only [szL, szE.szL] at *
    rcases List.mem_cons.1 h with rfl | h
    · omega
    · have := ih h; omega
theorem szE_kid {e f : E} (h : f ∈ e.ks) : szE f < szE e := by have := szL_mem h; rw [szE_eq e]; omega
theorem szL_take {ks : List E} {i : Nat} {e : E} (h : ks[i]? = some e) : szL (ks.take (i + 1)) = szL (ks.take i) + szE e := by
  rw [List.take_add_one, h, szL_append]
  simp [szL, szE.szL]

theorem szL_take_le (ks : List E) (i : Nat) : szL (ks.take i) ≤ szL ks := by
  have := szL_append (ks.take i) (ks.drop i)
  rw [List.take_append_drop] at this
  omega
def i64 (n : Int) : Prop := -9223372036854775808 ≤ n ∧ n ≤ 9223372036854775807

/-- A value is an expression, whose parts lie in blocks below B. -/
def Nd (w : World) (B : Nat) : E → Value → Prop
  | .mk k c ks, v => i64 k ∧ i64 c ∧ ∃ A cap, v = .agg #[.int .i64 k, .int .i64 c, .slice A ks.length cap] ∧ ks.length ≤ cap ∧ cap ≤ maxLen ∧ (A = none → cap = 0) ∧ (ks ≠ [] → ∃ b o, A = some ⟨b, o, none⟩ ∧ b < B ∧ Row w B b o ks)
where Row (w : World) (B b : Nat) : Nat → List E → Prop
  | _, [] => True
  | o, e :: r => (∃ x y z, w.cell? ⟨b, o, none⟩ = some x ∧ w.cell? ⟨b, o + 1, none⟩ = some y ∧ w.cell? ⟨b, o + 2, none⟩ = some z ∧ Nd w B e (.agg #[x, y, z])) ∧ Row w B b (o + 3) r
/-- A slice of expressions. -/
structure KsAt (w : World) (B : Nat) (ks : List E) (A : Option Addr) (cap : Nat) : Prop where
  l : ks.length ≤ cap
  m : cap ≤ maxLen
  z : A = none → cap = 0
  r : ks ≠ [] → ∃ b o, A = some ⟨b, o, none⟩ ∧ b < B ∧ Nd.Row w B b o ks
theorem Nd_iff {w : World} {B : Nat} {e : E} {v : Value} : Nd w B e v ↔ i64 e.k ∧ i64 e.c ∧ ∃ A cap, v = .agg #[.int .i64 e.k, .int .i64 e.c, .slice A e.ks.length cap] ∧ KsAt w B e.ks A cap := by
  cases e with
  | mk k c ks =>
    show (i64 k ∧ i64 c ∧ _) ↔ (i64 k ∧ i64 c ∧ _)
    constructor
    · rintro ⟨h1, h2, A, cap, rfl, h3, h4, h5, h6⟩
      exact ⟨h1, h2, A, cap, rfl, h3, h4, h5, h6⟩
    · rintro ⟨h1, h2, A, cap, rfl, h3, h4, h5, h6⟩
      exact ⟨h1, h2, A, cap, rfl, h3, h4, h5, h6⟩
theorem row_get {w : World} {B b : Nat} {ks : List E} : ∀ {o i : Nat} {e : E}, Nd.Row w B b o ks → ks[i]? = some e →
    ∃ x y z, w.cell? ⟨b, o + i * 3, none⟩ = some x ∧ w.cell? ⟨b, o + i * 3 + 1, none⟩ = some y ∧ w.cell? ⟨b, o + i * 3 + 2, none⟩ = some z ∧ Nd w B e (.agg #[x, y, z]) := by
  induction ks with
  | nil => intro o i e _ h; simp at h
  | cons a r ih =>
    rintro o i e ⟨h1, h2⟩ h
    cases i with
    | zero =>
      obtain rfl : a = e := by simpa using h
      simpa using h1
    | succ i =>
      have := ih h2 (show r[i]? = some e by simpa using h)
      rw [show o + (i + 1) * 3 = o + 3 + i * 3 by omega]
      exact this
theorem row_get' {w : World} {B b : Nat} {ks : List E} {o i : Nat} {e : E} (h : Nd.Row w B b o ks) (hi : ks[i]? = some e) :
    ∃ A cap, w.cell? ⟨b, o + i * 3, none⟩ = some (.int .i64 e.k) ∧ w.cell? ⟨b, o + i * 3 + 1, none⟩ = some (.int .i64 e.c) ∧ w.cell? ⟨b, o + i * 3 + 2, none⟩ = some (.slice A e.ks.length cap) ∧ Nd w B e (.agg #[.int .i64 e.k, .int .i64 e.c, .slice A e.ks.length cap]) := by
  obtain ⟨x, y, z, c1, c2, c3, hN⟩ := row_get h hi
  obtain ⟨_, _, A, cap, he, _⟩ := Nd_iff.1 hN
  have he' : x = .int .i64 e.k ∧ y = .int .i64 e.c ∧ z = .slice A e.ks.length cap := by simpa using he
  obtain ⟨rfl, rfl, rfl⟩ := he'
  exact ⟨A, cap, c1, c2, c3, hN⟩
theorem row_of {w : World} {B b : Nat} {ks : List E} : ∀ {o : Nat}, (∀ i e, ks[i]? = some e →
    ∃ x y z, w.cell? ⟨b, o + i * 3, none⟩ = some x ∧ w.cell? ⟨b, o + i * 3 + 1, none⟩ = some y ∧ w.cell? ⟨b, o + i * 3 + 2, none⟩ = some z ∧ Nd w B e (.agg #[x, y, z])) → Nd.Row w B b o ks := by
  induction ks with
  | nil => intro o _; exact trivial
  | cons a r ih =>
    intro o h
    refine ⟨by simpa using h 0 a rfl, ih fun i e hi => ?_⟩
    have := h (i + 1) e (by simpa using hi)
    rw [show o + (i + 1) * 3 = o + 3 + i * 3 by omega] at this
    exact this
/-- What turns nothing below B turns nothing of an expression there. -/
theorem Nd.carry {w w' : World} {B B' : Nat} (hB : B ≤ B') (hc : ∀ b o v, b < B → w.cell? ⟨b, o, none⟩ = some v → w'.cell? ⟨b, o, none⟩ = some v) :
    ∀ n e v, szE e ≤ n → Nd w B e v → Nd w' B' e v := by
  intro n
  induction n with
  | zero => intro e v h; have := szE_pos e; omega
  | succ n ih =>
    intro e v hn h
    obtain ⟨h1, h2, A, cap, rfl, hk⟩ := Nd_iff.1 h
    refine Nd_iff.2 ⟨h1, h2, A, cap, rfl, hk.l, hk.m, hk.z, fun hne => ?_⟩
    obtain ⟨b, o, rfl, hb, hr⟩ := hk.r hne
    refine ⟨b, o, rfl, by omega, row_of fun i f hf => ?_⟩
    obtain ⟨x, y, z, c1, c2, c3, hN⟩ := row_get hr hf
    exact ⟨x, y, z, hc _ _ _ hb c1, hc _ _ _ hb c2, hc _ _ _ hb c3, ih f _ (by have := szE_kid (List.mem_of_getElem? hf); omega) hN⟩
theorem Nd.below {w w' : World} {B : Nat} {e : E} {v : Value} (h : Nd w B e v) (hb : Below B w w') : Nd w' B e v :=
  h.carry (Nat.le_refl _) (fun b o u hl hu => (hb.cell (p := ⟨b, o, none⟩) hl).trans hu) _ _ _ (Nat.le_refl _)
theorem Nd.mono {w : World} {B B' : Nat} {e : E} {v : Value} (h : Nd w B e v) (hB : B ≤ B') : Nd w B' e v :=
  h.carry hB (fun _ _ _ _ hu => hu) _ _ _ (Nat.le_refl _)
/-- In a later world, its own heap the bound. -/
theorem Nd.on {w w' : World} {e : E} {v : Value} (h : Nd w w.heap.size e v) (hb : Below w.heap.size w w') : Nd w' w'.heap.size e v := (h.below hb).mono hb.size
theorem KsAt.below {w w' : World} {B : Nat} {ks : List E} {A : Option Addr} {cap : Nat} (h : KsAt w B ks A cap) (hb : Below B w w') : KsAt w' B ks A cap :=
  ⟨h.l, h.m, h.z, fun hne => by
    obtain ⟨b, o, rfl, hl, hr⟩ := h.r hne
    refine ⟨b, o, rfl, hl, row_of fun i f hf => ?_⟩
    obtain ⟨x, y, z, c1, c2, c3, hN⟩ := row_get hr hf
    exact ⟨x, y, z, (hb.cell (p := ⟨b, _, none⟩) hl).trans c1, (hb.cell (p := ⟨b, _, none⟩) hl).trans c2, (hb.cell (p := ⟨b, _, none⟩) hl).trans c3, hN.below hb⟩⟩
theorem KsAt.mono {w : World} {B B' : Nat} {ks : List E} {A : Option Addr} {cap : Nat} (h : KsAt w B ks A cap) (hB : B ≤ B') : KsAt w B' ks A cap :=
  ⟨h.l, h.m, h.z, fun hne => by
    obtain ⟨b, o, rfl, hl, hr⟩ := h.r hne
    refine ⟨b, o, rfl, by omega, row_of fun i f hf => ?_⟩
    obtain ⟨x, y, z, c1, c2, c3, hN⟩ := row_get hr hf
    exact ⟨x, y, z, c1, c2, c3, hN.mono hB⟩⟩
theorem KsAt.on {w w' : World} {ks : List E} {A : Option Addr} {cap : Nat} (h : KsAt w w.heap.size ks A cap) (hb : Below w.heap.size w w') : KsAt w' w'.heap.size ks A cap := (h.below hb).mono hb.size
theorem below_new (w : World) (o : Obj) : Below w.heap.size w (w.alloc o) := (Below.refl _ _).alloc (Nat.le_refl _) o
end Go.Proofs.Ytegkogadceodlaa
