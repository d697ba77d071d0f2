/-
  An expression in memory whose parts lie in blocks of which something is known.
-/
import Derived.Test.YtegkogadceodlaaBx
import Derived.Deep.RegionHeld3
import Derived.Deep.AppendLies
namespace Go.Proofs.Ytegkogadceodlaa
open Go.RowKit Go.Shelf Go.Lib

def NdP (w : World) (S : Nat → Prop) : E → Value → Prop
  | .mk k c ks, v => i64 k ∧ i64 c ∧ ∃ A cap, v = .agg #[.int .i64 k, .int .i64 c, .slice A ks.length cap] ∧ ks.length ≤ cap ∧ cap ≤ maxLen ∧ (A = none → cap = 0) ∧ (ks ≠ [] → ∃ b o, A = some ⟨b, o, none⟩ ∧ S b ∧ Row w S b o ks)
where Row (w : World) (S : Nat → Prop) (b : Nat) : Nat → List E → Prop
  | _, [] => True
  | o, e :: r => (∃ x y z, w.cell? ⟨b, o, none⟩ = some x ∧ w.cell? ⟨b, o + 1, none⟩ = some y ∧ w.cell? ⟨b, o + 2, none⟩ = some z ∧ NdP w S e (.agg #[x, y, z])) ∧ Row w S b (o + 3) r
structure KsP (w : World) (S : Nat → Prop) (ks : List E) (A : Option Addr) (cap : Nat) : Prop where
  l : ks.length ≤ cap
  m : cap ≤ maxLen
  z : A = none → cap = 0
  r : ks ≠ [] → ∃ b o, A = some ⟨b, o, none⟩ ∧ S b ∧ NdP.Row w S b o ks
theorem NdP_iff {w : World} {S : Nat → Prop} {e : E} {v : Value} : NdP w S e v ↔ i64 e.k ∧ i64 e.c ∧ ∃ A cap, v = .agg #[.int .i64 e.k, .int .i64 e.c, .slice A e.ks.length cap] ∧ KsP w S e.ks A cap := by
  cases e with
  | mk k c ks =>
    show (i64 k ∧ i64 c ∧ _) ↔ (i64 k ∧ i64 c ∧ _)
    constructor
    · rintro ⟨h1, h2, A, cap, rfl, h3, h4, h5, h6⟩
      exact ⟨h1, h2, A, cap, rfl, h3, h4, h5, h6⟩
    · rintro ⟨h1, h2, A, cap, rfl, h3, h4, h5, h6⟩
      exact ⟨h1, h2, A, cap, rfl, h3, h4, h5, h6⟩
theorem rowP_get {w : World} {S : Nat → Prop} {b : Nat} {ks : List E} : ∀ {o i : Nat} {e : E}, NdP.Row w S b o ks → ks[i]? = some e →
    ∃ x y z, w.cell? ⟨b, o + i * 3, none⟩ = some x ∧ w.cell? ⟨b, o + i * 3 + 1, none⟩ = some y ∧ w.cell? ⟨b, o + i * 3 + 2, none⟩ = some z ∧ NdP w S e (.agg #[x, y, z]) := by
  induction ks with
  | nil => intro o i e _ h; simp at h
  | cons a r ih =>
    rintro o i e ⟨h1, h2⟩ h
    cases i with
    | zero =>
      obtain rfl : a = e := by simpa using h
      simpa using h1
    | succ i =>
      have := ih h2 (show r[i]? = some e by simpa using h)
      rw [show o + (i + 1) * 3 = o + 3 + i * 3 by omega]
      exact this
theorem rowP_of {w : World} {S : Nat → Prop} {b : Nat} {ks : List E} : ∀ {o : Nat}, (∀ i e, ks[i]? = some e →
    ∃ x y z, w.cell? ⟨b, o + i * 3, none⟩ = some x ∧ w.cell? ⟨b, o + i * 3 + 1, none⟩ = some y ∧ w.cell? ⟨b, o + i * 3 + 2, none⟩ = some z ∧ NdP w S e (.agg #[x, y, z])) → NdP.Row w S b o ks := by
  induction ks with
  | nil => intro o _; exact trivial
  | cons a r ih =>
    intro o h
    refine ⟨by simpa using h 0 a rfl, ih fun i e hi => ?_⟩
    have := h (i + 1) e (by simpa using hi)
    rw [show o + (i + 1) * 3 = o + 3 + i * 3 by omega] at this
    exact this
theorem NdP.carry {w w' : World} {S S' : Nat → Prop} (hS : ∀ b, S b → S' b) (hc : ∀ b o v, S b → w.cell? ⟨b, o, none⟩ = some v → w'.cell? ⟨b, o, none⟩ = some v) :
    ∀ n e v, szE e ≤ n → NdP w S e v → NdP w' S' e v := by
  intro n
  induction n with
  | zero => intro e v h; have := szE_pos e; omega
  | succ n ih =>
    intro e v hn h
    obtain ⟨h1, h2, A, cap, rfl, hk⟩ := NdP_iff.1 h
    refine NdP_iff.2 ⟨h1, h2, A, cap, rfl, hk.l, hk.m, hk.z, fun hne => ?_⟩
    obtain ⟨b, o, rfl, hb, hr⟩ := hk.r hne
    refine ⟨b, o, rfl, hS b hb, rowP_of fun i f hf => ?_⟩
    obtain ⟨x, y, z, c1, c2, c3, hN⟩ := rowP_get hr hf
    exact ⟨x, y, z, hc _ _ _ hb c1, hc _ _ _ hb c2, hc _ _ _ hb c3, ih f _ (by have := szE_kid (List.mem_of_getElem? hf); omega) hN⟩
/-- In a world in which those blocks are as they were. -/
theorem NdP.blocks {w w' : World} {S S' : Nat → Prop} {e : E} {v : Value} (h : NdP w S e v) (hS : ∀ b, S b → S' b) (hb : ∀ b, S b → w'.heap[b]? = w.heap[b]?) : NdP w' S' e v :=
  h.carry hS (fun b o _u hs hu => (World.cell?_of_block (w := w) (w' := w') (a := ⟨b, o, none⟩) (hb b hs)).trans hu) _ _ _ (Nat.le_refl _)
theorem KsP.blocks {w w' : World} {S S' : Nat → Prop} {ks : List E} {A : Option Addr} {cap : Nat} (h : KsP w S ks A cap) (hS : ∀ b, S b → S' b) (hb : ∀ b, S b → w'.heap[b]? = w.heap[b]?) : KsP w' S' ks A cap :=
  ⟨h.l, h.m, h.z, fun hne => by
    obtain ⟨b, o, rfl, hbs, hr⟩ := h.r hne
    have cc := fun o v (hu : w.cell? ⟨b, o, none⟩ = some v) => (World.cell?_of_block (w := w) (w' := w') (a := ⟨b, o, none⟩) (hb b hbs)).trans hu
    refine ⟨b, o, rfl, hS b hbs, rowP_of fun i f hf => ?_⟩
    obtain ⟨x, y, z, c1, c2, c3, hN⟩ := rowP_get hr hf
    exact ⟨x, y, z, cc _ _ c1, cc _ _ c2, cc _ _ c3, hN.blocks hS hb⟩⟩
theorem KsP.ks {w : World} {S : Nat → Prop} {B : Nat} {ks : List E} {A : Option Addr} {cap : Nat} (h : KsP w S ks A cap) (hS : ∀ b, S b → b < B) (nd : ∀ e v, NdP w S e v → Nd w B e v) : KsAt w B ks A cap :=
  ⟨h.l, h.m, h.z, fun hne => by
    obtain ⟨b, o, rfl, hbs, hr⟩ := h.r hne
    refine ⟨b, o, rfl, hS b hbs, row_of fun i f hf => ?_⟩
    obtain ⟨x, y, z, c1, c2, c3, hN⟩ := rowP_get hr hf
    exact ⟨x, y, z, c1, c2, c3, nd _ _ hN⟩⟩
theorem NdP.nd {w : World} {S : Nat → Prop} {B : Nat} (hS : ∀ b, S b → b < B) : ∀ n e v, szE e ≤ n → NdP w S e v → Nd w B e v := by
  intro n
  induction n with
  | zero => intro e v h; have := szE_pos e; omega
  | succ n ih =>
    intro e v hn h
    obtain ⟨h1, h2, A, cap, rfl, hk⟩ := NdP_iff.1 h
    refine Nd_iff.2 ⟨h1, h2, A, cap, rfl, hk.l, hk.m, hk.z, fun hne => ?_⟩
    obtain ⟨b, o, rfl, hb, hr⟩ := hk.r hne
    refine ⟨b, o, rfl, hS b hb, row_of fun i f hf => ?_⟩
    obtain ⟨x, y, z, c1, c2, c3, hN⟩ := rowP_get hr hf
    exact ⟨x, y, z, c1, c2, c3, ih f _ (by have := szE_kid (List.mem_of_getElem? hf); omega) hN⟩
/-- The parts that were turned so far: their cells in the row, what they are; the row is none of their blocks. -/
def Kids (w : World) (base : Nat) (v : Value) (ks : List E) (j : Nat) (cs : List Value) : Prop :=
  cs.length = j * 3 ∧ ∀ i f, i < j → ks[i]? = some f → ∃ x y z, cs[i * 3]? = some x ∧ cs[i * 3 + 1]? = some y ∧ cs[i * 3 + 2]? = some z ∧ NdP w (fun b => base ≤ b ∧ b < w.heap.size ∧ v.ownBlock ≠ some b) f (.agg #[x, y, z])
theorem Kids.step {w w5 w7 : World} {base : Nat} {v v7 : Value} {ks : List E} {j g : Nat} {cs : List Value} {f : E} {k5 c5 s5 : Value} (h : Kids w base v ks j cs) (hf : ks[j]? = some f)
    (hown : ∀ b, v.ownBlock = some b → b < w.heap.size) (h5 : NdP w5 (fun b => w.heap.size ≤ b ∧ b < w5.heap.size) f (.agg #[k5, c5, s5])) (hb5 : Below w.heap.size w w5) (hbase : base ≤ w.heap.size)
    (hg7 : w5.grownBy w7 v.ownBlock) (hv7 : v7.ownBlock = some g) (hg : v.ownBlock = some g ∨ w5.heap.size ≤ g) : Kids w7 base v7 ks (j + 1) (cs ++ [k5, c5, s5]) := by
  refine ⟨by rw [List.length_append, h.1]; simp; omega, fun i e hi he => ?_⟩
  have hs7 := hg7.size
  have hs5 := hb5.size
  by_cases hij : i = j
  · subst hij
    obtain rfl : f = e := by rw [hf] at he; injection he
    refine ⟨k5, c5, s5, ?_, ?_, ?_, h5.blocks (fun b hb => ⟨by omega, by omega, ?_⟩) (fun b hb => hg7.block b hb.2 (fun e' => ?_))⟩
    · rw [List.getElem?_append_right (by rw [h.1]; omega), h.1, show i * 3 - i * 3 = 0 by omega]; rfl
    · rw [List.getElem?_append_right (by rw [h.1]; omega), h.1, show i * 3 + 1 - i * 3 = 1 by omega]; rfl
    · rw [List.getElem?_append_right (by rw [h.1]; omega), h.1, show i * 3 + 2 - i * 3 = 2 by omega]; rfl
    · rw [hv7]
      intro e'
      injection e' with e'
      rcases hg with hg | hg
      · have := hown g hg; omega
      · omega
    · have := hown b e'.symm; omega
  · obtain ⟨x, y, z, c1, c2, c3, hN⟩ := h.2 i e (by omega) he
    have hl := h.1
    refine ⟨x, y, z, by rw [List.getElem?_append_left (by omega)]; exact c1, by rw [List.getElem?_append_left (by omega)]; exact c2, by rw [List.getElem?_append_left (by omega)]; exact c3,
      hN.blocks (fun b hb => ⟨hb.1, by omega, ?_⟩) (fun b hb => (hg7.block b (by omega) (fun e' => hb.2.2 e'.symm)).trans (hb5.block b hb.2.1))⟩
    rw [hv7]
    intro e'
    injection e' with e'
    rcases hg with hg | hg
    · exact hb.2.2 (by rw [hg, e'])
    · omega
theorem Kids.blocks {w w' : World} {base : Nat} {v : Value} {ks : List E} {j : Nat} {cs : List Value} (h : Kids w base v ks j cs) (hb : ∀ b, base ≤ b → b < w.heap.size → w'.heap[b]? = w.heap[b]?) (hs : w.heap.size ≤ w'.heap.size) : Kids w' base v ks j cs :=
  ⟨h.1, fun i f hi hf => by
    obtain ⟨x, y, z, c1, c2, c3, hN⟩ := h.2 i f hi hf
    exact ⟨x, y, z, c1, c2, c3, hN.blocks (fun b hb' => ⟨hb'.1, by omega, hb'.2.2⟩) (fun b hb' => hb b hb'.1 hb'.2.1)⟩⟩
/-- All parts: the list lies in new blocks. -/
theorem Kids.full {w : World} {base : Nat} {v : Value} {ks : List E} {cs : List Value} (h : Kids w base v ks ks.length cs) (hown : w.ownsRow base 33 3 v ks.length cs) :
    ∃ A cap, v = .slice A ks.length cap ∧ KsP w (fun b => base ≤ b ∧ b < w.heap.size) ks A cap := by
  rcases hown.2 with ⟨h1, h2⟩ | ⟨g, cap, cur, h1, h3, h4, h5, h6, h7, h8⟩
  · have : ks = [] := List.eq_nil_of_length_eq_zero h2
    subst this
    exact ⟨none, 0, by rw [h1]; rfl, by simp, by simp, fun _ => rfl, fun hn => absurd rfl hn⟩
  · refine ⟨_, cap, h1, h5, h6, fun e => (by cases e), fun _ => ⟨g, 0, rfl, ⟨h3, (Array.getElem?_eq_some_iff.1 h4).1⟩, rowP_of fun i f hf => ?_⟩⟩
    obtain ⟨x, y, z, c1, c2, c3, hN⟩ := h.2 i f (List.getElem?_eq_some_iff.1 hf).1 hf
    have cc := fun j u hj => World.ownsRow.cells hown (g := g) (by rw [h1]; rfl) j u hj
    have d : ∀ (j : Nat) (u : Value), cs[j]? = some u → w.cell? ⟨g, j, none⟩ = some u := fun j u hj => by have := cc j u hj; rwa [add0] at this
    refine ⟨x, y, z, ?_, ?_, ?_, hN.blocks (fun b hb => ⟨hb.1, hb.2.1⟩) (fun _ _ => rfl)⟩
    · rw [Nat.zero_add]; exact d _ _ c1
    · rw [Nat.zero_add]; exact d _ _ c2
    · rw [Nat.zero_add]; exact d _ _ c3
end Go.Proofs.Ytegkogadceodlaa
