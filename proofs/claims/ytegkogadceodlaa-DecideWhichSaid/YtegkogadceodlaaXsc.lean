/-
  An expression in memory whose parts lie in blocks of which something is known.
  Contracts: virgulelaw05.To.
  Contracts: a leaf by itself: newState, step, Matches of one mark.
  Contract: decide.newSide: an expression, with how long the lists are that it matches.
  Contract: reading.hides.
  Contracts: the document's Has.
  Contracts: the document's Longest.
-/
import Derived.Test.YtegkogadceodlaaXsa
import Derived.Deep.RegionHeld3
import Derived.Deep.AppendLies
import Derived.Test.YtegkogadceodlaaXsb
import Derived.BigQuiet
import Derived.Lib.QuietBelow
namespace Go.Proofs.Ytegkogadceodlaa
open Go.RowKit Go.Shelf Go.Lib

def NdP (w : World) (S : Nat → Prop) : E → Value → Prop
  | .mk k c ks, v => i64 k ∧ i64 c ∧ ∃ A cap, v = .agg #[.int .i64 k, .int .i64 c, .slice A ks.length cap] ∧ ks.length ≤ cap ∧ cap ≤ maxLen ∧ (A = none → cap = 0) ∧ (ks ≠ [] → ∃ b o, A = some ⟨b, o, none⟩ ∧ S b ∧ Row w S b o ks)
where Row (w : World) (S : Nat → Prop) (b : Nat) : Nat → List E → Prop
  | _, [] => True
  | o, e :: r => (∃ x y z, w.cell? ⟨b, o, none⟩ = some x ∧ w.cell? ⟨b, o + 1, none⟩ = some y ∧ w.cell? ⟨b, o + 2, none⟩ = some z ∧ NdP w S e (.agg #[x, y, z])) ∧ Row w S b (o + 3) r
structure KsP (w : World) (S : Nat → Prop) (ks : List E) (A : Option Addr) (cap : Nat) : Prop where
  l : ks.length ≤ cap
  m : cap ≤ maxLen
  z : A = none → cap = 0
  r : ks ≠ [] → ∃ b o, A = some ⟨b, o, none⟩ ∧ S b ∧ NdP.Row w S b o ks
theorem NdP_iff {w : World} {S : Nat → Prop} {e : E} {v : Value} : NdP w S e v ↔ i64 e.k ∧ i64 e.c ∧ ∃ A cap, v = .agg #[.int .i64 e.k, .int .i64 e.c, .slice A e.ks.length cap] ∧ KsP w S e.ks A cap := by
  cases e with
  | mk k c ks =>
    show (i64 k ∧ i64 c ∧ _) ↔ (i64 k ∧ i64 c ∧ _)
    constructor
    · rintro ⟨h1, h2, A, cap, rfl, h3, h4, h5, h6⟩
      exact ⟨h1, h2, A, cap, rfl, h3, h4, h5, h6⟩
    · rintro ⟨h1, h2, A, cap, rfl, h3, h4, h5, h6⟩
      exact ⟨h1, h2, A, cap, rfl, h3, h4, h5, h6⟩
theorem rowP_get {w : World} {S : Nat → Prop} {b : Nat} {ks : List E} : ∀ {o i : Nat} {e : E}, NdP.Row w S b o ks → ks[i]? = some e →
    ∃ x y z, w.cell? ⟨b, o + i * 3, none⟩ = some x ∧ w.cell? ⟨b, o + i * 3 + 1, none⟩ = some y ∧ w.cell? ⟨b, o + i * 3 + 2, none⟩ = some z ∧ NdP w S e (.agg #[x, y, z]) := by
  induction ks with
  | nil => intro o i e _ h; simp at h
  | cons a r ih =>
    rintro o i e ⟨h1, h2⟩ h
    cases i with
    | zero =>
      obtain rfl : a = e := by simpa using h
      simpa using h1
    | succ i =>
      have := ih h2 (show r[i]? = some e by simpa using h)
      rw [show o + (i + 1) * 3 = o + 3 + i * 3 by omega]
      exact this
theorem rowP_of {w : World} {S : Nat → Prop} {b : Nat} {ks : List E} : ∀ {o : Nat}, (∀ i e, ks[i]? = some e →
    ∃ x y z, w.cell? ⟨b, o + i * 3, none⟩ = some x ∧ w.cell? ⟨b, o + i * 3 + 1, none⟩ = some y ∧ w.cell? ⟨b, o + i * 3 + 2, none⟩ = some z ∧ NdP w S e (.agg #[x, y, z])) → NdP.Row w S b o ks := by
  induction ks with
  | nil => intro o _; exact trivial
  | cons a r ih =>
    intro o h
    refine ⟨by simpa using h 0 a rfl, ih fun i e hi => ?_⟩
    have := h (i + 1) e (by simpa using hi)
    rw [show o + (i + 1) * 3 = o + 3 + i * 3 by omega] at this
    exact this
theorem NdP.carry {w w' : World} {S S' : Nat → Prop} (hS : ∀ b, S b → S' b) (hc : ∀ b o v, S b → w.cell? ⟨b, o, none⟩ = some v → w'.cell? ⟨b, o, none⟩ = some v) :
    ∀ n e v, szE e ≤ n → NdP w S e v → NdP w' S' e v := by
  intro n
  induction n with
  | zero => intro e v h; have := szE_pos e; omega
  | succ n ih =>
    intro e v hn h
    obtain ⟨h1, h2, A, cap, rfl, hk⟩ := NdP_iff.1 h
    refine NdP_iff.2 ⟨h1, h2, A, cap, rfl, hk.l, hk.m, hk.z, fun hne => ?_⟩
    obtain ⟨b, o, rfl, hb, hr⟩ := hk.r hne
    refine ⟨b, o, rfl, hS b hb, rowP_of fun i f hf => ?_⟩
    obtain ⟨x, y, z, c1, c2, c3, hN⟩ := rowP_get hr hf
    exact ⟨x, y, z, hc _ _ _ hb c1, hc _ _ _ hb c2, hc _ _ _ hb c3, ih f _ (by have := szE_kid (List.mem_of_getElem? hf); omega) hN⟩
/-- In a world in which those blocks are as they were. -/
theorem NdP.blocks {w w' : World} {S S' : Nat → Prop} {e : E} {v : Value} (h : NdP w S e v) (hS : ∀ b, S b → S' b) (hb : ∀ b, S b → w'.heap[b]? = w.heap[b]?) : NdP w' S' e v :=
  h.carry hS (fun b o _u hs hu => (World.cell?_of_block (w := w) (w' := w') (a := ⟨b, o, none⟩) (hb b hs)).trans hu) _ _ _ (Nat.le_refl _)
theorem KsP.blocks {w w' : World} {S S' : Nat → Prop} {ks : List E} {A : Option Addr} {cap : Nat} (h : KsP w S ks A cap) (hS : ∀ b, S b → S' b) (hb : ∀ b, S b → w'.heap[b]? = w.heap[b]?) : KsP w' S' ks A cap :=
  ⟨h.l, h.m, h.z, fun hne => by
    obtain ⟨b, o, rfl, hbs, hr⟩ := h.r hne
    have cc := fun o v (hu : w.cell? ⟨b, o, none⟩ = some v) => (World.cell?_of_block (w := w) (w' := w') (a := ⟨b, o, none⟩) (hb b hbs)).trans hu
    refine ⟨b, o, rfl, hS b hbs, rowP_of fun i f hf => ?_⟩
    obtain ⟨x, y, z, c1, c2, c3, hN⟩ := rowP_get hr hf
    exact ⟨x, y, z, cc _ _ c1, cc _ _ c2, cc _ _ c3, hN.blocks hS hb⟩⟩
theorem KsP.ks {w : World} {S : Nat → Prop} {B : Nat} {ks : List E} {A : Option Addr} {cap : Nat} (h : KsP w S ks A cap) (hS : ∀ b, S b → b < B) (nd : ∀ e v, NdP w S e v → Nd w B e v) : KsAt w B ks A cap :=
  ⟨h.l, h.m, h.z, fun hne => by
    obtain ⟨b, o, rfl, hbs, hr⟩ := h.r hne
    refine ⟨b, o, rfl, hS b hbs, row_of fun i f hf => ?_⟩
    obtain ⟨x, y, z, c1, c2, c3, hN⟩ := rowP_get hr hf
    exact ⟨x, y, z, c1, c2, c3, nd _ _ hN⟩⟩
theorem NdP.nd {w : World} {S : Nat → Prop} {B : Nat} (hS : ∀ b, S b → b < B) : ∀ n e v, szE e ≤ n → NdP w S e v → Nd w B e v := by
  intro n
  induction n with
  | zero => intro e v h; have := szE_pos e; omega
  | succ n ih =>
    intro e v hn h
    obtain ⟨h1, h2, A, cap, rfl, hk⟩ := NdP_iff.1 h
    refine Nd_iff.2 ⟨h1, h2, A, cap, rfl, hk.l, hk.m, hk.z, fun hne => ?_⟩
    obtain ⟨b, o, rfl, hb, hr⟩ := hk.r hne
    refine ⟨b, o, rfl, hS b hb, row_of fun i f hf => ?_⟩
    obtain ⟨x, y, z, c1, c2, c3, hN⟩ := rowP_get hr hf
    exact ⟨x, y, z, c1, c2, c3, ih f _ (by have := szE_kid (List.mem_of_getElem? hf); omega) hN⟩
/-- The parts that were turned so far: their cells in the row, what they are; the row is none of their blocks. -/
def Kids (w : World) (base : Nat) (v : Value) (ks : List E) (j : Nat) (cs : List Value) : Prop :=
  cs.length = j * 3 ∧ ∀ i f, i < j → ks[i]? = some f → ∃ x y z, cs[i * 3]? = some x ∧ cs[i * 3 + 1]? = some y ∧ cs[i * 3 + 2]? = some z ∧ NdP w (fun b => base ≤ b ∧ b < w.heap.size ∧ v.ownBlock ≠ some b) f (.agg #[x, y, z])
theorem Kids.step {w w5 w7 : World} {base : Nat} {v v7 : Value} {ks : List E} {j g : Nat} {cs : List Value} {f : E} {k5 c5 s5 : Value} (h : Kids w base v ks j cs) (hf : ks[j]? = some f)
    (hown : ∀ b, v.ownBlock = some b → b < w.heap.size) (h5 : NdP w5 (fun b => w.heap.size ≤ b ∧ b < w5.heap.size) f (.agg #[k5, c5, s5])) (hb5 : Below w.heap.size w w5) (hbase : base ≤ w.heap.size)
    (hg7 : w5.grownBy w7 v.ownBlock) (hv7 : v7.ownBlock = some g) (hg : v.ownBlock = some g ∨ w5.heap.size ≤ g) : Kids w7 base v7 ks (j + 1) (cs ++ [k5, c5, s5]) := by
  refine ⟨by rw [List.length_append, h.1]; simp; omega, fun i e hi he => ?_⟩
  have hs7 := hg7.size
  have hs5 := hb5.size
  by_cases hij : i = j
  · subst hij
    obtain rfl : f = e := by rw [hf] at he; injection he
    refine ⟨k5, c5, s5, ?_, ?_, ?_, h5.blocks (fun b hb => ⟨by omega, by omega, ?_⟩) (fun b hb => hg7.block b hb.2 (fun e' => ?_))⟩
    · rw [List.getElem?_append_right (by rw [h.1]; omega), h.1, show i * 3 - i * 3 = 0 by omega]; rfl
    · rw [List.getElem?_append_right (by rw [h.1]; omega), h.1, show i * 3 + 1 - i * 3 = 1 by omega]; rfl
    · rw [List.getElem?_append_right (by rw [h.1]; omega), h.1, show i * 3 + 2 - i * 3 = 2 by omega]; rfl
    · rw [hv7]
      intro e'
      injection e' with e'
      rcases hg with hg | hg
      · have := hown g hg; omega
      · omega
    · have := hown b e'.symm; omega
  · obtain ⟨x, y, z, c1, c2, c3, hN⟩ := h.2 i e (by omega) he
    have hl := h.1
    refine ⟨x, y, z, by rw [List.getElem?_append_left (by omega)]; exact c1, by rw [List.getElem?_append_left (by omega)]; exact c2, by rw [List.getElem?_append_left (by omega)]; exact c3,
      hN.blocks (fun b hb => ⟨hb.1, by omega, ?_⟩) (fun b hb => (hg7.block b (by omega) (fun e' => hb.2.2 e'.symm)).trans (hb5.block b hb.2.1))⟩
    rw [hv7]
    intro e'
    injection e' with e'
    rcases hg with hg | hg
    · exact hb.2.2 (by rw [hg, e'])
    · omega
theorem Kids.blocks {w w' : World} {base : Nat} {v : Value} {ks : List E} {j : Nat} {cs : List Value} (h : Kids w base v ks j cs) (hb : ∀ b, base ≤ b → b < w.heap.size → w'.heap[b]? = w.heap[b]?) (hs : w.heap.size ≤ w'.heap.size) : Kids w' base v ks j cs :=
  ⟨h.1, fun i f hi hf => by
    obtain ⟨x, y, z, c1, c2, c3, hN⟩ := h.2 i f hi hf
    exact ⟨x, y, z, c1, c2, c3, hN.blocks (fun b hb' => ⟨hb'.1, by omega, hb'.2.2⟩) (fun b hb' => hb b hb'.1 hb'.2.1)⟩⟩
/-- All parts: the list lies in new blocks. -/
theorem Kids.full {w : World} {base : Nat} {v : Value} {ks : List E} {cs : List Value} (h : Kids w base v ks ks.length cs) (hown : w.ownsRow base 33 3 v ks.length cs) :
    ∃ A cap, v = .slice A ks.length cap ∧ KsP w (fun b => base ≤ b ∧ b < w.heap.size) ks A cap := by
  rcases hown.2 with ⟨h1, h2⟩ | ⟨g, cap, cur, h1, h3, h4, h5, h6, h7, h8⟩
  · have : ks = [] := List.eq_nil_of_length_eq_zero h2
    subst this
    exact ⟨none, 0, by rw [h1]; rfl, by simp, by simp, fun _ => rfl, fun hn => absurd rfl hn⟩
  · refine ⟨_, cap, h1, h5, h6, fun e => (by cases e), fun _ => ⟨g, 0, rfl, ⟨h3, (Array.getElem?_eq_some_iff.1 h4).1⟩, rowP_of fun i f hf => ?_⟩⟩
    obtain ⟨x, y, z, c1, c2, c3, hN⟩ := h.2 i f (List.getElem?_eq_some_iff.1 hf).1 hf
    have cc := fun j u hj => World.ownsRow.cells hown (g := g) (by rw [h1]; rfl) j u hj
    have d : ∀ (j : Nat) (u : Value), cs[j]? = some u → w.cell? ⟨g, j, none⟩ = some u := fun j u hj => by have := cc j u hj; rwa [add0] at this
    refine ⟨x, y, z, ?_, ?_, ?_, hN.blocks (fun b hb => ⟨hb.1, hb.2.1⟩) (fun _ _ => rfl)⟩
    · rw [Nat.zero_add]; exact d _ _ c1
    · rw [Nat.zero_add]; exact d _ _ c2
    · rw [Nat.zero_add]; exact d _ _ c3
end Go.Proofs.Ytegkogadceodlaa

namespace Go.Proofs.Ytegkogadceodlaa
open Go.RowKit Go.Shelf Go.Lib
theorem grownB {w w' : World} (h : Below w.heap.size w w') (row : Option Nat) : w.grownBy w' row := ⟨h.os, h.tape, h.output, h.size, fun k hk _ => h.block k hk⟩
theorem grown_setc (w : World) (b j : Nat) (v : Value) : w.grownBy (w.setCell ⟨b, j, none⟩ v) (some b) := ⟨rfl, rfl, rfl, by simp [World.setCell], fun k _ hk => Below.heap_setCell _ _ _ _ (fun e => hk (by rw [e]))⟩
theorem info33 : (Try.prog.info? 33).map (fun i => (i.zero, i.size, i.bytes)) = some (some (.agg #[.int .i64 0, .int .i64 0, .slice none 0 0]), 3, 40) := by kernel_rfl
def ToOk (w : World) (e : E) (r : Ending) (w' : World) : Prop := ∃ v, r = .returned v ∧ NdP w' (fun b => w.heap.size ≤ b ∧ b < w'.heap.size) e v ∧ Below w.heap.size w w'
set_option maxHeartbeats 8000000 in
set_option maxRecDepth 100000 in
theorem to_any : ∀ N e, szE e ≤ N → szE e ≤ 100000 → ∀ v w, Nd w w.heap.size e v → Calls Try.prog 16 #[v] w (ToOk w e) := by
  intro N
  induction N with
  | zero => intro e h; have := szE_pos e; omega
  | succ N ih =>
    intro e he hmx v w h
    obtain ⟨i0, hi, hz0, hz1, hz2⟩ := info_parts info33
    obtain ⟨hik, hic, A, cap, rfl, hk⟩ := Nd_iff.1 h
    have hS := szE_eq e
    have hkid := fun i f (hf : e.ks[i]? = some f) => szE_kid (List.mem_of_getElem? hf)
    have hln : e.ks.length ≤ 100000 := by
      have : ∀ l : List E, l.length ≤ szL l := by
        intro l
        induction l with
        | nil => simp
        | cons a r ih2 => have := szE_pos a; simp only [szL, szE.szL, List.length_cons] at *; omega
      have := this e.ks
      omega
    obtain ⟨W1, hW1⟩ : ∃ W, w.alloc (.cells #[.int .i64 e.k, .int .i64 e.c, .slice A e.ks.length cap] 24) = W := ⟨_, rfl⟩
    obtain ⟨W2, hW2⟩ : ∃ W, W1.alloc (.cells #[.int .i64 0, .int .i64 0, .slice none 0 0] 33) = W := ⟨_, rfl⟩
    obtain ⟨W3, hW3⟩ : ∃ W, W2.alloc (.cells #[.int .i64 e.k, .int .i64 e.c, .slice none 0 0] 33) = W := ⟨_, rfl⟩
    have z1 : W1.heap.size = w.heap.size + 1 := by rw [← hW1]; simp
    have z2 : W2.heap.size = w.heap.size + 1 + 1 := by rw [← hW2]; simp [z1]
    have z3 : W3.heap.size = w.heap.size + 1 + 1 + 1 := by rw [← hW3]; simp [z2]
    have b1 : Below w.heap.size w W1 := by rw [← hW1]; exact below_new _ _
    have b2 : Below W1.heap.size W1 W2 := by rw [← hW2]; exact below_new _ _
    have b3 : Below W2.heap.size W2 W3 := by rw [← hW3]; exact below_new _ _
    have x1 : Cells W3 w.heap.size 24 #[.int .i64 e.k, .int .i64 e.c, .slice A e.ks.length cap] := (b3.block _ (by omega)).trans ((b2.block _ (by omega)).trans (by rw [← hW1]; exact cells_new _ _ _))
    have x2 : Cells W3 (w.heap.size + 1) 33 #[.int .i64 0, .int .i64 0, .slice none 0 0] := (b3.block _ (by omega)).trans (by rw [← hW2, ← z1]; exact cells_new _ _ _)
    have x3 : Cells W3 (w.heap.size + 1 + 1) 33 #[.int .i64 e.k, .int .i64 e.c, .slice none 0 0] := by rw [← hW3, ← z2]; exact cells_new _ _ _
    have b13 : Below w.heap.size w W3 := b1.trans ((b2.mono (by omega)).trans (b3.mono (by omega)))
    have HW := Lib.hid (And.intro hW1 (And.intro hW2 (And.intro hW3 z3)))
    have H3 := Lib.hid (And.intro x1 (And.intro x2 (And.intro x3 (And.intro b13 (And.intro hk (And.intro hik hic))))))
    have HI := Lib.hid ih
    have HKD := Lib.hid hkid
    have HS := Lib.hid (And.intro hS (And.intro hmx he))
    obtain ⟨n, hn⟩ : ∃ n, e.ks.length = n := ⟨_, rfl⟩
    have HN := Lib.hid hn
    rw [hn] at hln HW H3 ⊢
    clear hW1 hW2 hW3 z1 z2 z3 b1 b2 b3 x1 x2 x3 b13 hk hik hic ih hkid hS hmx he h hn
    go_enter Try.func16, Try.ntmps16
    go_wp2_with fail
    rw [HW.out.1, HW.out.2.1, HW.out.2.2.1]
    go_loopw [4] (fun v wr => ∃ (j : Nat) (u : Value) (cs : List Value), v = .int .i64 (j : Int) ∧ j ≤ n ∧ Cells wr (w.heap.size + 1 + 1) 33 #[.int .i64 e.k, .int .i64 e.c, u] ∧ W3.grownBy wr (some (w.heap.size + 1 + 1)) ∧ wr.ownsRow W3.heap.size 33 3 u j cs ∧ Kids wr W3.heap.size u e.ks j cs) (fun v _ => n - (RowKit.intOf v).toNat)
    case atStart => exact ⟨0, .slice none 0 0, [], rfl, by omega, H3.out.2.2.1, World.grownBy.refl _ _, World.ownsRow_nil _ _ _ _, rfl, fun i f hi => by omega⟩
    case round =>
      obtain ⟨j, u, cs, rfl, hj, hx3, hg, hown, hkids⟩ := hrel
      have hx1 : Cells wr w.heap.size 24 #[.int .i64 e.k, .int .i64 e.c, .slice A n cap] := (hg.block _ H3.out.1.lt (by simp; omega)).trans H3.out.1
      have d2 := hx1.cell 2
      simp at d2
      by_cases hlt : j < n
      · have i1 : (j : Int) < (n : Int) := by omega
        obtain ⟨f, hf⟩ : ∃ f, e.ks[j]? = some f := ⟨e.ks[j]'(by rw [HN.out]; exact hlt), List.getElem?_eq_getElem _⟩
        obtain ⟨b, o, rfl, hbl, hr⟩ := H3.out.2.2.2.2.1.r (by intro e'; rw [e'] at hf; simp at hf)
        obtain ⟨A', cap', c0, c1, c2, hNd⟩ := row_get' hr hf
        have HK := Lib.hid (And.intro hx3 (And.intro hg (And.intro hown (And.intro hkids (And.intro hx1 hf)))))
        clear hx3 hg hown hkids hx1 hf hr
        go_wp2_with fail
        -- the region by hand
        have HG := Lib.hid (show W3.grownBy wr.drew (some (w.heap.size + 1 + 1)) from ⟨HK.out.2.1.os, HK.out.2.1.tape, HK.out.2.1.output, HK.out.2.1.size, HK.out.2.1.block⟩)
        have hl3 : ∀ v, wr.cell? ⟨w.heap.size + 1 + 1, 2, none⟩ = some v → v = u := fun v hv => by have := HK.out.1.cell 2; rw [this] at hv; simpa using hv.symm
        have HL := Lib.hid (show wr.cell? ⟨w.heap.size + 1 + 1, 2, none⟩ = some u from HK.out.1.cell 2)
        have HP := Lib.hid (And.intro (show W3.cell? ⟨w.heap.size, 2, none⟩ = some (.slice (some ⟨b, o, none⟩) n cap) from H3.out.1.cell 2) (And.intro ((H3.out.2.2.2.1.cell (p := ⟨b, o + j * 3, none⟩) hbl).trans c0) (And.intro ((H3.out.2.2.2.1.cell (p := ⟨b, o + j * 3 + 1, none⟩) hbl).trans c1) (And.intro ((H3.out.2.2.2.1.cell (p := ⟨b, o + j * 3 + 2, none⟩) hbl).trans c2) hbl))))
        have hbd : Below w.heap.size w wr.drew := H3.out.2.2.2.1.trans ⟨HG.out.os, HG.out.tape, HG.out.output, HG.out.size, fun k hk => HG.out.block k (by have := HW.out.2.2.2; omega) (by simp; omega)⟩
        have HC := Lib.hid (HI.out f (by have := HS.out; have := HKD.out j f HK.out.2.2.2.2.2; omega) (by have := HS.out; have := HKD.out j f HK.out.2.2.2.2.2; omega) (.agg #[.int .i64 f.k, .int .i64 f.c, .slice A' f.ks.length cap']) wr.drew ((hNd.below hbd).mono hbd.size))
        clear hl3 c0 c1 c2 hNd hbd d2
        refine wp_region_noPanic ?_
        refine wp_region_held_drew (S := fun W => W3.grownBy W (some (w.heap.size + 1 + 1))) (by kernel_rfl) HG.out (fun hH => ?_)
        refine wpAnyH_take (i := 0) (oi := { dst := some 17, op := Op.fieldAddr 33 (Operand.tmp 3) 2, type := 0, pos := "law.go:20", after := #[], guard := none }) (v := ?_) rfl (by kernel_rfl) (by kernel_rfl) (by kernel_rfl) (fun _ _ _ h => h) (Or.inl ⟨by rfl, ?_⟩) (by exact hH) ?_
        rotate_left
        · intro W hSw
          go_simp
          try with_reducible rfl
        try simp only [Act.put, List.setIfInBounds_toArray, List.set_cons_zero, List.set_cons_succ]
        refine wpAnyH_take (i := 2) (oi := { dst := some 19, op := Op.fieldAddr 24 (Operand.tmp 1) 2, type := 0, pos := "law.go:20", after := #[], guard := none }) (v := ?_) rfl (by kernel_rfl) (by kernel_rfl) (by kernel_rfl) (fun _ _ _ h => h) (Or.inl ⟨by rfl, ?_⟩) (by exact hH) ?_
        rotate_left
        · intro W hSw
          go_simp
          try with_reducible rfl
        try simp only [Act.put, List.setIfInBounds_toArray, List.set_cons_zero, List.set_cons_succ]
        refine wpAnyH_take (i := 3) (oi := { dst := some 20, op := Op.load 22 (Operand.tmp 19), type := 22, pos := "law.go:20", after := #[{ on := 2, ground := Ground.data }], guard := none }) (v := ?_) rfl (by kernel_rfl) (by kernel_rfl) (by kernel_rfl) (fun _ _ _ h => h) (Or.inl ⟨by rfl, ?_⟩) (by exact hH) ?_
        rotate_left
        · intro W hSw
          have p : W.cell? ⟨w.heap.size, 2, none⟩ = some (.slice (some ⟨b, o, none⟩) n cap) := hSw.cell HP.out.1 (by simp; omega)
          go_simp
          try with_reducible rfl
        try simp only [Act.put, List.setIfInBounds_toArray, List.set_cons_zero, List.set_cons_succ]
        refine wpAnyH_take (i := 4) (oi := { dst := some 21, op := Op.move (Operand.tmp 4), type := 3, pos := "law.go:20", after := #[], guard := none }) (v := ?_) rfl (by kernel_rfl) (by kernel_rfl) (by kernel_rfl) (fun _ _ _ h => h) (Or.inl ⟨by rfl, ?_⟩) (by exact hH) ?_
        rotate_left
        · intro W hSw
          go_simp
          try with_reducible rfl
        try simp only [Act.put, List.setIfInBounds_toArray, List.set_cons_zero, List.set_cons_succ]
        refine wpAnyH_take (i := 5) (oi := { dst := some 22, op := Op.indexAddr 22 (Operand.tmp 20) (Operand.tmp 21), type := 0, pos := "law.go:20", after := #[{ on := 3, ground := Ground.data }, { on := 4, ground := Ground.data }], guard := none }) (v := ?_) rfl (by kernel_rfl) (by kernel_rfl) (by kernel_rfl) (fun _ _ _ h => h) (Or.inl ⟨by rfl, ?_⟩) (by exact hH) ?_
        rotate_left
        · intro W hSw
          go_simp
          try with_reducible rfl
        try simp only [Act.put, List.setIfInBounds_toArray, List.set_cons_zero, List.set_cons_succ]
        refine wpAnyH_take (i := 6) (oi := { dst := some 23, op := Op.load 24 (Operand.tmp 22), type := 24, pos := "law.go:20", after := #[{ on := 5, ground := Ground.data }], guard := none }) (v := ?_) rfl (by kernel_rfl) (by kernel_rfl) (by kernel_rfl) (fun _ _ _ h => h) (Or.inl ⟨by rfl, ?_⟩) (by exact hH) ?_
        rotate_left
        · intro W hSw
          have p0 : W.cell? ⟨b, o + j * 3, none⟩ = some (.int .i64 f.k) := hSw.cell HP.out.2.1 (by have := HP.out.2.2.2.2; simp; omega)
          have p1 : W.cell? ⟨b, o + j * 3 + 1, none⟩ = some (.int .i64 f.c) := hSw.cell HP.out.2.2.1 (by have := HP.out.2.2.2.2; simp; omega)
          have p2 : W.cell? ⟨b, o + j * 3 + 2, none⟩ = some (.slice A' f.ks.length cap') := hSw.cell HP.out.2.2.2.1 (by have := HP.out.2.2.2.2; simp; omega)
          go_simp
          try with_reducible rfl
        try simp only [Act.put, List.setIfInBounds_toArray, List.set_cons_zero, List.set_cons_succ]
        refine wpAnyH_ready (rs := [1, 7]) (by kernel_rfl) (by simp) ?_
        refine (AllReadyH.cons (o := { dst := some 18, op := Op.load 31 (Operand.tmp 17), type := 31, pos := "law.go:20", after := #[{ on := 0, ground := Ground.data }], guard := none }) rfl (fun K hK => ?_) (AllReadyH.cons (o := { dst := some 24, op := Op.call { callee := Callee.value (Operand.func 16), args := #[Operand.tmp 23], argTypes := #[24] }, type := 33, pos := "law.go:20", after := #[{ on := 6, ground := Ground.data }], guard := none }) rfl (fun K hK => ?_) AllReadyH.nil))
        · have pl := (show wr.drew.cell? ⟨w.heap.size + 1 + 1, 2, none⟩ = some u from HL.out)
          go_simp
          refine hK.out _ _ HG.out (fun hH => ?_)
          clear hK K pl
          try simp only [Act.put, List.setIfInBounds_toArray, List.set_cons_zero, List.set_cons_succ]
          refine wpAnyH_ready (rs := [7]) (by kernel_rfl) (by simp) ?_
          refine (AllReadyH.cons (o := { dst := some 24, op := Op.call { callee := Callee.value (Operand.func 16), args := #[Operand.tmp 23], argTypes := #[24] }, type := 33, pos := "law.go:20", after := #[{ on := 6, ground := Ground.data }], guard := none }) rfl (fun K hK => ?_) AllReadyH.nil)
          go_simp
          go_at_call 16
          refine HC.out.mono ?_
          rintro r W5 ⟨v5, rfl, hN5, hb5⟩
          have hN5 : NdP W5 (fun b => wr.heap.size ≤ b ∧ b < W5.heap.size) f v5 := hN5
          have hb5 : Below wr.heap.size wr W5 := ⟨hb5.os, hb5.tape, hb5.output, hb5.size, hb5.block⟩
          obtain ⟨_, _, A5, c5, rfl, _⟩ := NdP_iff.1 hN5
          have hg5 : W3.grownBy W5 (some (w.heap.size + 1 + 1)) := HK.out.2.1.trans (grownB hb5 _)
          have hx5 : Cells W5 (w.heap.size + 1 + 1) 33 #[.int .i64 e.k, .int .i64 e.c, u] := (hb5.block _ HK.out.1.lt).trans HK.out.1
          have hd5 := hx5.cell 2
          simp at hd5
          have ho5 : W5.ownsRow W3.heap.size 33 3 u j cs := ownsRow_below HK.out.2.2.1 hb5
          have H5 := Lib.hid (And.intro hN5 (And.intro hb5 (And.intro hg5 (And.intro hx5 (And.intro hd5 ho5)))))
          clear hN5 hb5 hg5 hx5 hd5 ho5
          try go_wp2_with fail
          refine hK.out _ _ H5.out.2.2.1 (fun hH => ?_)
          clear hK K
          try simp only [Act.put, List.setIfInBounds_toArray, List.set_cons_zero, List.set_cons_succ]
          refine wpAnyH_ready (rs := [8]) (by kernel_rfl) (by simp) ?_
          refine (AllReadyH.cons (o := { dst := some 25, op := Op.buildSlice 31 1 #[(0, Operand.tmp 24)], type := 31, pos := "law.go:20", after := #[{ on := 7, ground := Ground.data }], guard := none }) rfl (fun K hK => ?_) AllReadyH.nil)
          go_simp
          have hg6 : W3.grownBy (W5.alloc (.cells #[.int .i64 f.k, .int .i64 f.c, .slice A5 f.ks.length c5] 33)) (some (w.heap.size + 1 + 1)) := H5.out.2.2.1.trans (World.grownBy_alloc _ _ _)
          have HG6 := Lib.hid hg6
          clear hg6
          refine hK.out _ _ HG6.out (fun hH => ?_)
          clear hK K
          try simp only [Act.put, List.setIfInBounds_toArray, List.set_cons_zero, List.set_cons_succ]
          refine wpAnyH_ready (rs := [9]) (by kernel_rfl) (by simp) ?_
          refine (AllReadyH.cons (o := { dst := some 26, op := Op.call { callee := Callee.builtin Builtin.append, args := #[Operand.tmp 18, Operand.tmp 25], argTypes := #[31, 31] }, type := 31, pos := "law.go:20", after := #[{ on := 1, ground := Ground.data }, { on := 8, ground := Ground.data }, { on := 7, ground := Ground.chain }], guard := none }) rfl (fun K hK => ?_) AllReadyH.nil)
          have NB := World.news_of_block (heap_alloc_new W5 (.cells #[.int .i64 f.k, .int .i64 f.c, .slice A5 f.ks.length c5] 33))
          refine step_append_lies _ rfl (.tmp 18) (.tmp 25) 31 rfl W3.heap.size 33 i0 _ 3 40 Try.underlying31 hi hz0 hz1 hz2 rfl (by omega) u j cs rfl (H5.out.2.2.2.2.2.alloc _) ⟨W5.heap.size, 0, none⟩ 1 1 [.int .i64 f.k, .int .i64 f.c, .slice A5 f.ks.length c5] rfl rfl NB (by simp [Value.oneCell']) (by omega) (by unfold maxLen; omega) (by omega) (by have := H5.out.2.2.1.size; simp; omega) (W5.heap.size + 1) (by simp) ?_
          intro g cap1 W7 hown7 hgrow7 hat7 hlt7
          have hown5 := H5.out.2.2.2.2.2
          have hg7 : W3.grownBy W7 (some (w.heap.size + 1 + 1)) := ⟨hgrow7.os.trans HG6.out.os, hgrow7.tape.trans HG6.out.tape, hgrow7.output.trans HG6.out.output, Nat.le_trans HG6.out.size hgrow7.size, fun k hk hn => (hgrow7.block k (Nat.lt_of_lt_of_le hk HG6.out.size) (fun e' => by have := (hown5.lt k e'.symm).1; omega)).trans (HG6.out.block k hk hn)⟩
          have hx7 : Cells W7 (w.heap.size + 1 + 1) 33 #[.int .i64 e.k, .int .i64 e.c, u] := (hgrow7.block _ (by have := H5.out.2.2.2.1.lt; simp; omega) (fun e' => by have := (hown5.lt _ e'.symm).1; have := HW.out.2.2.2; omega)).trans ((Below.heap_alloc _ _ _ H5.out.2.2.2.1.lt).trans H5.out.2.2.2.1)
          have hgr57 : W5.grownBy W7 u.ownBlock := ⟨hgrow7.os, hgrow7.tape, hgrow7.output, by have := hgrow7.size; simp at this; omega, fun k hk hn => (hgrow7.block k (by simp; omega) hn).trans (Below.heap_alloc _ _ _ hk)⟩
          have hk7 : Kids W7 W3.heap.size (.slice (some ⟨g, 0, none⟩) (j + 1) cap1) e.ks (j + 1) (cs ++ [.int .i64 f.k, .int .i64 f.c, .slice A5 f.ks.length c5]) := Kids.step (g := g) (w := wr) HK.out.2.2.2.1 HK.out.2.2.2.2.2 (fun b hb => (HK.out.2.2.1.lt b hb).2) H5.out.1 H5.out.2.1 HK.out.2.1.size hgr57 rfl (by rcases hat7 with h | h; exact .inl h; exact .inr (by omega))
          have d7 := hx7.cell 2
          simp at d7
          have f7 := hx7.froz 2
          have H7 := Lib.hid (And.intro hown7 (And.intro hg7 (And.intro hx7 hk7)))
          have hne7 : g ≠ w.heap.size + 1 + 1 := by have := (hown7.lt g rfl).1; have := HW.out.2.2.2; omega
          clear hown7 hgrow7 hat7 hlt7 hg7 hx7 hgr57 hk7 NB hown5
          refine hK.out _ _ H7.out.2.1 (fun hH => ?_)
          clear hK K
          try simp only [Act.put, List.setIfInBounds_toArray, List.set_cons_zero, List.set_cons_succ]
          refine wpAnyH_take (i := 10) (oi := { dst := some 27, op := Op.fieldAddr 33 (Operand.tmp 3) 2, type := 0, pos := "law.go:20", after := #[{ on := 0, ground := Ground.phase }, { on := 1, ground := Ground.phase }, { on := 2, ground := Ground.phase }, { on := 3, ground := Ground.phase }, { on := 4, ground := Ground.phase }, { on := 5, ground := Ground.phase }, { on := 6, ground := Ground.phase }, { on := 7, ground := Ground.phase }, { on := 8, ground := Ground.phase }, { on := 9, ground := Ground.phase }], guard := none }) (v := ?_) rfl (by kernel_rfl) (by kernel_rfl) (by kernel_rfl) (fun _ _ _ h => h) (Or.inl ⟨by rfl, ?_⟩) (by exact hH) ?_
          rotate_left
          · intro W hSw
            go_simp
            try with_reducible rfl
          try simp only [Act.put, List.setIfInBounds_toArray, List.set_cons_zero, List.set_cons_succ]
          refine wpAnyH_ready (rs := [11]) (by kernel_rfl) (by simp) ?_
          refine (AllReadyH.cons (o := { dst := none, op := Op.store 31 (Operand.tmp 27) (Operand.tmp 26), type := 0, pos := "law.go:20", after := #[{ on := 10, ground := Ground.data }, { on := 9, ground := Ground.data }, { on := 9, ground := Ground.chain }, { on := 0, ground := Ground.phase }, { on := 1, ground := Ground.phase }, { on := 2, ground := Ground.phase }, { on := 3, ground := Ground.phase }, { on := 4, ground := Ground.phase }, { on := 5, ground := Ground.phase }, { on := 6, ground := Ground.phase }, { on := 7, ground := Ground.phase }, { on := 8, ground := Ground.phase }, { on := 9, ground := Ground.phase }], guard := none }) rfl (fun K hK => ?_) AllReadyH.nil)
          go_simp
          have hg8 : W3.grownBy (W7.setCell ⟨w.heap.size + 1 + 1, 2, none⟩ (.slice (some ⟨g, 0, none⟩) (j + 1) cap1)) (some (w.heap.size + 1 + 1)) := H7.out.2.1.trans (grown_setc _ _ _ _)
          have HG8 := Lib.hid hg8
          clear hg8
          refine hK.out _ _ HG8.out (fun hH => ?_)
          clear hK K
          try simp only [Act.put, List.setIfInBounds_toArray, List.set_cons_zero, List.set_cons_succ]
          refine wpAnyH_done (by kernel_rfl) ?_ _
          refine NoPanic.normal ?_
          have hx8 : Cells (W7.setCell ⟨w.heap.size + 1 + 1, 2, none⟩ (.slice (some ⟨g, 0, none⟩) (j + 1) cap1)) (w.heap.size + 1 + 1) 33 #[.int .i64 e.k, .int .i64 e.c, .slice (some ⟨g, 0, none⟩) (j + 1) cap1] := H7.out.2.2.1.set 2 _
          have ho8 : (W7.setCell ⟨w.heap.size + 1 + 1, 2, none⟩ (.slice (some ⟨g, 0, none⟩) (j + 1) cap1)).ownsRow W3.heap.size 33 3 (.slice (some ⟨g, 0, none⟩) (j + 1) cap1) (j + 1) (cs ++ [.int .i64 f.k, .int .i64 f.c, .slice A5 f.ks.length c5]) := World.ownsRow.kept H7.out.1 (grown_setc _ _ _ _) (.inr (by show some g ≠ _; simpa using hne7))
          have hk8 : Kids (W7.setCell ⟨w.heap.size + 1 + 1, 2, none⟩ (.slice (some ⟨g, 0, none⟩) (j + 1) cap1)) W3.heap.size (.slice (some ⟨g, 0, none⟩) (j + 1) cap1) e.ks (j + 1) (cs ++ [.int .i64 f.k, .int .i64 f.c, .slice A5 f.ks.length c5]) := H7.out.2.2.2.blocks (fun b hb _ => Below.heap_setCell _ _ _ _ (by have := HW.out.2.2.2; simp; omega)) (by simp [World.setCell])
          have hend : ∃ (j' : Nat) (u' : Value) (cs' : List Value), Value.int .i64 ((j : Int) + 1) = .int .i64 (j' : Int) ∧ j' ≤ n ∧ Cells (W7.setCell ⟨w.heap.size + 1 + 1, 2, none⟩ (.slice (some ⟨g, 0, none⟩) (j + 1) cap1)) (w.heap.size + 1 + 1) 33 #[.int .i64 e.k, .int .i64 e.c, u'] ∧ W3.grownBy (W7.setCell ⟨w.heap.size + 1 + 1, 2, none⟩ (.slice (some ⟨g, 0, none⟩) (j + 1) cap1)) (some (w.heap.size + 1 + 1)) ∧ (W7.setCell ⟨w.heap.size + 1 + 1, 2, none⟩ (.slice (some ⟨g, 0, none⟩) (j + 1) cap1)).ownsRow W3.heap.size 33 3 u' j' cs' ∧ Kids (W7.setCell ⟨w.heap.size + 1 + 1, 2, none⟩ (.slice (some ⟨g, 0, none⟩) (j + 1) cap1)) W3.heap.size u' e.ks j' cs' := ⟨j + 1, _, _, by simp, by omega, hx8, HG8.out, ho8, hk8⟩
          have HEND := Lib.hid hend
          clear hx8 ho8 hk8 hend d7 f7 hne7
          go_wp2_with fail
          go_roundw
          case rel => exact HEND.out
          case measure => simp [RowKit.intOf]; omega
        · go_simp
          go_at_call 16
          refine HC.out.mono ?_
          rintro r W5 ⟨v5, rfl, hN5, hb5⟩
          have hN5 : NdP W5 (fun b => wr.heap.size ≤ b ∧ b < W5.heap.size) f v5 := hN5
          have hb5 : Below wr.heap.size wr W5 := ⟨hb5.os, hb5.tape, hb5.output, hb5.size, hb5.block⟩
          obtain ⟨_, _, A5, c5, rfl, _⟩ := NdP_iff.1 hN5
          have hg5 : W3.grownBy W5 (some (w.heap.size + 1 + 1)) := HK.out.2.1.trans (grownB hb5 _)
          have hx5 : Cells W5 (w.heap.size + 1 + 1) 33 #[.int .i64 e.k, .int .i64 e.c, u] := (hb5.block _ HK.out.1.lt).trans HK.out.1
          have hd5 := hx5.cell 2
          simp at hd5
          have ho5 : W5.ownsRow W3.heap.size 33 3 u j cs := ownsRow_below HK.out.2.2.1 hb5
          have H5 := Lib.hid (And.intro hN5 (And.intro hb5 (And.intro hg5 (And.intro hx5 (And.intro hd5 ho5)))))
          clear hN5 hb5 hg5 hx5 hd5 ho5
          try go_wp2_with fail
          refine hK.out _ _ H5.out.2.2.1 (fun hH => ?_)
          clear hK K
          try simp only [Act.put, List.setIfInBounds_toArray, List.set_cons_zero, List.set_cons_succ]
          refine wpAnyH_ready (rs := [1, 8]) (by kernel_rfl) (by simp) ?_
          refine (AllReadyH.cons (o := { dst := some 18, op := Op.load 31 (Operand.tmp 17), type := 31, pos := "law.go:20", after := #[{ on := 0, ground := Ground.data }], guard := none }) rfl (fun K hK => ?_) (AllReadyH.cons (o := { dst := some 25, op := Op.buildSlice 31 1 #[(0, Operand.tmp 24)], type := 31, pos := "law.go:20", after := #[{ on := 7, ground := Ground.data }], guard := none }) rfl (fun K hK => ?_) AllReadyH.nil))
          · have pl := H5.out.2.2.2.2.1
            go_simp
            refine hK.out _ _ H5.out.2.2.1 (fun hH => ?_)
            clear hK K pl
            try simp only [Act.put, List.setIfInBounds_toArray, List.set_cons_zero, List.set_cons_succ]
            refine wpAnyH_ready (rs := [8]) (by kernel_rfl) (by simp) ?_
            refine (AllReadyH.cons (o := { dst := some 25, op := Op.buildSlice 31 1 #[(0, Operand.tmp 24)], type := 31, pos := "law.go:20", after := #[{ on := 7, ground := Ground.data }], guard := none }) rfl (fun K hK => ?_) AllReadyH.nil)
            go_simp
            have hg6 : W3.grownBy (W5.alloc (.cells #[.int .i64 f.k, .int .i64 f.c, .slice A5 f.ks.length c5] 33)) (some (w.heap.size + 1 + 1)) := H5.out.2.2.1.trans (World.grownBy_alloc _ _ _)
            have HG6 := Lib.hid hg6
            clear hg6
            refine hK.out _ _ HG6.out (fun hH => ?_)
            clear hK K
            try simp only [Act.put, List.setIfInBounds_toArray, List.set_cons_zero, List.set_cons_succ]
            refine wpAnyH_ready (rs := [9]) (by kernel_rfl) (by simp) ?_
            refine (AllReadyH.cons (o := { dst := some 26, op := Op.call { callee := Callee.builtin Builtin.append, args := #[Operand.tmp 18, Operand.tmp 25], argTypes := #[31, 31] }, type := 31, pos := "law.go:20", after := #[{ on := 1, ground := Ground.data }, { on := 8, ground := Ground.data }, { on := 7, ground := Ground.chain }], guard := none }) rfl (fun K hK => ?_) AllReadyH.nil)
            have NB := World.news_of_block (heap_alloc_new W5 (.cells #[.int .i64 f.k, .int .i64 f.c, .slice A5 f.ks.length c5] 33))
            refine step_append_lies _ rfl (.tmp 18) (.tmp 25) 31 rfl W3.heap.size 33 i0 _ 3 40 Try.underlying31 hi hz0 hz1 hz2 rfl (by omega) u j cs rfl (H5.out.2.2.2.2.2.alloc _) ⟨W5.heap.size, 0, none⟩ 1 1 [.int .i64 f.k, .int .i64 f.c, .slice A5 f.ks.length c5] rfl rfl NB (by simp [Value.oneCell']) (by omega) (by unfold maxLen; omega) (by omega) (by have := H5.out.2.2.1.size; simp; omega) (W5.heap.size + 1) (by simp) ?_
            intro g cap1 W7 hown7 hgrow7 hat7 hlt7
            have hown5 := H5.out.2.2.2.2.2
            have hg7 : W3.grownBy W7 (some (w.heap.size + 1 + 1)) := ⟨hgrow7.os.trans HG6.out.os, hgrow7.tape.trans HG6.out.tape, hgrow7.output.trans HG6.out.output, Nat.le_trans HG6.out.size hgrow7.size, fun k hk hn => (hgrow7.block k (Nat.lt_of_lt_of_le hk HG6.out.size) (fun e' => by have := (hown5.lt k e'.symm).1; omega)).trans (HG6.out.block k hk hn)⟩
            have hx7 : Cells W7 (w.heap.size + 1 + 1) 33 #[.int .i64 e.k, .int .i64 e.c, u] := (hgrow7.block _ (by have := H5.out.2.2.2.1.lt; simp; omega) (fun e' => by have := (hown5.lt _ e'.symm).1; have := HW.out.2.2.2; omega)).trans ((Below.heap_alloc _ _ _ H5.out.2.2.2.1.lt).trans H5.out.2.2.2.1)
            have hgr57 : W5.grownBy W7 u.ownBlock := ⟨hgrow7.os, hgrow7.tape, hgrow7.output, by have := hgrow7.size; simp at this; omega, fun k hk hn => (hgrow7.block k (by simp; omega) hn).trans (Below.heap_alloc _ _ _ hk)⟩
            have hk7 : Kids W7 W3.heap.size (.slice (some ⟨g, 0, none⟩) (j + 1) cap1) e.ks (j + 1) (cs ++ [.int .i64 f.k, .int .i64 f.c, .slice A5 f.ks.length c5]) := Kids.step (g := g) (w := wr) HK.out.2.2.2.1 HK.out.2.2.2.2.2 (fun b hb => (HK.out.2.2.1.lt b hb).2) H5.out.1 H5.out.2.1 HK.out.2.1.size hgr57 rfl (by rcases hat7 with h | h; exact .inl h; exact .inr (by omega))
            have d7 := hx7.cell 2
            simp at d7
            have f7 := hx7.froz 2
            have H7 := Lib.hid (And.intro hown7 (And.intro hg7 (And.intro hx7 hk7)))
            have hne7 : g ≠ w.heap.size + 1 + 1 := by have := (hown7.lt g rfl).1; have := HW.out.2.2.2; omega
            clear hown7 hgrow7 hat7 hlt7 hg7 hx7 hgr57 hk7 NB hown5
            refine hK.out _ _ H7.out.2.1 (fun hH => ?_)
            clear hK K
            try simp only [Act.put, List.setIfInBounds_toArray, List.set_cons_zero, List.set_cons_succ]
            refine wpAnyH_take (i := 10) (oi := { dst := some 27, op := Op.fieldAddr 33 (Operand.tmp 3) 2, type := 0, pos := "law.go:20", after := #[{ on := 0, ground := Ground.phase }, { on := 1, ground := Ground.phase }, { on := 2, ground := Ground.phase }, { on := 3, ground := Ground.phase }, { on := 4, ground := Ground.phase }, { on := 5, ground := Ground.phase }, { on := 6, ground := Ground.phase }, { on := 7, ground := Ground.phase }, { on := 8, ground := Ground.phase }, { on := 9, ground := Ground.phase }], guard := none }) (v := ?_) rfl (by kernel_rfl) (by kernel_rfl) (by kernel_rfl) (fun _ _ _ h => h) (Or.inl ⟨by rfl, ?_⟩) (by exact hH) ?_
            rotate_left
            · intro W hSw
              go_simp
              try with_reducible rfl
            try simp only [Act.put, List.setIfInBounds_toArray, List.set_cons_zero, List.set_cons_succ]
            refine wpAnyH_ready (rs := [11]) (by kernel_rfl) (by simp) ?_
            refine (AllReadyH.cons (o := { dst := none, op := Op.store 31 (Operand.tmp 27) (Operand.tmp 26), type := 0, pos := "law.go:20", after := #[{ on := 10, ground := Ground.data }, { on := 9, ground := Ground.data }, { on := 9, ground := Ground.chain }, { on := 0, ground := Ground.phase }, { on := 1, ground := Ground.phase }, { on := 2, ground := Ground.phase }, { on := 3, ground := Ground.phase }, { on := 4, ground := Ground.phase }, { on := 5, ground := Ground.phase }, { on := 6, ground := Ground.phase }, { on := 7, ground := Ground.phase }, { on := 8, ground := Ground.phase }, { on := 9, ground := Ground.phase }], guard := none }) rfl (fun K hK => ?_) AllReadyH.nil)
            go_simp
            have hg8 : W3.grownBy (W7.setCell ⟨w.heap.size + 1 + 1, 2, none⟩ (.slice (some ⟨g, 0, none⟩) (j + 1) cap1)) (some (w.heap.size + 1 + 1)) := H7.out.2.1.trans (grown_setc _ _ _ _)
            have HG8 := Lib.hid hg8
            clear hg8
            refine hK.out _ _ HG8.out (fun hH => ?_)
            clear hK K
            try simp only [Act.put, List.setIfInBounds_toArray, List.set_cons_zero, List.set_cons_succ]
            refine wpAnyH_done (by kernel_rfl) ?_ _
            refine NoPanic.normal ?_
            have hx8 : Cells (W7.setCell ⟨w.heap.size + 1 + 1, 2, none⟩ (.slice (some ⟨g, 0, none⟩) (j + 1) cap1)) (w.heap.size + 1 + 1) 33 #[.int .i64 e.k, .int .i64 e.c, .slice (some ⟨g, 0, none⟩) (j + 1) cap1] := H7.out.2.2.1.set 2 _
            have ho8 : (W7.setCell ⟨w.heap.size + 1 + 1, 2, none⟩ (.slice (some ⟨g, 0, none⟩) (j + 1) cap1)).ownsRow W3.heap.size 33 3 (.slice (some ⟨g, 0, none⟩) (j + 1) cap1) (j + 1) (cs ++ [.int .i64 f.k, .int .i64 f.c, .slice A5 f.ks.length c5]) := World.ownsRow.kept H7.out.1 (grown_setc _ _ _ _) (.inr (by show some g ≠ _; simpa using hne7))
            have hk8 : Kids (W7.setCell ⟨w.heap.size + 1 + 1, 2, none⟩ (.slice (some ⟨g, 0, none⟩) (j + 1) cap1)) W3.heap.size (.slice (some ⟨g, 0, none⟩) (j + 1) cap1) e.ks (j + 1) (cs ++ [.int .i64 f.k, .int .i64 f.c, .slice A5 f.ks.length c5]) := H7.out.2.2.2.blocks (fun b hb _ => Below.heap_setCell _ _ _ _ (by have := HW.out.2.2.2; simp; omega)) (by simp [World.setCell])
            have hend : ∃ (j' : Nat) (u' : Value) (cs' : List Value), Value.int .i64 ((j : Int) + 1) = .int .i64 (j' : Int) ∧ j' ≤ n ∧ Cells (W7.setCell ⟨w.heap.size + 1 + 1, 2, none⟩ (.slice (some ⟨g, 0, none⟩) (j + 1) cap1)) (w.heap.size + 1 + 1) 33 #[.int .i64 e.k, .int .i64 e.c, u'] ∧ W3.grownBy (W7.setCell ⟨w.heap.size + 1 + 1, 2, none⟩ (.slice (some ⟨g, 0, none⟩) (j + 1) cap1)) (some (w.heap.size + 1 + 1)) ∧ (W7.setCell ⟨w.heap.size + 1 + 1, 2, none⟩ (.slice (some ⟨g, 0, none⟩) (j + 1) cap1)).ownsRow W3.heap.size 33 3 u' j' cs' ∧ Kids (W7.setCell ⟨w.heap.size + 1 + 1, 2, none⟩ (.slice (some ⟨g, 0, none⟩) (j + 1) cap1)) W3.heap.size u' e.ks j' cs' := ⟨j + 1, _, _, by simp, by omega, hx8, HG8.out, ho8, hk8⟩
            have HEND := Lib.hid hend
            clear hx8 ho8 hk8 hend d7 f7 hne7
            go_wp2_with fail
            go_roundw
            case rel => exact HEND.out
            case measure => simp [RowKit.intOf]; omega
          · go_simp
            have hg6 : W3.grownBy (W5.alloc (.cells #[.int .i64 f.k, .int .i64 f.c, .slice A5 f.ks.length c5] 33)) (some (w.heap.size + 1 + 1)) := H5.out.2.2.1.trans (World.grownBy_alloc _ _ _)
            have HG6 := Lib.hid hg6
            clear hg6
            refine hK.out _ _ HG6.out (fun hH => ?_)
            clear hK K
            try simp only [Act.put, List.setIfInBounds_toArray, List.set_cons_zero, List.set_cons_succ]
            refine wpAnyH_ready (rs := [1]) (by kernel_rfl) (by simp) ?_
            refine (AllReadyH.cons (o := { dst := some 18, op := Op.load 31 (Operand.tmp 17), type := 31, pos := "law.go:20", after := #[{ on := 0, ground := Ground.data }], guard := none }) rfl (fun K hK => ?_) AllReadyH.nil)
            have pl := (show (W5.alloc (.cells #[.int .i64 f.k, .int .i64 f.c, .slice A5 f.ks.length c5] 33)).cell? ⟨w.heap.size + 1 + 1, 2, none⟩ = some u from (World.cell?_alloc_lt _ _ _ H5.out.2.2.2.1.lt).trans H5.out.2.2.2.2.1)
            go_simp
            refine hK.out _ _ HG6.out (fun hH => ?_)
            clear hK K pl
            try simp only [Act.put, List.setIfInBounds_toArray, List.set_cons_zero, List.set_cons_succ]
            refine wpAnyH_ready (rs := [9]) (by kernel_rfl) (by simp) ?_
            refine (AllReadyH.cons (o := { dst := some 26, op := Op.call { callee := Callee.builtin Builtin.append, args := #[Operand.tmp 18, Operand.tmp 25], argTypes := #[31, 31] }, type := 31, pos := "law.go:20", after := #[{ on := 1, ground := Ground.data }, { on := 8, ground := Ground.data }, { on := 7, ground := Ground.chain }], guard := none }) rfl (fun K hK => ?_) AllReadyH.nil)
            have NB := World.news_of_block (heap_alloc_new W5 (.cells #[.int .i64 f.k, .int .i64 f.c, .slice A5 f.ks.length c5] 33))
            refine step_append_lies _ rfl (.tmp 18) (.tmp 25) 31 rfl W3.heap.size 33 i0 _ 3 40 Try.underlying31 hi hz0 hz1 hz2 rfl (by omega) u j cs rfl (H5.out.2.2.2.2.2.alloc _) ⟨W5.heap.size, 0, none⟩ 1 1 [.int .i64 f.k, .int .i64 f.c, .slice A5 f.ks.length c5] rfl rfl NB (by simp [Value.oneCell']) (by omega) (by unfold maxLen; omega) (by omega) (by have := H5.out.2.2.1.size; simp; omega) (W5.heap.size + 1) (by simp) ?_
            intro g cap1 W7 hown7 hgrow7 hat7 hlt7
            have hown5 := H5.out.2.2.2.2.2
            have hg7 : W3.grownBy W7 (some (w.heap.size + 1 + 1)) := ⟨hgrow7.os.trans HG6.out.os, hgrow7.tape.trans HG6.out.tape, hgrow7.output.trans HG6.out.output, Nat.le_trans HG6.out.size hgrow7.size, fun k hk hn => (hgrow7.block k (Nat.lt_of_lt_of_le hk HG6.out.size) (fun e' => by have := (hown5.lt k e'.symm).1; omega)).trans (HG6.out.block k hk hn)⟩
            have hx7 : Cells W7 (w.heap.size + 1 + 1) 33 #[.int .i64 e.k, .int .i64 e.c, u] := (hgrow7.block _ (by have := H5.out.2.2.2.1.lt; simp; omega) (fun e' => by have := (hown5.lt _ e'.symm).1; have := HW.out.2.2.2; omega)).trans ((Below.heap_alloc _ _ _ H5.out.2.2.2.1.lt).trans H5.out.2.2.2.1)
            have hgr57 : W5.grownBy W7 u.ownBlock := ⟨hgrow7.os, hgrow7.tape, hgrow7.output, by have := hgrow7.size; simp at this; omega, fun k hk hn => (hgrow7.block k (by simp; omega) hn).trans (Below.heap_alloc _ _ _ hk)⟩
            have hk7 : Kids W7 W3.heap.size (.slice (some ⟨g, 0, none⟩) (j + 1) cap1) e.ks (j + 1) (cs ++ [.int .i64 f.k, .int .i64 f.c, .slice A5 f.ks.length c5]) := Kids.step (g := g) (w := wr) HK.out.2.2.2.1 HK.out.2.2.2.2.2 (fun b hb => (HK.out.2.2.1.lt b hb).2) H5.out.1 H5.out.2.1 HK.out.2.1.size hgr57 rfl (by rcases hat7 with h | h; exact .inl h; exact .inr (by omega))
            have d7 := hx7.cell 2
            simp at d7
            have f7 := hx7.froz 2
            have H7 := Lib.hid (And.intro hown7 (And.intro hg7 (And.intro hx7 hk7)))
            have hne7 : g ≠ w.heap.size + 1 + 1 := by have := (hown7.lt g rfl).1; have := HW.out.2.2.2; omega
            clear hown7 hgrow7 hat7 hlt7 hg7 hx7 hgr57 hk7 NB hown5
            refine hK.out _ _ H7.out.2.1 (fun hH => ?_)
            clear hK K
            try simp only [Act.put, List.setIfInBounds_toArray, List.set_cons_zero, List.set_cons_succ]
            refine wpAnyH_take (i := 10) (oi := { dst := some 27, op := Op.fieldAddr 33 (Operand.tmp 3) 2, type := 0, pos := "law.go:20", after := #[{ on := 0, ground := Ground.phase }, { on := 1, ground := Ground.phase }, { on := 2, ground := Ground.phase }, { on := 3, ground := Ground.phase }, { on := 4, ground := Ground.phase }, { on := 5, ground := Ground.phase }, { on := 6, ground := Ground.phase }, { on := 7, ground := Ground.phase }, { on := 8, ground := Ground.phase }, { on := 9, ground := Ground.phase }], guard := none }) (v := ?_) rfl (by kernel_rfl) (by kernel_rfl) (by kernel_rfl) (fun _ _ _ h => h) (Or.inl ⟨by rfl, ?_⟩) (by exact hH) ?_
            rotate_left
            · intro W hSw
              go_simp
              try with_reducible rfl
            try simp only [Act.put, List.setIfInBounds_toArray, List.set_cons_zero, List.set_cons_succ]
            refine wpAnyH_ready (rs := [11]) (by kernel_rfl) (by simp) ?_
            refine (AllReadyH.cons (o := { dst := none, op := Op.store 31 (Operand.tmp 27) (Operand.tmp 26), type := 0, pos := "law.go:20", after := #[{ on := 10, ground := Ground.data }, { on := 9, ground := Ground.data }, { on := 9, ground := Ground.chain }, { on := 0, ground := Ground.phase }, { on := 1, ground := Ground.phase }, { on := 2, ground := Ground.phase }, { on := 3, ground := Ground.phase }, { on := 4, ground := Ground.phase }, { on := 5, ground := Ground.phase }, { on := 6, ground := Ground.phase }, { on := 7, ground := Ground.phase }, { on := 8, ground := Ground.phase }, { on := 9, ground := Ground.phase }], guard := none }) rfl (fun K hK => ?_) AllReadyH.nil)
            go_simp
            have hg8 : W3.grownBy (W7.setCell ⟨w.heap.size + 1 + 1, 2, none⟩ (.slice (some ⟨g, 0, none⟩) (j + 1) cap1)) (some (w.heap.size + 1 + 1)) := H7.out.2.1.trans (grown_setc _ _ _ _)
            have HG8 := Lib.hid hg8
            clear hg8
            refine hK.out _ _ HG8.out (fun hH => ?_)
            clear hK K
            try simp only [Act.put, List.setIfInBounds_toArray, List.set_cons_zero, List.set_cons_succ]
            refine wpAnyH_done (by kernel_rfl) ?_ _
            refine NoPanic.normal ?_
            have hx8 : Cells (W7.setCell ⟨w.heap.size + 1 + 1, 2, none⟩ (.slice (some ⟨g, 0, none⟩) (j + 1) cap1)) (w.heap.size + 1 + 1) 33 #[.int .i64 e.k, .int .i64 e.c, .slice (some ⟨g, 0, none⟩) (j + 1) cap1] := H7.out.2.2.1.set 2 _
            have ho8 : (W7.setCell ⟨w.heap.size + 1 + 1, 2, none⟩ (.slice (some ⟨g, 0, none⟩) (j + 1) cap1)).ownsRow W3.heap.size 33 3 (.slice (some ⟨g, 0, none⟩) (j + 1) cap1) (j + 1) (cs ++ [.int .i64 f.k, .int .i64 f.c, .slice A5 f.ks.length c5]) := World.ownsRow.kept H7.out.1 (grown_setc _ _ _ _) (.inr (by show some g ≠ _; simpa using hne7))
            have hk8 : Kids (W7.setCell ⟨w.heap.size + 1 + 1, 2, none⟩ (.slice (some ⟨g, 0, none⟩) (j + 1) cap1)) W3.heap.size (.slice (some ⟨g, 0, none⟩) (j + 1) cap1) e.ks (j + 1) (cs ++ [.int .i64 f.k, .int .i64 f.c, .slice A5 f.ks.length c5]) := H7.out.2.2.2.blocks (fun b hb _ => Below.heap_setCell _ _ _ _ (by have := HW.out.2.2.2; simp; omega)) (by simp [World.setCell])
            have hend : ∃ (j' : Nat) (u' : Value) (cs' : List Value), Value.int .i64 ((j : Int) + 1) = .int .i64 (j' : Int) ∧ j' ≤ n ∧ Cells (W7.setCell ⟨w.heap.size + 1 + 1, 2, none⟩ (.slice (some ⟨g, 0, none⟩) (j + 1) cap1)) (w.heap.size + 1 + 1) 33 #[.int .i64 e.k, .int .i64 e.c, u'] ∧ W3.grownBy (W7.setCell ⟨w.heap.size + 1 + 1, 2, none⟩ (.slice (some ⟨g, 0, none⟩) (j + 1) cap1)) (some (w.heap.size + 1 + 1)) ∧ (W7.setCell ⟨w.heap.size + 1 + 1, 2, none⟩ (.slice (some ⟨g, 0, none⟩) (j + 1) cap1)).ownsRow W3.heap.size 33 3 u' j' cs' ∧ Kids (W7.setCell ⟨w.heap.size + 1 + 1, 2, none⟩ (.slice (some ⟨g, 0, none⟩) (j + 1) cap1)) W3.heap.size u' e.ks j' cs' := ⟨j + 1, _, _, by simp, by omega, hx8, HG8.out, ho8, hk8⟩
            have HEND := Lib.hid hend
            clear hx8 ho8 hk8 hend d7 f7 hne7
            go_wp2_with fail
            go_roundw
            case rel => exact HEND.out
            case measure => simp [RowKit.intOf]; omega
      · obtain rfl : j = n := by omega
        have i1 : ¬ (j : Int) < (j : Int) := by omega
        have hown' : wr.ownsRow W3.heap.size 33 3 u e.ks.length cs := by rw [HN.out]; exact hown
        have hkids' : Kids wr W3.heap.size u e.ks e.ks.length cs := by rw [HN.out]; exact hkids
        obtain ⟨A6, c6, rfl, hkp⟩ := hkids'.full hown'
        rw [HN.out] at hx3
        have hx2 : Cells wr (w.heap.size + 1) 33 #[.int .i64 0, .int .i64 0, .slice none 0 0] := (hg.block _ H3.out.2.1.lt (by simp)).trans H3.out.2.1
        have e0 := hx3.cell 0
        have e1 := hx3.cell 1
        have e2 := hx3.cell 2
        have r0 := hx2.cell 0
        have r1 := hx2.cell 1
        have r2 := hx2.cell 2
        have s0 := hx2.froz 0
        have s1 := hx2.froz 1
        have s2 := hx2.froz 2
        simp at e0 e1 e2 r0 r1 r2
        have HK := Lib.hid (And.intro hx3 (And.intro hg (And.intro hkp hx2)))
        clear hx3 hg hown hkids hown' hkids' hkp hx2
        go_wp2_with fail
        have hy : Cells (((wr.setCell ⟨w.heap.size + 1, 0, none⟩ (.int .i64 e.k)).setCell ⟨w.heap.size + 1, 1, none⟩ (.int .i64 e.c)).setCell ⟨w.heap.size + 1, 2, none⟩ (.slice A6 j c6)) (w.heap.size + 1) 33 #[.int .i64 e.k, .int .i64 e.c, .slice A6 j c6] :=
          ((HK.out.2.2.2.set 0 (.int .i64 e.k)).set 1 (.int .i64 e.c)).set 2 (.slice A6 j c6)
        have hblk : ∀ b, b ≠ w.heap.size + 1 → (((wr.setCell ⟨w.heap.size + 1, 0, none⟩ (.int .i64 e.k)).setCell ⟨w.heap.size + 1, 1, none⟩ (.int .i64 e.c)).setCell ⟨w.heap.size + 1, 2, none⟩ (.slice A6 j c6)).heap[b]? = wr.heap[b]? := fun b hb =>
          (Below.heap_setCell _ _ _ _ hb).trans ((Below.heap_setCell _ _ _ _ hb).trans (Below.heap_setCell _ _ _ _ hb))
        have hsz : (((wr.setCell ⟨w.heap.size + 1, 0, none⟩ (.int .i64 e.k)).setCell ⟨w.heap.size + 1, 1, none⟩ (.int .i64 e.c)).setCell ⟨w.heap.size + 1, 2, none⟩ (.slice A6 j c6)).heap.size = wr.heap.size := by simp [World.setCell]
        have hg3 := HK.out.2.1
        have hz3 := HW.out.2.2.2
        have hs3 := hg3.size
        refine bodyPost_ret (v := .agg #[.int .i64 e.k, .int .i64 e.c, .slice A6 j c6]) (results_cell_row rfl _ _ (w.heap.size + 1) 33 #[.int .i64 e.k, .int .i64 e.c, .slice A6 j c6] (0, 0) _ rfl hy Try.underlying33 rfl (by kernel_rfl)) rfl ⟨_, rfl, ?_, ?_⟩
        · refine NdP_iff.2 ⟨H3.out.2.2.2.2.2.1, H3.out.2.2.2.2.2.2, A6, c6, by rw [HN.out], ?_⟩
          exact HK.out.2.2.1.blocks (fun b hb => ⟨by omega, by rw [hsz]; exact hb.2⟩) (fun b hb => hblk b (by omega))
        · exact ⟨hg3.os.trans H3.out.2.2.2.1.os, hg3.tape.trans H3.out.2.2.2.1.tape, hg3.output.trans H3.out.2.2.2.1.output, by rw [hsz]; omega, fun b hb => (hblk b (by omega)).trans ((hg3.block b (by omega) (by simp; omega)).trans (H3.out.2.2.2.1.block b hb))⟩
end Go.Proofs.Ytegkogadceodlaa

namespace Go.Proofs.Ytegkogadceodlaa
open Go.RowKit Go.Shelf Go.Lib

theorem cell_lt {w : World} {a : Addr} {v : Value} (h : w.cell? a = some v) : a.block < w.heap.size := by
  unfold World.cell? at h
  cases hb : w.heap[a.block]? with
  | none => simp [hb] at h
  | some x => exact (Array.getElem?_eq_some_iff.1 hb).1
theorem below_grown {w w' : World} {b B : Nat} (h : w.grownBy w' (some b)) (hB : B ≤ b) (hs : B ≤ w.heap.size) : Below B w w' :=
  ⟨h.os, h.tape, h.output, h.size, fun k hk => h.block k (by omega) (by simp; omega)⟩
def stC (k c : Int) (A : Option Addr) (cap : Nat) (e l : Bool) : Array Value := #[.int .i64 k, .int .i64 c, .slice A 0 cap, .slice none 0 0, .bool false, .bool e, .bool l]
set_option maxHeartbeats 4000000 in
set_option maxRecDepth 100000 in
theorem newLeaf_any (k c : Int) (A : Option Addr) (cap : Nat) (w : World) (h0 : 0 ≤ k) (h3 : k ≤ 3) :
    Calls Try.prog 38 #[.agg #[.int .i64 k, .int .i64 c, .slice A 0 cap]] w fun e w' => ∃ g, e = .returned (.pointer (some ⟨g, 0, none⟩)) ∧ w.heap.size ≤ g ∧ Cells w' g 76 (stC k c A cap false false) ∧ Below w.heap.size w w' := by
  have k4 : (k == 4) = false := by simp; omega
  have k5 : (k == 5) = false := by simp; omega
  have k6 : (k == 6) = false := by simp; omega
  have k7 : (k == 7) = false := by simp; omega
  have k8 : (k == 8) = false := by simp; omega
  have k9 : (k == 9) = false := by simp; omega
  go_enter Try.func38, Try.ntmps38
  go_wp2_with fail
  go_loopw [14] (fun i wr => i = .int .i64 0 ∧ wr = (w.alloc (.cells #[.int .i64 k, .int .i64 c, .slice A 0 cap] 33)).alloc (.cells (stC k c A cap false false) 76)) (fun _ _ => 0)
  case atStart => exact ⟨rfl, rfl⟩
  case round =>
    obtain ⟨rfl, rfl⟩ := hrel
    go_wp2_with fail
    go_ret
    refine ⟨_, rfl, by omega, ?_, ?_⟩
    · have := cells_new (w.alloc (.cells #[.int .i64 k, .int .i64 c, .slice A 0 cap] 33)) (stC k c A cap false false) 76
      simpa using this
    · exact (below_new w _).trans ((below_new _ _).mono (by simp))
set_option maxHeartbeats 4000000 in
set_option maxRecDepth 100000 in
theorem stepLeaf_any (k c m : Int) (A : Option Addr) (cap g : Nat) (w : World) (h0 : 0 ≤ k) (h3 : k ≤ 3) (hg : Cells w g 76 (stC k c A cap false false)) :
    Calls Try.prog 39 #[.pointer (some ⟨g, 0, none⟩), .bool true, .int .i64 m] w fun e w' => e = .returned (.tuple #[]) ∧ Cells w' g 76 (stC k c A cap (takesG k c m) (takesG k c m)) ∧ w.grownBy w' (some g) := by
  have k4 : (k == 4) = false := by simp; omega
  have k5 : (k == 5) = false := by simp; omega
  have k6 : (k == 6) = false := by simp; omega
  have k7 : (k == 7) = false := by simp; omega
  have k8 : (k == 8) = false := by simp; omega
  have d0 := hg.cell 0
  have d1 := hg.cell 1
  have d2 := hg.cell 2
  have d5 := hg.cell 5
  have d6 := hg.cell 6
  have f5 := hg.froz 5
  have f6 := hg.froz 6
  simp only [stC] at d0 d1 d2 d5 d6
  simp at d0 d1 d2 d5 d6
  have C := Lib.hid (fun w => takes_any k c m A 0 cap w)
  have HG := Lib.hid hg
  clear hg
  go_enter Try.func39, Try.ntmps39
  go_wp2_with fail
  refine (C.out _).mono ?_
  rintro e w2 ⟨rfl, hb2⟩
  have hg2 : Cells w2 g 76 (stC k c A cap false false) := (hb2.block g HG.out.lt).trans HG.out
  have e5 := hg2.cell 5
  have e6 := hg2.cell 6
  have q5 := hg2.froz 5
  have q6 := hg2.froz 6
  simp only [stC] at e5 e6
  simp at e5 e6
  obtain ⟨R, hR⟩ : ∃ R, takesG k c m = R := ⟨_, rfl⟩
  rw [hR]
  have HR := Lib.hid hR
  have HE := Lib.hid (And.intro hb2 hg2)
  clear hR hb2 hg2 C d0 d1 d2 d5 d6 f5 f6
  go_wp2_with fail
  go_end0
  refine ⟨rfl, ?_, ?_⟩
  · rw [HR.out]
    exact ((HE.out.2.set 5 (.bool R)).set 6 (.bool R))
  · exact (grownB HE.out.1 (some g)).trans ((grown_setc w2 g 5 (.bool R)).trans (grown_setc _ g 6 (.bool R)))

set_option maxHeartbeats 4000000 in
set_option maxRecDepth 100000 in
theorem matchLeaf_any (k c m : Int) (A : Option Addr) (cap g o cp : Nat) (w : World) (h0 : 0 ≤ k) (h3 : k ≤ 3) (hN : Nd w w.heap.size (.mk k c []) (.agg #[.int .i64 k, .int .i64 c, .slice A 0 cap])) (hr : rightE (.mk k c []) = true)
    (hm : w.cell? ⟨g, o, none⟩ = some (.int .i64 m)) :
    Calls Try.prog 15 #[.agg #[.int .i64 k, .int .i64 c, .slice A 0 cap], .slice (some ⟨g, o, none⟩) 1 cp] w fun e w' => e = .returned (.bool (takesG k c m)) ∧ Below w.heap.size w w' := by
  obtain ⟨W0, hW0⟩ : ∃ W0, w.alloc (.cells #[.int .i64 k, .int .i64 c, .slice A 0 cap] 33) = W0 := ⟨_, rfl⟩
  have hb0 : Below w.heap.size w W0 := by rw [← hW0]; exact below_new _ _
  have hbx : Cells W0 w.heap.size 33 #[.int .i64 k, .int .i64 c, .slice A 0 cap] := by rw [← hW0]; exact cells_new _ _ _
  have hz0 : w.heap.size < W0.heap.size := by rw [← hW0]; simp
  have hgl : g < w.heap.size := cell_lt hm
  have C1 := Lib.hid (right_any (.mk k c []) _ W0 (hN.on hb0))
  have HW := Lib.hid hW0
  have HB := Lib.hid (And.intro hb0 (And.intro hbx hm))
  have HR := Lib.hid hr
  have d0 := hbx.cell 0
  have d1 := hbx.cell 1
  have d2 := hbx.cell 2
  simp at d0 d1 d2
  obtain ⟨R, hR⟩ : ∃ R, takesG k c m = R := ⟨_, rfl⟩
  rw [hR]
  have HRR := Lib.hid hR
  clear hW0 hb0 hbx hm hN hr hR
  go_enter Try.func15, Try.ntmps15
  go_wp2_with fail
  rw [HW.out]
  go_wp2_with fail
  refine C1.out.mono ?_
  rintro e w2 ⟨rfl, hb2⟩
  rw [HR.out]
  have hc2 : Cells w2 w.heap.size 33 #[.int .i64 k, .int .i64 c, .slice A 0 cap] := (hb2.block _ hz0).trans HB.out.2.1
  have e0 := hc2.cell 0
  have e1 := hc2.cell 1
  have e2 := hc2.cell 2
  simp at e0 e1 e2
  have C2 := Lib.hid (newLeaf_any k c A cap w2 h0 h3)
  have H2 := Lib.hid hb2
  clear hb2 hc2 d0 d1 d2
  go_wp2_with fail
  refine C2.out.mono ?_
  rintro e w3 ⟨s, rfl, hs, hcs, hb3⟩
  have f4 := hcs.cell 4
  simp [stC] at f4
  have hbw3 : Below w.heap.size w w3 := HB.out.1.trans ((H2.out.mono (by omega)).trans (hb3.mono (by have := H2.out.size; omega)))
  have hm3 : w3.cell? ⟨g, o, none⟩ = some (.int .i64 m) := (hbw3.cell (p := ⟨g, o, none⟩) hgl).trans HB.out.2.2
  have C3 := Lib.hid (stepLeaf_any k c m A cap s w3 h0 h3 hcs)
  have H3 := Lib.hid (And.intro hbw3 (show w.heap.size < s by have := H2.out.size; omega))
  rw [HRR.out] at C3
  clear hcs hb3 hbw3 hs e0 e1 e2
  go_wp2_with fail
  go_loopw [6, 20] (fun b i wr => (i = .int .i64 0 ∧ wr = w3) ∨ (i = .int .i64 1 ∧ R = true ∧ b = .bool true ∧ Below w.heap.size w wr)) (fun _ i _ => 1 - (RowKit.intOf i).toNat)
  case atStart => exact .inl ⟨rfl, rfl⟩
  case round =>
    rcases hrel with ⟨rfl, rfl⟩ | ⟨rfl, hRt, rfl, hbb⟩
    · go_wp2_with fail
      refine C3.out.mono ?_
      rintro e w4 ⟨rfl, hc4, hg4⟩
      have e5 := hc4.cell 5
      have e6 := hc4.cell 6
      simp [stC] at e5 e6
      have hb4 := Lib.hid (H3.out.1.trans (below_grown hg4 (by have := H3.out.2; omega) H3.out.1.size))
      clear hc4 hg4
      cases R with
      | true =>
        go_wp2_with fail
        go_roundw
        case rel => exact .inr ⟨by simp, by simp, by simp, hb4.out⟩
        case measure => simp [RowKit.intOf]
      | false =>
        go_wp2_with fail
        go_ret
        exact ⟨rfl, hb4.out⟩
    · subst hRt
      have HBB := Lib.hid hbb
      clear hbb
      go_wp2_with fail
      go_ret
      exact ⟨rfl, HBB.out⟩
end Go.Proofs.Ytegkogadceodlaa

namespace Go.Proofs.Ytegkogadceodlaa
open Go.RowKit Go.Shelf Go.Lib Go.Sort

/-- A side's cells. -/
def sdC (e : E) (A : Option Addr) (cap : Nat) : List Value := [.int .i64 e.k, .int .i64 e.c, .slice A e.ks.length cap, .int .i64 ((shortR e : Nat) : Int), .int .i64 ((longR e).2 : Nat), .bool (longR e).1]
set_option maxRecDepth 100000 in
set_option maxHeartbeats 8000000 in
theorem newSide_any (e : E) (A : Option Addr) (cap : Nat) (w : World) (h : Nd w w.heap.size e (.agg #[.int .i64 e.k, .int .i64 e.c, .slice A e.ks.length cap])) :
    Calls Try.prog 76 #[.agg #[.int .i64 e.k, .int .i64 e.c, .slice A e.ks.length cap]] w fun r w' => r = .returned (.agg (sdC e A cap).toArray) ∧ Below w.heap.size w w' := by
  have CL := fun W (hb : Below w.heap.size w W) => longestR_any e _ W (h.on hb)
  have CS := fun W (hb : Below w.heap.size w W) => shortestR_any e _ W (h.on hb)
  unfold sdC
  obtain ⟨sh, hsh⟩ : ∃ s, shortR e = s := ⟨_, rfl⟩
  obtain ⟨lg, hlg⟩ : ∃ s, (longR e).2 = s := ⟨_, rfl⟩
  obtain ⟨bd, hbd⟩ : ∃ s, (longR e).1 = s := ⟨_, rfl⟩
  rw [hsh, hlg, hbd]
  simp only [hsh, hlg, hbd] at CL CS
  have HH := Lib.hid (And.intro CL CS)
  clear CL CS h hsh hlg hbd
  generalize e.k = k at *
  generalize e.c = c at *
  generalize e.ks.length = n at *
  go_enter Try.func76, Try.ntmps76
  go_wp2_with fail
  obtain ⟨W1, hW1⟩ : ∃ V, w.alloc (.cells #[.int .i64 k, .int .i64 c, .slice A n cap] 33) = V := ⟨_, rfl⟩
  have b1 : Below w.heap.size w W1 := by rw [← hW1]; exact below_new _ _
  have s1 : W1.heap.size = w.heap.size + 1 := by rw [← hW1]; simp
  have x1 : Cells W1 w.heap.size 33 #[.int .i64 k, .int .i64 c, .slice A n cap] := by rw [← hW1]; exact World.alloc_heap_new _ _
  obtain ⟨W2, hW2⟩ : ∃ V, W1.alloc (.cells #[.int .i64 0, .int .i64 0, .slice none 0 0, .int .i64 0, .int .i64 0, .bool false] 131) = V := ⟨_, rfl⟩
  have b2 : Below W1.heap.size W1 W2 := by rw [← hW2]; exact below_new _ _
  have x2 : Cells W2 (w.heap.size + 1) 131 #[.int .i64 0, .int .i64 0, .slice none 0 0, .int .i64 0, .int .i64 0, .bool false] := by rw [← s1, ← hW2]; exact World.alloc_heap_new _ _
  have x1' := x1.on b2
  have b12 := b1.trans (b2.mono b1.size)
  rw [hW1, hW2]
  clear hW1 hW2 b1 b2 x1
  refine (HH.out.1 W2 b12).mono ?_
  rintro e w3 ⟨rfl, hb3⟩
  have y1 := x1'.on hb3
  have y2 := x2.on hb3
  have b3 := b12.trans (hb3.mono b12.size)
  have CC : ∀ d os, Calls Try.prog 19 #[.agg #[.int .i64 k, .int .i64 c, .slice A n cap]] (grow (redrawn w3 d) os) fun e w'' => e = .returned (.int .i64 (sh : Int)) ∧ ∃ p : Regrown, w'' = grow (redrawn w3 p.d) p.os := fun d os => Calls.regrown_of (HH.out.2 _ (b3.trans ((below_regrown w3 d os).mono b3.size)))
  have c0 := y1.cell 0
  have c1 := y1.cell 1
  have c2 := y1.cell 2
  simp at c0 c1 c2
  have g0 := cell_regrown c0
  have g1 := cell_regrown c1
  have g2 := cell_regrown c2
  have HB := Lib.hid (And.intro y2 (And.intro b3 s1))
  clear y1 y2 b3 hb3 x1' x2 b12 c0 c1 c2 s1
  go_wp2_with fail
  refine wp_region_mix (fun i => if i = 2 then 1 else if i = 6 then 3 else 0) [0, 1, 2, 3, 4, 5] [6] (fun w' => ∃ p : Regrown, w' = grow (redrawn w3 p.d) p.os) (by kernel_rfl) (by kernel_rfl) ⟨⟨w3.drawn + 1, #[]⟩, by rw [grow_empty]; rfl⟩ ?_
  simp only [opsAt, List.filterMap_cons, List.filterMap_nil, List.getElem?_toArray, List.getElem?_cons_zero, List.getElem?_cons_succ]
  change wpQuiet _ _ _ _ [_, _, _, _, _, _] _
  repeat (go_big_quiet_step (exact CC _ _))
  refine wpQuiet_nil ?_
  intro _ hw'
  obtain ⟨⟨dq, osq⟩, hw''⟩ := hw'
  subst hw''
  have y3 := HB.out.1.on (below_regrown w3 dq osq)
  have b4 := HB.out.2.1.trans ((below_regrown w3 dq osq).mono HB.out.2.1.size)
  clear g0 g1 g2 CC
  generalize grow (redrawn w3 dq) osq = w4 at *
  have hs := HB.out.2.2
  have d0 := y3.cell 0
  have d1 := y3.cell 1
  have d2 := y3.cell 2
  have d3 := y3.cell 3
  have d4 := y3.cell 4
  have d5 := y3.cell 5
  simp at d0 d1 d2 d3 d4 d5
  have f0 := y3.froz 0
  have f1 := y3.froz 1
  have f2 := y3.froz 2
  have f3 := y3.froz 3
  have f4 := y3.froz 4
  have f5 := y3.froz 5
  have HE := Lib.hid (And.intro y3 b4)
  clear y3 b4
  refine wpSeqM_step rfl ?_
  go_wp2_with fail
  unfold wpSeqM
  have z6 := (((((HE.out.1.set 0 (.int .i64 k)).set 1 (.int .i64 c)).set 2 (.slice A n cap)).set 3 (.int .i64 (sh : Int))).set 4 (.int .i64 (lg : Int))).set 5 (.bool bd)
  have b6 := ((((((HE.out.2.setc (Nat.le_succ _) 0 (.int .i64 k)).setc (Nat.le_succ _) 1 (.int .i64 c)).setc (Nat.le_succ _) 2 (.slice A n cap)).setc (Nat.le_succ _) 3 (.int .i64 (sh : Int))).setc (Nat.le_succ _) 4 (.int .i64 (lg : Int))).setc (Nat.le_succ _) 5 (.bool bd))
  have HF := Lib.hid (And.intro z6 b6)
  clear z6 b6
  have t0 := HF.out.1.cell 0
  have t1 := HF.out.1.cell 1
  have t2 := HF.out.1.cell 2
  have t3 := HF.out.1.cell 3
  have t4 := HF.out.1.cell 4
  have t5 := HF.out.1.cell 5
  simp at t0 t1 t2 t3 t4 t5
  go_wp2_with fail
  refine bodyPost_ret (v := .agg #[.int .i64 k, .int .i64 c, .slice A n cap, .int .i64 (sh : Int), .int .i64 (lg : Int), .bool bd]) ?_ rfl ⟨rfl, HF.out.2⟩
  simp [results, Try.results76, go_sem, t0, t1, t2, t3, t4, t5]
end Go.Proofs.Ytegkogadceodlaa

namespace Go.Proofs.Ytegkogadceodlaa
open Go.RowKit Go.Shelf Go.Lib

set_option maxRecDepth 100000 in
set_option maxHeartbeats 8000000 in
theorem hides_any (x : Nat) (v0 v3 : Value) (Ah : Option Addr) (nh ch : Nat) (ms : List Int) (Am : Option Addr) (cm : Nat) (kp : List Int) (Ak : Option Addr) (ck : Nat) (l : Int) (w : World)
    (hx : Cells w x 109 #[v0, .slice Ah nh ch, .slice Am ms.length cm, v3]) (hm : IS w w.heap.size ms Am cm) (hk : IS w w.heap.size kp Ak ck) (hl : ms.getLast? = some l) (hlen : ms.length ≤ 100000) :
    Calls Try.prog 97 #[.pointer (some ⟨x, 0, none⟩), .slice Ak kp.length ck] w fun e w' => e = .returned (.bool (decide (0 < nh) && !kp.contains l)) ∧ Below w.heap.size w w' := by
  have x1 : w.cell? ⟨x, 1, none⟩ = some (.slice Ah nh ch) := hx.cell 1
  have x2 : w.cell? ⟨x, 2, none⟩ = some (.slice Am ms.length cm) := hx.cell 2
  have hcl := hm.l
  by_cases h0 : 0 < nh
  case neg =>
    obtain rfl : nh = 0 := by omega
    clear hx hm hk hl x2
    go_enter Try.func97, Try.ntmps97
    go_wp2_with go_quiet (fail)
    go_ret
    exact ⟨by simp, below_drewN (Below.refl _ _) _⟩
  case pos =>
    have i0 : (0 : Int) < (nh : Int) := by omega
    have hne : ms ≠ [] := by rintro rfl; simp at hl
    obtain ⟨b, o, rfl, hb, hr⟩ := hm.r hne
    obtain ⟨m, hm1⟩ : ∃ m, ms.length = m + 1 := ⟨ms.length - 1, by have := List.length_pos_iff.2 hne; omega⟩
    have hlm : ms[m]? = some l := by rw [List.getLast?_eq_getElem?] at hl; rw [← hl, hm1]; rfl
    have xl := hr m l hlm
    have CC := fun n => contains_any kp l Ak ck (w.drewN n) (hk.on (below_drewN (Below.refl _ _) n))
    rw [hm1] at x2 hcl hlen
    have hk1 : ((m + 1 : Nat) : Int) - 1 = (m : Int) := by omega
    have im : (m : Int) < ((m + 1 : Nat) : Int) := by omega
    obtain ⟨kc, hkc⟩ : ∃ q, kp.contains l = q := ⟨_, rfl⟩
    rw [hkc] at CC ⊢
    clear hx hm hk hl hr hlm hne hm1 hkc
    go_enter Try.func97, Try.ntmps97
    go_wp2_with go_quiet (exact Calls.quiet_of_same (CC _))
    go_ret
    exact ⟨by simp [h0], below_drewN (Below.refl _ _) _⟩
end Go.Proofs.Ytegkogadceodlaa

namespace Go.Proofs.Ytegkogadceodlaa
open Go.RowKit Go.Shelf Go.Lib

set_option maxHeartbeats 4000000 in
theorem refHas_any (kd : Int) : ∀ N e, szE e ≤ N → ∀ v w, Nd w w.heap.size e v →
    Calls Try.prog 99 #[v, .int .i64 kd] w fun r w' => r = .returned (.bool (!noneE [kd] e)) ∧ Below w.heap.size w w' := by
  intro N
  induction N with
  | zero => intro e h; have := szE_pos e; omega
  | succ N ih =>
    intro e he v w h
    obtain ⟨_, _, A, cap, rfl, hk⟩ := Nd_iff.1 h
    obtain ⟨W0, hW0⟩ : ∃ W0, w.alloc (.cells #[.int .i64 e.k, .int .i64 e.c, .slice A e.ks.length cap] 24) = W0 := ⟨_, rfl⟩
    have hb0 : Below w.heap.size w W0 := by rw [← hW0]; exact below_new _ _
    have hz0 : w.heap.size < W0.heap.size := by rw [← hW0]; simp
    have c0 : W0.cell? ⟨w.heap.size, 0, none⟩ = some (.int .i64 e.k) := by rw [← hW0]; simp
    have c2 : W0.cell? ⟨w.heap.size, 2, none⟩ = some (.slice A e.ks.length cap) := by rw [← hW0]; simp
    have hk0 := hk.on hb0
    have hln : e.ks.length ≤ 9223372036854775807 := by have := hk.l; have := hk.m; unfold maxLen at this; omega
    have hS := noneE_eq [kd] e
    have hkid := fun i f (hf : e.ks[i]? = some f) => szE_kid (List.mem_of_getElem? hf)
    have ih' : ∀ f, szE f < szE e → ∀ v w, Nd w w.heap.size f v → Calls Try.prog 99 #[v, .int .i64 kd] w fun r w' => r = .returned (.bool (!noneE [kd] f)) ∧ Below w.heap.size w w' := fun f hf => ih f (by omega)
    obtain ⟨R, hR⟩ : ∃ R, noneE [kd] e = R := ⟨_, rfl⟩
    rw [hR] at hS ⊢
    generalize e.k = kk at *
    generalize e.c = cc at *
    generalize e.ks = ks at *
    obtain ⟨n, hn⟩ : ∃ n, ks.length = n := ⟨_, rfl⟩
    rw [hn] at hW0 c2 hln ⊢
    have HW := Lib.hid hW0
    have HK := Lib.hid (And.intro hk0 hb0)
    have HI := Lib.hid ih'
    have HKD := Lib.hid hkid
    have HN := Lib.hid hn
    have HS := Lib.hid hS
    clear hW0 hk hk0 hb0 ih ih' hkid hn h he hR hS
    go_enter Try.func99, Try.ntmps99
    go_wp2_with fail
    rw [HW.out]
    go_loopw [5] (fun i wr => ∃ k : Nat, i = .int .i64 k ∧ k ≤ n ∧ noneE.all [kd] (ks.take k) = true ∧ Below W0.heap.size W0 wr) (fun i _ => n - (RowKit.intOf i).toNat)
    case atStart => exact ⟨0, rfl, Nat.zero_le _, by rw [List.take_zero]; rfl, Below.refl _ _⟩
    case round =>
      obtain ⟨k, rfl, hkn, hyes, hb⟩ := hrel
      have c0' := (hb.cell (p := ⟨w.heap.size, 0, none⟩) hz0).trans c0
      have c2' := (hb.cell (p := ⟨w.heap.size, 2, none⟩) hz0).trans c2
      by_cases hlt : k < n
      · obtain ⟨f, hf⟩ : ∃ f, ks[k]? = some f := ⟨ks[k]'(by rw [HN.out]; exact hlt), List.getElem?_eq_getElem _⟩
        have i1 : (k : Int) < (n : Int) := by omega
        obtain ⟨b, o, rfl, hbl, hr⟩ := HK.out.1.r (by rintro rfl; simp at hf)
        obtain ⟨Af, capf, d0, d1, d2, hN⟩ := row_get' hr hf
        have d0' := (hb.cell (p := ⟨b, o + k * 3, none⟩) hbl).trans d0
        have d1' := (hb.cell (p := ⟨b, o + k * 3 + 1, none⟩) hbl).trans d1
        have d2' := (hb.cell (p := ⟨b, o + k * 3 + 2, none⟩) hbl).trans d2
        have hs := none_take [kd] hf
        rw [hyes, Bool.true_and] at hs
        have hC := HI.out f (HKD.out k f hf) _ wr ((hN.below hb).mono hb.size)
        obtain ⟨q, hq⟩ : ∃ q, noneE [kd] f = q := ⟨_, rfl⟩
        rw [hq] at hC hs
        have hC := Lib.hid hC
        have HH := Lib.hid (And.intro hs (And.intro hb hlt))
        clear hs hb hN hr hbl hq hyes d0 d1 d2
        go_wp2_with fail
        refine hC.out.mono ?_
        rintro r w2 ⟨rfl, hb2⟩
        have HB2 := Lib.hid (HH.out.2.1.trans (hb2.mono HH.out.2.1.size))
        clear hb2
        cases q
        · obtain rfl : R = false := by rw [HS.out, none_stop [kd] HH.out.1, Bool.and_false]
          go_wp2
          go_ret
          exact ⟨rfl, HK.out.2.trans (HB2.out.mono HK.out.2.size)⟩
        · go_wp2
          go_roundw
          case rel => exact ⟨k + 1, by go_num, by omega, HH.out.1, HB2.out⟩
          case measure => simp [RowKit.intOf]; omega
      · have hkn : k = n := by omega
        subst hkn
        have i1 : ¬ (k : Int) < (k : Int) := by omega
        have ht : ks.take k = ks := by rw [← HN.out, List.take_length]
        rw [ht] at hyes
        have HY := Lib.hid (And.intro hyes (HK.out.2.trans (hb.mono HK.out.2.size)))
        clear hb ht hyes
        by_cases hq : kk = kd
        · subst hq
          obtain rfl : R = false := by rw [HS.out]; simp
          go_wp2
          go_ret
          exact ⟨rfl, HY.out.2⟩
        · have q1 : (kk == kd) = false := by simpa using hq
          obtain rfl : R = true := by rw [HS.out, HY.out.1]; simp [hq]
          clear hq
          go_wp2
          go_ret
          exact ⟨rfl, HY.out.2⟩
end Go.Proofs.Ytegkogadceodlaa

namespace Go.Proofs.Ytegkogadceodlaa
open Go.RowKit Go.Shelf Go.Lib

/-- The document's answer: how long the longest list is; -1: there is none. -/
def lgRef (e : E) : Int := if noneE [6, 7] e then (lgE e : Nat) else -1
theorem good_kind {e : E} (h : goodE e = true ∨ (e.k = 9 ∧ e.ks = [])) : 0 ≤ e.k ∧ e.k ≤ 9 ∧ (e.k < 4 ∨ e.k = 9 → e.ks = []) := by
  rcases h with h | ⟨h1, h2⟩
  · rw [goodE_eq] at h
    simp only [Bool.and_eq_true] at h
    have h2 := h.1.2
    unfold shapedK at h2
    split at h2
    · simp at h2
      exact ⟨by omega, by omega, fun _ => h2.2⟩
    · split at h2
      · simp at h2
        exact ⟨by omega, by omega, fun _ => h2.2⟩
      · split at h2
        · exact ⟨by omega, by omega, fun _ => by omega⟩
        · split at h2
          · exact ⟨by omega, by omega, fun _ => by omega⟩
          · cases h2
  · exact ⟨by omega, by omega, fun _ => h2⟩

set_option maxHeartbeats 8000000 in
theorem refLong_any : ∀ N e, szE e ≤ N → szE e ≤ 100000 → (goodE e = true ∨ (e.k = 9 ∧ e.ks = [])) → ∀ v w, Nd w w.heap.size e v →
    Calls Try.prog 98 #[v] w fun r w' => r = .returned (.int .i64 (lgRef e)) ∧ Below w.heap.size w w' := by
  intro N
  induction N with
  | zero => intro e h; have := szE_pos e; omega
  | succ N ih =>
    intro e he hsz hgd v w h
    obtain ⟨_, _, A, cap, rfl, hk⟩ := Nd_iff.1 h
    obtain ⟨W0, hW0⟩ : ∃ W0, w.alloc (.cells #[.int .i64 e.k, .int .i64 e.c, .slice A e.ks.length cap] 24) = W0 := ⟨_, rfl⟩
    have hb0 : Below w.heap.size w W0 := by rw [← hW0]; exact below_new _ _
    have hz0 : w.heap.size < W0.heap.size := by rw [← hW0]; simp
    have c0 : W0.cell? ⟨w.heap.size, 0, none⟩ = some (.int .i64 e.k) := by rw [← hW0]; simp
    have c2 : W0.cell? ⟨w.heap.size, 2, none⟩ = some (.slice A e.ks.length cap) := by rw [← hW0]; simp
    have hk0 := hk.on hb0
    have hln : e.ks.length ≤ 9223372036854775807 := by have := hk.l; have := hk.m; unfold maxLen at this; omega
    have hS := szE_eq e
    have hL := lgE_eq e
    have hNo := noneE_eq [6, 7] e
    have hK := good_kind hgd
    have hgs : ∀ f ∈ e.ks, goodE f = true ∨ (f.k = 9 ∧ f.ks = []) := fun f hf => .inl (by
      rcases hgd with h | ⟨_, h⟩
      · exact good_kids h f hf
      · rw [h] at hf; cases hf)
    have hkid := fun i f (hf : e.ks[i]? = some f) => szE_kid (List.mem_of_getElem? hf)
    have ih' : ∀ f, szE f < szE e → szE f ≤ 100000 → (goodE f = true ∨ (f.k = 9 ∧ f.ks = [])) → ∀ v w, Nd w w.heap.size f v → Calls Try.prog 98 #[v] w fun r w' => r = .returned (.int .i64 (lgRef f)) ∧ Below w.heap.size w w' := fun f hf => ih f (by omega)
    obtain ⟨R, hR⟩ : ∃ R, lgRef e = R := ⟨_, rfl⟩
    have hR2 : R = if noneE [6, 7] e then ((lgE e : Nat) : Int) else -1 := hR.symm
    rw [hR]
    rw [hL, hNo] at hR2
    generalize e.k = kk at *
    generalize e.c = cc at *
    generalize e.ks = ks at *
    generalize szE e = S at *
    obtain ⟨n, hn⟩ : ∃ n, ks.length = n := ⟨_, rfl⟩
    rw [hn] at hW0 c2 hln ⊢
    have HW := Lib.hid hW0
    have HK := Lib.hid (And.intro hk0 hb0)
    have HI := Lib.hid ih'
    have HKD := Lib.hid hkid
    have HN := Lib.hid hn
    have HSZ := Lib.hid (And.intro hS hsz)
    have HG := Lib.hid hgs
    have HR := Lib.hid hR2
    have HKK := Lib.hid hK
    clear hW0 hk hk0 hb0 ih ih' hkid hn h hS hsz he hR hR2 hL hNo hgd hgs hK
    by_cases k6 : kk = 6
    · subst k6
      obtain rfl : R = -1 := by rw [HR.out]; simp
      go_enter Try.func98, Try.ntmps98
      go_wp2
      rw [HW.out]
      go_ret
      exact ⟨rfl, HK.out.2⟩
    have q6 : (kk == 6) = false := by simpa using k6
    by_cases k7 : kk = 7
    · subst k7
      obtain rfl : R = -1 := by rw [HR.out]; simp
      clear k6
      go_enter Try.func98, Try.ntmps98
      go_wp2
      rw [HW.out]
      go_ret
      exact ⟨rfl, HK.out.2⟩
    have q7 : (kk == 7) = false := by simpa using k7
    have hnk : (!([6, 7] : List Int).contains kk) = true := by simp [k6, k7]
    have HR1 := Lib.hid (show R = if noneE.all [6, 7] ks then (((if kk = 9 then 0 else if kk = 4 then lgE.sum ks else if kk = 5 ∨ kk = 8 then lgE.most ks else 1) : Nat) : Int) else -1 by rw [HR.out, hnk, Bool.true_and])
    by_cases k4 : kk < 4
    · have hnil := HKK.out.2.2 (.inl k4)
      obtain rfl : R = 1 := by
        have e0 : noneE.all [6, 7] ([] : List E) = true := rfl
        rw [HR1.out, hnil, if_pos e0, if_neg (show ¬ kk = 9 by omega), if_neg (show ¬ kk = 4 by omega), if_neg (show ¬ (kk = 5 ∨ kk = 8) by omega)]
        rfl
      clear hnk k6 k7
      go_enter Try.func98, Try.ntmps98
      go_wp2
      rw [HW.out]
      go_ret
      exact ⟨rfl, HK.out.2⟩
    have q4 : decide (kk < 4) = false := by simp; omega
    have HKL := Lib.hid (And.intro k6 (And.intro k7 k4))
    clear hnk k6 k7 k4
    go_enter Try.func98, Try.ntmps98
    go_wp2_with fail
    rw [HW.out]
    go_loopw [3, 4, 5, 6] (fun s mo i _ wr => ∃ k : Nat, i = .int .i64 k ∧ k ≤ n ∧ s = .int .i64 ((lgE.sum (ks.take k) : Nat) : Int) ∧ mo = .int .i64 ((lgE.most (ks.take k) : Nat) : Int) ∧ noneE.all [6, 7] (ks.take k) = true ∧ Below W0.heap.size W0 wr) (fun _ _ i _ _ => n - (RowKit.intOf i).toNat)
    case atStart => exact ⟨0, rfl, Nat.zero_le _, by rw [List.take_zero]; rfl, by rw [List.take_zero]; rfl, by rw [List.take_zero]; rfl, Below.refl _ _⟩
    case round =>
      obtain ⟨k, rfl, hkn, rfl, rfl, hyes, hb⟩ := hrel
      have c0' := (hb.cell (p := ⟨w.heap.size, 0, none⟩) hz0).trans c0
      have c2' := (hb.cell (p := ⟨w.heap.size, 2, none⟩) hz0).trans c2
      by_cases hlt : k < n
      · obtain ⟨f, hf⟩ : ∃ f, ks[k]? = some f := ⟨ks[k]'(by rw [HN.out]; exact hlt), List.getElem?_eq_getElem _⟩
        have i1 : (k : Int) < (n : Int) := by omega
        obtain ⟨b, o, rfl, hbl, hr⟩ := HK.out.1.r (by rintro rfl; simp at hf)
        obtain ⟨Af, capf, d0, d1, d2, hN⟩ := row_get' hr hf
        have d0' := (hb.cell (p := ⟨b, o + k * 3, none⟩) hbl).trans d0
        have d1' := (hb.cell (p := ⟨b, o + k * 3 + 1, none⟩) hbl).trans d1
        have d2' := (hb.cell (p := ⟨b, o + k * 3 + 2, none⟩) hbl).trans d2
        have hs := none_take [6, 7] hf
        rw [hyes, Bool.true_and] at hs
        have h1 := lgsum_take hf
        have h2 := lgmost_take hf
        have hl := HKD.out k f hf
        have hq1 := (lgsum_le ks (k + 1)).1
        have hq2 := lgL_le ks
        rw [h1] at hq1
        have hC := HI.out f hl (by have := HSZ.out; omega) (HG.out f (List.mem_of_getElem? hf)) _ wr ((hN.below hb).mono hb.size)
        have hlr : lgRef f = if noneE [6, 7] f then ((lgE f : Nat) : Int) else -1 := rfl
        rw [hlr] at hC
        generalize lgE.sum (ks.take k) = s at *
        generalize lgE.most (ks.take k) = mo at *
        obtain ⟨t, ht⟩ : ∃ t, lgE f = t := ⟨_, rfl⟩
        obtain ⟨q, hq⟩ : ∃ q, noneE [6, 7] f = q := ⟨_, rfl⟩
        rw [ht] at hC h1 h2 hq1
        rw [hq] at hC hs
        have hw : wrap64 ((s : Int) + (t : Int)) = (s : Int) + (t : Int) := wrap_small (by have := HSZ.out; omega)
        have HH := Lib.hid (And.intro hs (And.intro hb (And.intro hlt (And.intro h1 h2))))
        cases q
        · replace hC := Lib.hid (show Calls Try.prog 98 _ wr fun r w' => r = .returned (.int .i64 (-1)) ∧ Below wr.heap.size wr w' from hC)
          obtain rfl : R = -1 := by rw [HR1.out, none_stop [6, 7] hs]; rfl
          clear hs hb hN hr hbl hq hyes d0 d1 d2 h1 h2 hl hq1 hq2 hlr ht
          go_wp2_with fail
          refine hC.out.mono ?_
          rintro r w2 ⟨rfl, hb2⟩
          have HB2 := Lib.hid (HH.out.2.1.trans (hb2.mono HH.out.2.1.size))
          clear hb2
          go_wp2
          go_ret
          exact ⟨rfl, HK.out.2.trans (HB2.out.mono HK.out.2.size)⟩
        · replace hC := Lib.hid (show Calls Try.prog 98 _ wr fun r w' => r = .returned (.int .i64 (t : Int)) ∧ Below wr.heap.size wr w' from hC)
          have ht0 : decide ((t : Int) < 0) = false := by simp
          clear hs hb hN hr hbl hq hyes d0 d1 d2 h1 h2 hl hq1 hq2 hlr ht
          go_wp2_with fail
          refine hC.out.mono ?_
          rintro r w2 ⟨rfl, hb2⟩
          have HB2 := Lib.hid (HH.out.2.1.trans (hb2.mono HH.out.2.1.size))
          have he1 : ((s + t : Nat) : Int) = ((lgE.sum (ks.take (k + 1)) : Nat) : Int) := by rw [HH.out.2.2.2.1]
          have he2 : ((max mo t : Nat) : Int) = ((lgE.most (ks.take (k + 1)) : Nat) : Int) := by rw [HH.out.2.2.2.2]
          have HE := Lib.hid (And.intro he1 he2)
          clear hb2 he1 he2
          go_wp2
          go_roundw
          case rel => exact ⟨k + 1, by go_num, by omega, by rw [← HE.out.1]; go_num, by rw [← HE.out.2]; go_num, HH.out.1, HB2.out⟩
          case measure => simp [RowKit.intOf]; omega
      · have hkn : k = n := by omega
        subst hkn
        have i1 : ¬ (k : Int) < (k : Int) := by omega
        have ht : ks.take k = ks := by rw [← HN.out, List.take_length]
        rw [ht] at hyes ⊢
        have HY := Lib.hid (HK.out.2.trans (hb.mono HK.out.2.size))
        have hR3 := HR1.out
        rw [if_pos hyes] at hR3
        clear hb ht
        by_cases k4 : kk = 4
        · subst k4
          obtain rfl : R = ((lgE.sum ks : Nat) : Int) := hR3
          clear hyes
          go_wp2
          go_ret
          exact ⟨rfl, HY.out⟩
        · have q5 : (kk == 4) = false := by simpa using k4
          obtain rfl : R = ((lgE.most ks : Nat) : Int) := by
            rw [hR3]
            by_cases k9 : kk = 9
            · rw [if_pos k9, HKK.out.2.2 (.inr k9)]
              rfl
            · rw [if_neg k9, if_neg k4, if_pos (by have := HKK.out; have := HKL.out; omega)]
          clear hyes hR3 k4
          go_wp2
          go_ret
          exact ⟨rfl, HY.out⟩
end Go.Proofs.Ytegkogadceodlaa

