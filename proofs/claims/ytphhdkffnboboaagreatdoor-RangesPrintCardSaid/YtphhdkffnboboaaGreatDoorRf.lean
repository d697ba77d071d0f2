/-
  A loop over strings.SplitSeq: the iterator writes its own variable between two rounds. What the two sides owe one another, and the statement's law.
-/
import Derived.RangeFuncNested
import Derived.RangeFuncBound
import Derived.RangeFuncCalls
import Derived.RangeFuncLeaves
import Derived.Shelf.Abstract
import Derived.Shelf.RegionOpen
import Derived.WalkKit
import Derived.OwnWalkIn
import Derived.TacticsInMore
import Derived.LoopNIn
import Derived.LoopIn
import Derived.Test.YtphhdkffnboboaaGreatDoorBase
namespace Go.Proofs.YtphhdkffnboboaaGreatDoor
open Go.RowKit Go.Shelf
open Go.Lib

/-- What a word on the world must let pass while the iterator steps: a store into its own variable p. -/
def Lets (p : Addr) {β : Type} (J : β → World → Prop) : Prop := ∀ s W v, J s W → J s (W.setCell p v)
/-- What a round must keep for the iterator: its three variables (blocks q, q + 1, q + 2) and the library's own number. -/
structure Keeps3 (q : Nat) (W W' : World) : Prop where
  c : ∀ i, i < 3 → W'.cell? ⟨q + i, 0, none⟩ = W.cell? ⟨q + i, 0, none⟩
  f : ∀ i, i < 3 → W'.frozen? ⟨q + i, 0, none⟩ = W.frozen? ⟨q + i, 0, none⟩
  m : W'.cell? ⟨0, 0, none⟩ = W.cell? ⟨0, 0, none⟩
theorem Keeps3.refl (q : Nat) (W : World) : Keeps3 q W W := ⟨fun _ _ => rfl, fun _ _ => rfl, rfl⟩
theorem Keeps3.trans {q : Nat} {A B C : World} (h : Keeps3 q A B) (k : Keeps3 q B C) : Keeps3 q A C :=
  ⟨fun i hi => (k.c i hi).trans (h.c i hi), fun i hi => (k.f i hi).trans (h.f i hi), k.m.trans h.m⟩
theorem Keeps3.putObj {q : Nat} (W : World) (l : Nat) (o : Obj) (h : q + 3 ≤ l) : Keeps3 q W (W.putObj l o) := by
  have hc : ∀ b, b < l → (W.putObj l o).heap[b]? = W.heap[b]? := fun b hb => World.putObj_heap_other (by omega)
  have h1 : ∀ b j, b < l → (W.putObj l o).cell? ⟨b, j, none⟩ = W.cell? ⟨b, j, none⟩ := fun b j hb => by unfold World.cell?; dsimp only; rw [hc b hb]
  have h2 : ∀ b j, b < l → (W.putObj l o).frozen? ⟨b, j, none⟩ = W.frozen? ⟨b, j, none⟩ := fun b j hb => by unfold World.frozen?; dsimp only; rw [hc b hb]
  exact ⟨fun i hi => h1 _ _ (by omega), fun i hi => h2 _ _ (by omega), h1 _ _ (by omega)⟩
/-- The iterator's word: handed the parts of a text one by one, whatever the round's word J is. -/
def Hands (n : Nat) (gf : Nat) (q : Nat) (xs : List (List UInt8)) (w : World) : Prop :=
  ∀ (l : Nat) (J Jx : List (List UInt8) → World → Prop) (W : World), Keeps3 q w W → Lets ⟨q, 0, none⟩ J → Lets ⟨q, 0, none⟩ Jx →
    (∀ pre x W1, J pre W1 → pre ++ [x] <+: xs → YieldAt Fence.wide (n - 1) Tryz.prog l #[.string ⟨x.toArray⟩] W1 fun e W' =>
      (e = .returned (.bool true) ∧ J (pre ++ [x]) W' ∧ Keeps3 q W1 W') ∨ (e = .returned (.bool false) ∧ Jx (pre ++ [x]) W')) →
    J [] W →
    CallsIn Fence.wide n Tryz.prog gf #[.func (.yield l) #[] #[], .pointer (some ⟨q + 1, 0, none⟩), .pointer (some ⟨q, 0, none⟩), .pointer (some ⟨q + 2, 0, none⟩)] W
      fun e W' => (∃ v, e = .returned v) ∧ (J xs W' ∨ ∃ pre, pre <+: xs ∧ Jx pre W')
/-- How a round is left: it goes on, or the function returns. -/
def roundLeft (q : Nat) (I Ix : List (List UInt8) → World → Prop) (xs : List (List UInt8)) (W : World) : Exit → Act → World → Prop
  | .normal, _, W' => KeepsOthers W W' ∧ Keeps3 q W W' ∧ I xs W'
  | .ret, _, W' => KeepsOthers W W' ∧ Ix xs W'
  | _, _, _ => False

set_option maxHeartbeats 1000000 in
/-- The statement: the caller's word I between two rounds, Ix where a round has returned. -/
theorem wpIn_hands {n : Nat} {g : Operand} {ps : Array Tmp} {assign body : Code} {Q : Exit → Act → World → Prop} {a : Act} {w : World} (h1 : 1 ≤ n) {gf q : Nat}
    (hg : a.eval g = .func (.func gf) #[] #[.pointer (some ⟨q + 1, 0, none⟩), .pointer (some ⟨q, 0, none⟩), .pointer (some ⟨q + 2, 0, none⟩)])
    (eg : ∀ args w, (callFunc gf args).run Tryz.prog w = .ok (.enter gf args) w) {xs : List (List UInt8)} (hx : Hands (n - 1) gf q xs w) (hq : q + 3 ≤ w.heap.size) (hps : ps.size = 1)
    (I Ix : List (List UInt8) → World → Prop) (lI : Lets ⟨q, 0, none⟩ I) (lX : Lets ⟨q, 0, none⟩ Ix) (oI : OwnFrom w.heap.size I) (oX : OwnFrom w.heap.size Ix) (h0 : I [] w) (a₁ : List UInt8 → Act)
    (hassign : ∀ (l : Nat) (x : List UInt8) (W : World) (K : Act → World → Prop), K (a₁ x) W →
      assign.wpIn (Fence.wide.inRound l) (n - 1 - 1) Tryz.prog (Exit.then K (fun _ _ _ => False)) { tmps := (ps.zip #[.string ⟨x.toArray⟩]).foldl (fun t (p, v) => t.setIfInBounds p v) a.tmps, defers := [] } W)
    (hbody : ∀ (l : Nat) (pre : List (List UInt8)) (x : List UInt8) (W : World), I pre W → pre ++ [x] <+: xs →
      body.wpIn (Fence.wide.inRound l) (n - 1 - 1) Tryz.prog (roundLeft q I Ix (pre ++ [x]) W) (a₁ x) W)
    (hdone : ∀ (D : Nat) (W : World), w.heap.size ≤ D → I xs W → W.heap[D]? = some (.deferred (some [])) → Q .normal { a with defers := { target := .collected D, args := #[] } :: a.defers } W)
    (hstop : ∀ (D : Nat) (pre : List (List UInt8)) (W : World), w.heap.size ≤ D → pre <+: xs → Ix pre W → W.heap[D]? = some (.deferred (some [])) →
      Code.ret.wpIn Fence.wide n Tryz.prog Q { a with defers := { target := .collected D, args := #[] } :: a.defers } W) :
    (Code.rangeFunc g ps assign body).wpIn Fence.wide n Tryz.prog Q a w := by
  refine wpIn_rangeFunc fun fn hfn => ?_
  let D := w.heap.size
  let R : LoopState → Option Code → Obj := fun st pe => .loop { state := st, pending := pe, fn, tmps := a.tmps, params := ps, assign, body, defers := D }
  let W1 := (w.alloc (.deferred (some []))).alloc (R .ready none)
  have hD1 : W1.heap[D]? = some (.deferred (some [])) := (Below.heap_alloc _ _ _ (by simp [D])).trans (World.alloc_heap_new w _)
  have hL1 : W1.heap[D + 1]? = some (R .ready none) := by
    have := World.alloc_heap_new (w.alloc (.deferred (some []))) (R .ready none)
    rwa [World.size_alloc] at this
  have hk1 : Keeps3 q w W1 := by
    have hb : ∀ b, b < w.heap.size → W1.heap[b]? = w.heap[b]? := fun b hb => (Below.heap_alloc _ _ _ (by simp; omega)).trans (Below.heap_alloc _ _ _ hb)
    have c : ∀ b j, b < w.heap.size → W1.cell? ⟨b, j, none⟩ = w.cell? ⟨b, j, none⟩ := fun b j h => by unfold World.cell?; dsimp only; rw [hb b h]
    have f : ∀ b j, b < w.heap.size → W1.frozen? ⟨b, j, none⟩ = w.frozen? ⟨b, j, none⟩ := fun b j h => by unfold World.frozen?; dsimp only; rw [hb b h]
    exact ⟨fun i hi => c _ _ (by omega), fun i hi => f _ _ (by omega), c _ _ (by omega)⟩
  -- the two blocks of the statement's own, beside the caller's word
  let Book : Option Code → LoopState → World → Prop := fun pe st W => W.heap[D + 1]? = some (R st pe) ∧ W.heap[D]? = some (.deferred (some []))
  have book_set : ∀ pe st W v, Book pe st W → Book pe st (W.setCell ⟨q, 0, none⟩ v) := fun pe st W v h =>
    ⟨(Below.heap_setCell _ _ _ _ (by simp only [D]; omega)).trans h.1, (Below.heap_setCell _ _ _ _ (by simp only [D]; omega)).trans h.2⟩
  have turn : ∀ (W : World) (st st' : LoopState) (pe pe' : Option Code), Book pe st W → Book pe' st' (W.putObj (D + 1) (R st' pe')) := fun W st st' pe pe' h =>
    ⟨World.putObj_heap_same (Array.getElem?_eq_some_iff.1 h.1).1, (World.putObj_heap_other (by omega)).trans h.2⟩
  have oget : ∀ {K : List (List UInt8) → World → Prop}, OwnFrom w.heap.size K → ∀ (s : List (List UInt8)) (W : World) (st st' : LoopState) (pe pe' : Option Code), Book pe st W → K s W → K s (W.putObj (D + 1) (R st' pe')) :=
    fun hK s W st st' pe pe' hb hs => hK.putObj _ hs (by simp only [D]; omega) hb.1 rfl
  refine ⟨D + 1, [{ target := .collected D, args := #[] }], W1, { target := .fn (.func gf) #[.pointer (some ⟨q + 1, 0, none⟩), .pointer (some ⟨q, 0, none⟩), .pointer (some ⟨q + 2, 0, none⟩)], args := #[.func (.yield (D + 1)) #[] #[]] }, W1, gf,
    #[.func (.yield (D + 1)) #[] #[], .pointer (some ⟨q + 1, 0, none⟩), .pointer (some ⟨q, 0, none⟩), .pointer (some ⟨q + 2, 0, none⟩)], W1, run_enterLoop_outer _ _ _ _ _, ?_, fun _ _ => trivial, ?_, fun _ => h1, ?_⟩
  · simp only [resolve, hg]
    simp [go_sem]
  · simp [invoke, go_sem, eg]
  refine (hx (D + 1) (fun pre W => I pre W ∧ Book none .ready W) (fun pre W => Ix pre W ∧ Book (some .ret) .done W) W1 hk1
    (fun s W v h => ⟨lI s W v h.1, book_set _ _ _ v h.2⟩) (fun s W v h => ⟨lX s W v h.1, book_set _ _ _ v h.2⟩) ?round ⟨oI.alloc _ (oI.alloc _ h0), hL1, hD1⟩).mono ?after
  case round =>
    rintro pre x W ⟨hi, hb⟩ hpre
    have hy := run_yield (P := Tryz.prog) (args := #[.string ⟨x.toArray⟩]) hb.1 (by rw [hps]; rfl)
    refine ⟨fn, _, assign, body, hy, roundIn_of_wpIn trivial (hassign _ x W _ ⟨_, run_beginRound hb.1 rfl, ?_⟩)⟩
    have hb2 : Book none .busy (W.putObj (D + 1) (R .busy none)) := turn W _ _ _ _ hb
    have hk2 : Keeps3 q W (W.putObj (D + 1) (R .busy none)) := Keeps3.putObj W _ _ (by simp only [D]; omega)
    refine wpIn_mono (hbody (D + 1) pre x _ (oget oI _ _ _ _ _ _ hb hi) hpre) ?_
    rintro e a3 W3 hp
    cases e with
    | normal =>
      obtain ⟨hk, h3, hi3⟩ := hp
      have hb3 : Book none .busy W3 := ⟨hk.same _ _ hb2.1 rfl, hk.same _ _ hb2.2 rfl⟩
      exact ⟨_, _, run_endRound none hb3.1, .inl ⟨rfl, ⟨oget oI _ _ _ _ _ _ hb3 hi3, turn W3 _ _ _ _ hb3⟩, (hk2.trans h3).trans (Keeps3.putObj W3 _ _ (by simp only [D]; omega))⟩⟩
    | ret =>
      obtain ⟨hk, hi3⟩ := hp
      have hb3 : Book none .busy W3 := ⟨hk.same _ _ hb2.1 rfl, hk.same _ _ hb2.2 rfl⟩
      exact ⟨_, _, run_endRound (some .ret) hb3.1, .inr ⟨rfl, oget oX _ _ _ _ _ _ hb3 hi3, turn W3 _ _ _ _ hb3⟩⟩
    | exit id => exact hp.elim
    | goto t => exact hp.elim
    | panic ch => exact hp.elim
    | outgrown => exact hp.elim
  case after =>
    rintro e W2 ⟨⟨v, rfl⟩, ⟨hi, hb⟩ | ⟨pre, hpre, hi, hb⟩⟩
    · exact ⟨none, _, run_endLoop hb.1 (by simp), hdone D _ (Nat.le_refl _) (oget oI _ _ _ .exhausted _ none hb hi) ((World.putObj_heap_other (by omega)).trans hb.2)⟩
    · exact ⟨some .ret, _, run_endLoop hb.1 (by simp), hstop D pre _ (Nat.le_refl _) hpre (oget oX _ _ _ .exhausted _ (some .ret) hb hi) ((World.putObj_heap_other (by omega)).trans hb.2)⟩
end Go.Proofs.YtphhdkffnboboaaGreatDoor
