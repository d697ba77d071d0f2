/-
  A loop over an iterator of tokens: what the two sides owe one another, and the statement's law. The caller may have a row of its own that it grows in rounds (its block: ob); the iterator may itself be a loop over an iterator.
  Contract: token.mark.
  Contract: token.endsRaw.
  Contract: token.rawEnd.
  The tokens that are no texts; the iterator token.marks.
  All tokens: the tokens that are no texts, and the texts between.
-/
import Derived.RangeFuncNested
import Derived.RangeFuncBound
import Derived.RangeFuncCalls
import Derived.RangeFuncLeaves
import Derived.Shelf.Abstract
import Derived.Shelf.RegionOpen
import Derived.WalkKit
import Derived.OwnWalkIn
import Derived.TacticsInMore
import Derived.LoopNIn
import Derived.LoopIn
import Derived.Test.YtnedjafpjbfncaaGreatDoorXqg
import Derived.Deep.RegionLaw
import Derived.Deep.CutRange
import Derived.StillTailTactics
import Derived.Lib.QuietBelow
import Derived.BigQuiet
namespace Go.Proofs.YtnedjafpjbfncaaGreatDoor
open Go.RowKit Go.Shelf Go.Lib

/-- A round's trace: but for some blocks, and the caller's row, all lies as it lay; the row may have moved to a new block. -/
structure Fr (X : Nat → Prop) (ob ob' : Option Nat) (W W' : World) : Prop where
  os : W'.os = W.os
  tape : W'.tape = W.tape
  output : W'.output = W.output
  size : W.heap.size ≤ W'.heap.size
  same : ∀ k, k < W.heap.size → ¬ X k → ob ≠ some k → W'.heap[k]? = W.heap[k]?
  ob : ob' = ob ∨ ∃ k, ob' = some k ∧ W.heap.size ≤ k ∧ k < W'.heap.size
theorem Fr.refl (X : Nat → Prop) (ob : Option Nat) (W : World) : Fr X ob ob W W := ⟨rfl, rfl, rfl, Nat.le_refl _, fun _ _ _ _ => rfl, .inl rfl⟩
theorem Fr.trans {X : Nat → Prop} {a b c : Option Nat} {U V W : World} (h : Fr X a b U V) (k : Fr X b c V W) : Fr X a c U W :=
  ⟨k.os.trans h.os, k.tape.trans h.tape, k.output.trans h.output, Nat.le_trans h.size k.size, fun i hi hx ha => by
    refine (k.same i (Nat.lt_of_lt_of_le hi h.size) hx (fun e => ?_)).trans (h.same i hi hx ha)
    rcases h.ob with e2 | ⟨j, e2, hj, _⟩
    · exact ha (e2.symm.trans e)
    · have := e2.symm.trans e
      injection this with this
      omega, by
    rcases k.ob with e | ⟨j, e, hj, hj2⟩
    · rcases h.ob with e2 | ⟨j, e2, hj, hj2⟩
      · exact .inl (e.trans e2)
      · exact .inr ⟨j, e.trans e2, hj, Nat.lt_of_lt_of_le hj2 k.size⟩
    · exact .inr ⟨j, e, Nat.le_trans h.size hj, hj2⟩⟩
theorem Fr.of_below {X : Nat → Prop} {ob : Option Nat} {W W' : World} (h : Below W.heap.size W W') : Fr X ob ob W W' := ⟨h.os, h.tape, h.output, h.size, fun k hk _ _ => h.block k hk, .inl rfl⟩
theorem Fr.put {X : Nat → Prop} {ob : Option Nat} (W : World) (l : Nat) (o : Obj) (hl : X l) : Fr X ob ob W (W.putObj l o) :=
  ⟨rfl, rfl, rfl, by simp [World.putObj], fun k _ hx _ => World.putObj_heap_other (fun e => hx (by rw [e]; exact hl)), .inl rfl⟩
theorem Fr.mono {X Y : Nat → Prop} {a b : Option Nat} {U V : World} (h : Fr X a b U V) (hxy : ∀ k, X k → Y k) : Fr Y a b U V :=
  ⟨h.os, h.tape, h.output, h.size, fun k hk hy => h.same k hk (fun hx => hy (hxy k hx)), h.ob⟩
/-- What lies below a bound that no changed block reaches. -/
theorem Fr.below {X : Nat → Prop} {a b : Option Nat} {U V : World} {B : Nat} (h : Fr X a b U V) (hB : B ≤ U.heap.size) (hX : ∀ k, X k → B ≤ k) (ha : ∀ k, a = some k → B ≤ k) : Below B U V :=
  ⟨h.os, h.tape, h.output, h.size, fun k hk => h.same k (by omega) (fun hx => by have := hX k hx; omega) (fun e => by have := ha k e; omega)⟩
/-- A word that hangs on the blocks below S, and on the caller's row, alone. -/
def Stab (S : Nat) (J : List TK → Option Nat → World → Prop) : Prop :=
  ∀ pre ob W W', J pre ob W → W'.os = W.os → W'.tape = W.tape → W'.output = W.output → W.heap.size ≤ W'.heap.size → (∀ k, k < W.heap.size → (k < S ∨ ob = some k) → W'.heap[k]? = W.heap[k]?) → J pre ob W'
theorem Stab.mono {S S' : Nat} {J : List TK → Option Nat → World → Prop} (h : Stab S J) (hS : S ≤ S') : Stab S' J :=
  fun pre ob W W' hj h1 h2 h3 h4 h5 => h pre ob W W' hj h1 h2 h3 h4 fun k hk hc => h5 k hk (hc.imp (fun h => Nat.lt_of_lt_of_le h hS) id)
theorem Stab.put {S : Nat} {J : List TK → Option Nat → World → Prop} (h : Stab S J) {pre : List TK} {ob : Option Nat} {W : World} (hj : J pre ob W) (l : Nat) (o : Obj) (hl : S ≤ l) (ho : ob ≠ some l) : J pre ob (W.putObj l o) :=
  h pre ob W _ hj rfl rfl rfl (by simp [World.putObj]) fun k _ hc => World.putObj_heap_other (fun e => by
    subst e
    rcases hc with hc | hc
    · omega
    · exact ho hc)
theorem Stab.of_below {S : Nat} {J : List TK → Option Nat → World → Prop} (h : Stab S J) {pre : List TK} {ob : Option Nat} {W W' : World} (hj : J pre ob W) (hb : Below W.heap.size W W') : J pre ob W' :=
  h pre ob W W' hj hb.os hb.tape hb.output hb.size fun k hk _ => hb.block k hk
/-- The caller's row is its own, and made since the iterator began. -/
def ObIn (S : Nat) (J : List TK → Option Nat → World → Prop) : Prop := ∀ pre k W, J pre (some k) W → S ≤ k ∧ k < W.heap.size
/-- What yield answers. -/
def YieldOk (X : Nat → Prop) (J Jx : List TK → Option Nat → World → Prop) (xs : List TK) (ob : Option Nat) (W : World) (e : Ending) (W' : World) : Prop :=
  (e = .returned (.bool true) ∧ ∃ ob', J xs ob' W' ∧ Fr X ob ob' W W') ∨ (e = .returned (.bool false) ∧ ∃ ob', Jx xs ob' W' ∧ Fr X ob ob' W W')
/-- The iterator's word: it hands on these tokens one by one, whatever the caller's word J is. -/
def HandsT (n gf : Nat) (lb : Array Value) (xs : List TK) (X : Nat → Prop) (w : World) : Prop :=
  ∀ (l : Nat) (Xc : Nat → Prop) (J Jx : List TK → Option Nat → World → Prop) (W : World), Below w.heap.size w W → (∀ k, Xc k → k < W.heap.size ∧ (X k ∨ w.heap.size ≤ k)) →
    Stab W.heap.size J → Stab W.heap.size Jx → ObIn W.heap.size J → ObIn W.heap.size Jx →
    (∀ pre ob x W1, J pre ob W1 → W.heap.size ≤ W1.heap.size → pre ++ [x] <+: xs → YieldAt Fence.wide (n - 1) Tryz.prog l #[tokV x] W1 (YieldOk Xc J Jx (pre ++ [x]) ob W1)) →
    J [] none W →
    CallsIn Fence.wide n Tryz.prog gf (#[.func (.yield l) #[] #[]] ++ lb) W fun e W' => (∃ v, e = .returned v) ∧ (∃ ob, Fr Xc none ob W W' ∧ (J xs ob W' ∨ ∃ pre, pre <+: xs ∧ Jx pre ob W'))
/-- How a round is left: it goes on, or the function returns. -/
def roundLeftT (X : Nat → Prop) (I Ix : List TK → Option Nat → World → Prop) (xs : List TK) (ob : Option Nat) (W : World) : Exit → Act → World → Prop
  | .normal, _, W' => ∃ ob', I xs ob' W' ∧ Fr X ob ob' W W'
  | .ret, _, W' => ∃ ob', Ix xs ob' W' ∧ Fr X ob ob' W W'
  | _, _, _ => False

set_option maxHeartbeats 2000000 in
/-- The statement: the caller's word I between two rounds, Ix where a round has returned. The loop's variable lies in a box that each round makes. -/
theorem wpIn_handsT {n : Nat} {g : Operand} {ps : Array Tmp} {assign body : Code} {Q : Exit → Act → World → Prop} {a : Act} {w : World} (h1 : 1 ≤ n) {gf : Nat} {lb : Array Value}
    (hg : a.eval g = .func (.func gf) #[] lb) (eg : ∀ args w, (callFunc gf args).run Tryz.prog w = .ok (.enter gf args) w) {xs : List TK} {X : Nat → Prop} (hx : HandsT (n - 1) gf lb xs X w) (hX : ∀ k, X k → k < w.heap.size) (hps : ps.size = 1)
    (I Ix : List TK → Option Nat → World → Prop) (sI : Stab w.heap.size I) (sX : Stab w.heap.size Ix) (oI : ObIn (w.heap.size + 2) I) (oX : ObIn (w.heap.size + 2) Ix) (h0 : I [] none w) (a₁ : TK → Nat → Act)
    (hassign : ∀ (l : Nat) (x : TK) (W : World) (K : Act → World → Prop), K (a₁ x W.heap.size) (W.alloc (.cells (tokC x) 30)) →
      assign.wpIn (Fence.wide.inRound l) (n - 1 - 1) Tryz.prog (Exit.then K (fun _ _ _ => False)) { tmps := (ps.zip #[tokV x]).foldl (fun t (p, v) => t.setIfInBounds p v) a.tmps, defers := [] } W)
    (hbody : ∀ (l : Nat) (pre : List TK) (ob : Option Nat) (x : TK) (p : Nat) (W : World), I pre ob W → pre ++ [x] <+: xs → Cells W p 30 (tokC x) → w.heap.size + 2 ≤ p → ob ≠ some p →
      body.wpIn (Fence.wide.inRound l) (n - 1 - 1) Tryz.prog (roundLeftT X I Ix (pre ++ [x]) ob W) (a₁ x p) W)
    (hdone : ∀ (D : Nat) (ob : Option Nat) (W : World), D = w.heap.size → I xs ob W → Fr X none ob w W → W.heap[D]? = some (.deferred (some [])) → Q .normal { a with defers := { target := .collected D, args := #[] } :: a.defers } W)
    (hstop : ∀ (D : Nat) (ob : Option Nat) (pre : List TK) (W : World), D = w.heap.size → pre <+: xs → Ix pre ob W → Fr X none ob w W → W.heap[D]? = some (.deferred (some [])) →
      Code.ret.wpIn Fence.wide n Tryz.prog Q { a with defers := { target := .collected D, args := #[] } :: a.defers } W) :
    (Code.rangeFunc g ps assign body).wpIn Fence.wide n Tryz.prog Q a w := by
  refine wpIn_rangeFunc fun fn hfn => ?_
  let D := w.heap.size
  let R : LoopState → Option Code → Obj := fun st pe => .loop { state := st, pending := pe, fn, tmps := a.tmps, params := ps, assign, body, defers := D }
  let W1 := (w.alloc (.deferred (some []))).alloc (R .ready none)
  have hs1 : W1.heap.size = D + 2 := by simp [W1, D]
  have hD1 : W1.heap[D]? = some (.deferred (some [])) := (Below.heap_alloc _ _ _ (by simp [D])).trans (World.alloc_heap_new w _)
  have hL1 : W1.heap[D + 1]? = some (R .ready none) := by
    have := World.alloc_heap_new (w.alloc (.deferred (some []))) (R .ready none)
    rwa [World.size_alloc] at this
  have hb1 : Below w.heap.size w W1 := (below_new w _).trans ((below_new _ _).mono (by simp))
  let Y : Nat → Prop := fun k => X k ∨ k = D + 1
  let Book : Option Code → LoopState → World → Prop := fun pe st W => W.heap[D + 1]? = some (R st pe) ∧ W.heap[D]? = some (.deferred (some []))
  have turn : ∀ (W : World) (st st' : LoopState) (pe pe' : Option Code), Book pe st W → Book pe' st' (W.putObj (D + 1) (R st' pe')) := fun W st st' pe pe' h =>
    ⟨World.putObj_heap_same (Array.getElem?_eq_some_iff.1 h.1).1, (World.putObj_heap_other (by omega)).trans h.2⟩
  have hXD : ∀ k, X k → k ≠ D ∧ k ≠ D + 1 := fun k hk => by
    have := hX k hk
    simp only [D]
    omega
  -- what a round keeps of the statement's own two blocks
  have keep : ∀ {pe : Option Code} {st : LoopState} {ob ob' : Option Nat} {W W' : World}, Book pe st W → Fr X ob ob' W W' → (∀ k, ob = some k → D + 2 ≤ k) → Book pe st W' := fun hb hf ho =>
    ⟨(hf.same _ (Array.getElem?_eq_some_iff.1 hb.1).1 (fun h => (hXD _ h).2 rfl) (fun e => by have := ho _ e; omega)).trans hb.1,
     (hf.same _ (Array.getElem?_eq_some_iff.1 hb.2).1 (fun h => (hXD _ h).1 rfl) (fun e => by have := ho _ e; omega)).trans hb.2⟩
  have sJ : ∀ {K : List TK → Option Nat → World → Prop} (pe : Option Code) (st : LoopState), Stab w.heap.size K → Stab W1.heap.size (fun pre ob W => K pre ob W ∧ Book pe st W) := fun pe st sK pre ob W W' h e1 e2 e3 e4 e5 =>
    ⟨(sK.mono (by omega)) pre ob W W' h.1 e1 e2 e3 e4 e5,
     (e5 _ (Array.getElem?_eq_some_iff.1 h.2.1).1 (.inl (by omega))).trans h.2.1, (e5 _ (Array.getElem?_eq_some_iff.1 h.2.2).1 (.inl (by omega))).trans h.2.2⟩
  have obD : ∀ {K : List TK → Option Nat → World → Prop}, ObIn (w.heap.size + 2) K → ∀ {pre ob W}, K pre ob W → ∀ k, ob = some k → D + 2 ≤ k := fun hK pre ob W h k e => by
    subst e
    exact (hK _ _ _ h).1
  refine ⟨D + 1, [{ target := .collected D, args := #[] }], W1, { target := .fn (.func gf) lb, args := #[.func (.yield (D + 1)) #[] #[]] }, W1, gf,
    #[.func (.yield (D + 1)) #[] #[]] ++ lb, W1, run_enterLoop_outer _ _ _ _ _, ?_, fun _ _ => trivial, ?_, fun _ => h1, ?_⟩
  · simp only [resolve, hg]
    simp [go_sem]
  · simp [invoke, go_sem, eg]
  refine (hx (D + 1) Y (fun pre ob W => I pre ob W ∧ Book none .ready W) (fun pre ob W => Ix pre ob W ∧ Book (some .ret) .done W) W1 hb1
    (fun k hk => by
      rcases hk with hk | rfl
      · exact ⟨by have := hX k hk; omega, .inl hk⟩
      · exact ⟨by omega, .inr (by simp only [D]; omega)⟩)
    (sJ _ _ sI) (sJ _ _ sX) (fun pre k W h => by rw [hs1]; exact oI pre k W h.1) (fun pre k W h => by rw [hs1]; exact oX pre k W h.1) ?round ⟨sI.of_below h0 hb1, hL1, hD1⟩).mono ?after
  case round =>
    rintro pre ob x W ⟨hi, hb⟩ hWs hpre
    have hy := run_yield (P := Tryz.prog) (args := #[tokV x]) hb.1 (by rw [hps]; rfl)
    have hob := obD oI hi
    -- the variable's box
    have hba := below_new W (.cells (tokC x) 30)
    have hob2 : ∀ k, ob = some k → k < W.heap.size := fun k e => by subst e; exact (oI _ _ _ hi).2
    have hbB : Book none .ready (W.alloc (.cells (tokC x) 30)) := ⟨(hba.block _ (Array.getElem?_eq_some_iff.1 hb.1).1).trans hb.1, (hba.block _ (Array.getElem?_eq_some_iff.1 hb.2).1).trans hb.2⟩
    have hiB := sI.of_below hi hba
    have cB : Cells (W.alloc (.cells (tokC x) 30)) W.heap.size 30 (tokC x) := cells_new _ _ _
    have fB : Fr Y ob ob W (W.alloc (.cells (tokC x) 30)) := Fr.of_below hba
    refine ⟨fn, _, assign, body, hy, roundIn_of_wpIn trivial (hassign _ x W _ ⟨_, run_beginRound hbB.1 rfl, ?_⟩)⟩
    generalize W.alloc (.cells (tokC x) 30) = Wb at *
    have hb2 : Book none .busy (Wb.putObj (D + 1) (R .busy none)) := turn Wb _ _ _ _ hbB
    have f2 : Fr Y ob ob Wb (Wb.putObj (D + 1) (R .busy none)) := Fr.put _ _ _ (.inr rfl)
    have hi2 : I pre ob (Wb.putObj (D + 1) (R .busy none)) := sI.put hiB _ _ (by simp only [D]; omega) (fun e => by have := hob _ e; omega)
    have c2 : Cells (Wb.putObj (D + 1) (R .busy none)) W.heap.size 30 (tokC x) := (World.putObj_heap_other (by omega)).trans cB
    refine wpIn_mono (hbody (D + 1) pre ob x W.heap.size _ hi2 hpre c2 (by omega) (fun e => by have := hob2 _ e; omega)) ?_
    rintro e a3 W3 hp
    cases e with
    | normal =>
      obtain ⟨ob', hi3, hf⟩ := hp
      have hb3 := keep hb2 hf hob
      exact ⟨_, _, run_endRound none hb3.1, .inl ⟨rfl, ob', ⟨sI.put hi3 _ _ (by simp only [D]; omega) (fun e => by have := obD oI hi3 _ e; omega), turn W3 _ _ _ _ hb3⟩,
        fB.trans (f2.trans ((hf.mono fun k hk => .inl hk).trans (Fr.put _ _ _ (.inr rfl))))⟩⟩
    | ret =>
      obtain ⟨ob', hi3, hf⟩ := hp
      have hb3 := keep hb2 hf hob
      exact ⟨_, _, run_endRound (some .ret) hb3.1, .inr ⟨rfl, ob', ⟨sX.put hi3 _ _ (by simp only [D]; omega) (fun e => by have := obD oX hi3 _ e; omega), turn W3 _ _ _ _ hb3⟩,
        fB.trans (f2.trans ((hf.mono fun k hk => .inl hk).trans (Fr.put _ _ _ (.inr rfl))))⟩⟩
    | exit id => exact hp.elim
    | goto t => exact hp.elim
    | panic ch => exact hp.elim
    | outgrown => exact hp.elim
  case after =>
    have fin : ∀ {W2 : World} {ob : Option Nat} {pe : Option Code}, Fr Y none ob W1 W2 → Fr X none ob w (W2.putObj (D + 1) (R .exhausted pe)) := fun {W2 ob pe} hf =>
      ⟨hf.os.trans hb1.os, hf.tape.trans hb1.tape, hf.output.trans hb1.output, by have := hf.size; simp [World.putObj]; simp only [D] at hs1; omega, fun k hk hx _ => by
        refine (World.putObj_heap_other (by simp only [D]; omega)).trans ((hf.same k (by simp only [D] at hs1; omega) (fun h => ?_) (by simp)).trans (hb1.block k hk))
        rcases h with h | h
        · exact hx h
        · simp only [D] at h; omega, by
        rcases hf.ob with e | ⟨k, e, h1, h2⟩
        · exact .inl e
        · exact .inr ⟨k, e, by simp only [D] at hs1; omega, by simpa [World.putObj] using h2⟩⟩
    rintro e W2 ⟨⟨v, rfl⟩, ob, hf, ⟨hi, hb⟩ | ⟨pre, hpre, hi, hb⟩⟩
    · exact ⟨none, _, run_endLoop hb.1 (by simp), hdone D ob _ rfl (sI.put hi _ _ (by simp only [D]; omega) (fun e => by have := obD oI hi _ e; omega)) (fin hf) ((World.putObj_heap_other (by omega)).trans hb.2)⟩
    · exact ⟨some .ret, _, run_endLoop hb.1 (by simp), hstop D ob pre _ rfl hpre (sX.put hi _ _ (by simp only [D]; omega) (fun e => by have := obD oX hi _ e; omega)) (fin hf) ((World.putObj_heap_other (by omega)).trans hb.2)⟩
end Go.Proofs.YtnedjafpjbfncaaGreatDoor

namespace Go.Proofs.YtnedjafpjbfncaaGreatDoor
open Go.RowKit Go.Shelf Go.Lib Go.Maps Go.Great
attribute [local irreducible] NR ZNR FR nmE

/-- The token that begins at a place, unless it is a text. -/
def markT (xs : List Nat) (k : Nat) : Option TK := match G.rdT (xs.drop k) with
  | some T => some ⟨T.kind + 2, k, k + T.size, T.name, 0, T.single⟩
  | none => if 0 < (readE xs k).2 then some ⟨1, k, k + (readE xs k).2, [], (readE xs k).1, false⟩
    else if 0 < (readT (xs.drop k)).size then some ⟨6, k, k + (readT (xs.drop k)).size, [], 0, false⟩ else none
theorem readS_le {ys : List Nat} : ∀ (L : List Sty), (readS L ys).2 ≤ ys.length
  | [] => Nat.zero_le _
  | s :: r => by
    obtain ⟨m, wh, e⟩ : ∃ m wh, followR s.beg s.may ys = (m, wh) := ⟨_, _, rfl⟩
    cases wh with
    | false => rw [readS_no (by rw [e])]; exact readS_le r
    | true => rw [readS_yes e]; exact (follow_true e).2
theorem readE_le (xs : List Nat) (k : Nat) (hk : k ≤ xs.length) : k + (readE xs k).2 ≤ xs.length := by
  unfold readE
  split
  · omega
  · split
    · have := readS_le (ys := xs.drop k) styL
      rw [List.length_drop] at this
      show k + (readS styL (xs.drop (Int.toNat (k : Int)))).2 ≤ _
      rw [Int.toNat_natCast]
      omega
    · omega
theorem mark_to {xs : List Nat} {k : Nat} {x : TK} (hk : k ≤ xs.length) (h : markT xs k = some x) : x.fr = k ∧ k < x.to ∧ x.to ≤ xs.length ∧ 1 ≤ x.kind ∧ x.kind < 7 := by
  unfold markT at h
  split at h
  · rename_i T hT
    obtain ⟨h1, h2, h3⟩ := rdT_facts hT
    rw [List.length_drop] at h3
    cases h
    exact ⟨rfl, by show k < k + T.size; omega, by show k + T.size ≤ _; omega, by show 1 ≤ T.kind + 2; omega, by show T.kind + 2 < 7; omega⟩
  · split at h
    · have := readE_le xs k hk
      cases h
      exact ⟨rfl, by show k < k + _; omega, this, Nat.le_refl _, by show 1 < 7; omega⟩
    · split at h
      · have := (readT_size (xs.drop k)).1
        rw [List.length_drop] at this
        cases h
        exact ⟨rfl, by show k < k + _; omega, by show k + _ ≤ _; omega, by show 1 ≤ 6; omega, by show 6 < 7; omega⟩
      · cases h
theorem BY.g {w : World} {B : Nat} {xs : List Nat} {A : Option Addr} {cap : Nat} (h : BY w B xs A cap) : G.BY w B xs A cap := ⟨h.l, h.m, h.z, h.i, h.r⟩
set_option maxHeartbeats 8000000 in
set_option maxRecDepth 100000 in
theorem mark_any (xs : List Nat) (A : Option Addr) (cap : Nat) (k : Nat) (w : World) (hM : G.MX w) (hT : S.Tabs w) (hx : BY w w.heap.size xs A cap) (hl : xs.length ≤ 100000) (hk : k ≤ xs.length) :
    Calls Tryz.prog 35 #[.slice A xs.length cap, .int .i64 (k : Int)] w fun e w' => e = .returned (.tuple #[tokV ((markT xs k).getD tkZ), .bool (markT xs k).isSome]) ∧ Below w.heap.size w w' := by
  have b1 := below_new w (.cells #[.int .i64 0, .int .i64 0, .int .i64 0, .string ⟨#[]⟩, .int .i32 0, .bool false] 30)
  obtain ⟨W1, hW1⟩ : ∃ W, w.alloc (.cells #[.int .i64 0, .int .i64 0, .int .i64 0, .string ⟨#[]⟩, .int .i32 0, .bool false] 30) = W := ⟨_, rfl⟩
  have x1 : Cells W1 w.heap.size 30 #[.int .i64 0, .int .i64 0, .int .i64 0, .string ⟨#[]⟩, .int .i32 0, .bool false] := by rw [← hW1]; exact cells_new _ _ _
  rw [hW1] at b1
  have C1 := G.read_any xs A cap (k : Int) W1 (hM.on hM.pos b1) ((hx.on b1).g) hl
  have hrd : G.rdAt xs (k : Int) = G.rdT (xs.drop k) := by unfold G.rdAt; rw [if_neg (by omega), Int.toNat_natCast]
  rw [hrd] at C1
  obtain ⟨O, hO⟩ : ∃ o, G.rdT (xs.drop k) = o := ⟨_, rfl⟩
  obtain ⟨MT, hMT⟩ : ∃ o, markT xs k = o := ⟨_, rfl⟩
  rw [hO] at C1
  rw [hMT]
  have hle := readE_le xs k hk
  have hrt := (readT_size (xs.drop k)).1
  have hmk := fun x => mark_to (x := x) hk
  obtain ⟨N, hN⟩ : ∃ N, xs.length = N := ⟨_, rfl⟩
  rw [List.length_drop, hN] at hrt
  rw [hN] at C1 hl hk hle hmk ⊢
  have HH := Lib.hid (And.intro C1 (And.intro b1 (And.intro x1 (And.intro hM (And.intro hT (And.intro hx (And.intro hO (And.intro hMT (And.intro hN (And.intro hle (And.intro hrt hmk)))))))))))
  clear C1 b1 x1 hM hT hx hO hMT hN hle hrt hmk hrd
  go_enter Tryz.func35, Tryz.ntmps35
  go_wp2_with fail
  refine HH.out.1.mono ?_
  rintro e w2 ⟨v, rfl, hown, hb2⟩
  obtain ⟨A9, n9, c9, rfl⟩ := hown.slice
  have bw2 := HH.out.2.1.trans (hb2.mono HH.out.2.1.size)
  have x2 := HH.out.2.2.1.on hb2
  clear hown hb2 hW1
  cases O with
  | some T =>
    obtain ⟨f1, f2, f3⟩ := rdT_facts HH.out.2.2.2.2.2.2.1
    rw [List.length_drop, HH.out.2.2.2.2.2.2.2.2.1] at f3
    have hmt : MT = some ⟨T.kind + 2, k, k + T.size, T.name, 0, T.single⟩ := by
      rw [← HH.out.2.2.2.2.2.2.2.1, markT, HH.out.2.2.2.2.2.2.1]
    simp only [Option.getD_some, Option.isSome_some]
    unfold G.tagV
    obtain ⟨kd, hkd⟩ : ∃ n, T.kind = n := ⟨_, rfl⟩
    obtain ⟨sz, hsz⟩ : ∃ n, T.size = n := ⟨_, rfl⟩
    obtain ⟨sg, hsg⟩ : ∃ n, T.single = n := ⟨_, rfl⟩
    obtain ⟨cl, hcl⟩ : ∃ n, T.closed = n := ⟨_, rfl⟩
    obtain ⟨nm, hnm⟩ : ∃ n, T.name = n := ⟨_, rfl⟩
    rw [hkd] at f1
    rw [hsz] at f3
    rw [hkd, hsz, hnm, hsg] at hmt
    rw [hkd, hsz, hsg, hcl, hnm]
    unfold G.strV
    obtain ⟨SN, hSN⟩ : ∃ Sx : ByteArray, ⟨(G.u8s nm).toArray⟩ = Sx := ⟨_, rfl⟩
    rw [hSN]
    have KT := fun W => ofTag_any kd f1 W
    have HM := Lib.hid (And.intro hmt (And.intro hSN KT))
    clear hmt hSN KT hkd hsz hsg hcl hnm
    have HB := Lib.hid (And.intro bw2 x2)
    clear bw2 x2
    go_upto_region 3 with fail
    generalize hW3 : w2.alloc (.cells #[.int .i64 (kd : Int), .int .i64 (sz : Int), .string SN, .slice A9 n9 c9, .bool sg, .bool cl] 88) = W3
    have b3 : Below w2.heap.size w2 W3 := by rw [← hW3]; exact below_new _ _
    have x3 : Cells W3 w2.heap.size 88 #[.int .i64 (kd : Int), .int .i64 (sz : Int), .string SN, .slice A9 n9 c9, .bool sg, .bool cl] := by rw [← hW3]; exact cells_new _ _ _
    have t3 := HB.out.2.on b3
    have bw3 := HB.out.1.trans (b3.mono HB.out.1.size)
    have p0 := x3.cell 0
    have p1 := x3.cell 1
    have p2 := x3.cell 2
    have p4 := x3.cell 4
    have q0 := t3.cell 0
    have q1 := t3.cell 1
    have q2 := t3.cell 2
    have q3 := t3.cell 3
    have q4 := t3.cell 4
    have q5 := t3.cell 5
    have g0 := t3.froz 0
    have g1 := t3.froz 1
    have g2 := t3.froz 2
    have g3 := t3.froz 3
    have g4 := t3.froz 4
    have g5 := t3.froz 5
    simp at p0 p1 p2 p4 q0 q1 q2 q3 q4 q5
    have H3 := Lib.hid (And.intro bw3 t3)
    have HW3 := Lib.hid hW3
    clear b3 x3 t3 bw3 hW3
    have hkm : (k : Int) + (sz : Int) ≤ 200000 := by omega
    have hk0 : 0 ≤ (k : Int) := by omega
    have hs0 : 0 ≤ (sz : Int) := by omega
    refine wp_region_still_tail 13 (by kernel_rfl) (by kernel_rfl) ?_
    simp only [List.take_succ_cons, List.take_zero, List.drop_succ_cons, List.drop_zero]
    repeat still_step
    still_call (HM.out.2.2 W3.drew)
    repeat still_step
    refine wpStill_nil ?_
    change wpList _ _ _ _ _ W3.drew
    go_wp2_with fail
    refine bodyPost_ret (v := .tuple #[tokV (MT.getD tkZ), .bool MT.isSome]) ?_ rfl ⟨rfl, ?_⟩
    · rw [HM.out.1, ← HM.out.2.1]
      simp [results, Tryz.results35, go_sem, q0, q1, q2, q3, q4, q5, tokV, tokC]
    · exact ((((((H3.out.1.setc (Nat.le_refl _) 0 _).setc (Nat.le_refl _) 1 _).setc (Nat.le_refl _) 2 _).setc (Nat.le_refl _) 3 _).setc (Nat.le_refl _) 4 _).setc (Nat.le_refl _) 5 _).drew
  | none =>
    simp only [Option.getD_none, Option.isSome_none]
    unfold G.tg0 G.tagV G.strV
    have C2 := fun W (hb : Below w.heap.size w W) => readE_any W (HH.out.2.2.2.2.1.below hb (by have := HH.out.2.2.2.2.1.2; omega)) xs A cap (HH.out.2.2.2.2.2.1.on hb) (k : Int) (by omega) (by omega)
    have C3 := fun W (hb : Below w.heap.size w W) => read_any xs A cap (k : Int) W (HH.out.2.2.2.2.2.1.on hb)
    rw [HH.out.2.2.2.2.2.2.2.2.1] at C2 C3
    have hra : readAt xs (k : Int) = readT (xs.drop k) := by unfold readAt; rw [if_neg (by omega), Int.toNat_natCast]
    rw [hra] at C3
    have hmt : MT = if 0 < (readE xs k).2 then some ⟨1, k, k + (readE xs k).2, [], (readE xs k).1, false⟩ else if 0 < (readT (xs.drop k)).size then some ⟨6, k, k + (readT (xs.drop k)).size, [], 0, false⟩ else none := by
      rw [← HH.out.2.2.2.2.2.2.2.1, markT, HH.out.2.2.2.2.2.2.1]
    have h1 := HH.out.2.2.2.2.2.2.2.2.2.1
    have h2 := HH.out.2.2.2.2.2.2.2.2.2.2.1
    obtain ⟨RE, hRE⟩ : ∃ v, readE xs k = v := ⟨_, rfl⟩
    obtain ⟨ES, hES⟩ : ∃ v, readT (xs.drop k) = v := ⟨_, rfl⟩
    rw [hRE] at C2 hmt h1
    rw [hES] at C3 hmt h2
    obtain ⟨r1, n1⟩ := RE
    obtain ⟨s1, wh1, op1, la1⟩ := ES
    unfold escV at C3
    dsimp only at C2 C3 hmt h1 h2
    have HC := Lib.hid (And.intro C2 (And.intro C3 hmt))
    clear C2 C3 hmt hra hRE hES
    have HB := Lib.hid (And.intro bw2 x2)
    clear bw2 x2
    go_upto_region 4 with fail
    generalize hW3 : w2.alloc (.cells _ 88) = W3
    have b3 : Below w2.heap.size w2 W3 := by rw [← hW3]; exact below_new _ _
    have bw3 := HB.out.1.trans (b3.mono HB.out.1.size)
    have H3 := Lib.hid (And.intro bw3 (HB.out.2.on b3))
    have C2 := HC.out.1 W3 bw3
    clear hW3 b3 bw3
    go_wp2_with fail
    refine C2.mono ?_
    rintro e w4 ⟨rfl, hb4⟩
    have bw4 := H3.out.1.trans (hb4.mono H3.out.1.size)
    have x4 := H3.out.2.on hb4
    have H4 := Lib.hid (And.intro bw4 x4)
    clear hb4 C2
    by_cases hn : 0 < n1
    · have i1 : (0 : Int) < (n1 : Int) := by omega
      have i2 : (k : Int) + (n1 : Int) ≤ 200000 := by omega
      have hmt := HC.out.2.2
      rw [if_pos hn] at hmt
      have HM := Lib.hid hmt
      have q0 := x4.cell 0
      have q1 := x4.cell 1
      have q2 := x4.cell 2
      have q3 := x4.cell 3
      have q4 := x4.cell 4
      have q5 := x4.cell 5
      have g0 := x4.froz 0
      have g1 := x4.froz 1
      have g2 := x4.froz 2
      have g3 := x4.froz 3
      have g4 := x4.froz 4
      have g5 := x4.froz 5
      simp at q0 q1 q2 q3 q4 q5
      clear bw4 x4 hmt hn
      go_wp2_with fail
      refine bodyPost_ret (v := .tuple #[tokV (MT.getD tkZ), .bool MT.isSome]) ?_ rfl ⟨rfl, ?_⟩
      · rw [HM.out]
        simp [results, Tryz.results35, go_sem, q0, q1, q2, q3, q4, q5, tokV, tokC, G.u8s]
      · exact (((((H4.out.1.setc (Nat.le_refl _) 0 _).setc (Nat.le_refl _) 1 _).setc (Nat.le_refl _) 2 _).setc (Nat.le_refl _) 3 _).setc (Nat.le_refl _) 4 _).setc (Nat.le_refl _) 5 _
    · have i1 : ¬ (0 : Int) < (n1 : Int) := by omega
      have hmt := HC.out.2.2
      rw [if_neg hn] at hmt
      have C3 := HC.out.2.1 w4 bw4
      clear bw4 x4 hn
      go_wp2_with fail
      refine C3.mono ?_
      rintro e w5 ⟨rfl, hb5⟩
      have bw5 := H4.out.1.trans (hb5.mono H4.out.1.size)
      have x5 := H4.out.2.on hb5
      clear hb5 C3
      have H5 := Lib.hid (And.intro bw5 x5)
      clear bw5 x5
      go_upto_region 8 with fail
      generalize hW6 : w5.alloc (.cells #[.int .i64 (s1 : Int), .bool wh1, .bool op1, .int .u8 (la1 : Int)] 92) = W6
      have b6 : Below w5.heap.size w5 W6 := by rw [← hW6]; exact below_new _ _
      have e6 : Cells W6 w5.heap.size 92 #[.int .i64 (s1 : Int), .bool wh1, .bool op1, .int .u8 (la1 : Int)] := by rw [← hW6]; exact cells_new _ _ _
      have x6 := H5.out.2.on b6
      have H6 := Lib.hid (H5.out.1.trans (b6.mono H5.out.1.size))
      have p0 := e6.cell 0
      have q0 := x6.cell 0
      have q1 := x6.cell 1
      have q2 := x6.cell 2
      have q3 := x6.cell 3
      have q4 := x6.cell 4
      have q5 := x6.cell 5
      have g0 := x6.froz 0
      have g1 := x6.froz 1
      have g2 := x6.froz 2
      have g3 := x6.froz 3
      have g4 := x6.froz 4
      have g5 := x6.froz 5
      simp at q0 q1 q2 q3 q4 q5 p0
      clear b6 e6 x6 hW6
      by_cases hs : 0 < s1
      · have i3 : (0 : Int) < (s1 : Int) := by omega
        have i4 : (k : Int) + (s1 : Int) ≤ 200000 := by omega
        rw [if_pos hs] at hmt
        have HM := Lib.hid hmt
        clear hmt hs
        go_wp2_with fail
        refine bodyPost_ret (v := .tuple #[tokV (MT.getD tkZ), .bool MT.isSome]) ?_ rfl ⟨rfl, ?_⟩
        · rw [HM.out]
          simp [results, Tryz.results35, go_sem, q0, q1, q2, q3, q4, q5, tokV, tokC, G.u8s]
        · exact (((((H6.out.setc (Nat.le_refl _) 0 _).setc (Nat.le_refl _) 1 _).setc (Nat.le_refl _) 2 _).setc (Nat.le_refl _) 3 _).setc (Nat.le_refl _) 4 _).setc (Nat.le_refl _) 5 _
      · have i3 : ¬ (0 : Int) < (s1 : Int) := by omega
        rw [if_neg hs] at hmt
        have HM := Lib.hid hmt
        clear hmt hs
        go_wp2_with fail
        refine bodyPost_ret (v := .tuple #[tokV (MT.getD tkZ), .bool MT.isSome]) ?_ rfl ⟨rfl, ?_⟩
        · rw [HM.out]
          simp [results, Tryz.results35, go_sem, q0, q1, q2, q3, q4, q5, tokV, tokC, tkZ, G.u8s]
        · exact (((((H6.out.setc (Nat.le_refl _) 0 _).setc (Nat.le_refl _) 1 _).setc (Nat.le_refl _) 2 _).setc (Nat.le_refl _) 3 _).setc (Nat.le_refl _) 4 _).setc (Nat.le_refl _) 5 _
end Go.Proofs.YtnedjafpjbfncaaGreatDoor

namespace Go.Proofs.YtnedjafpjbfncaaGreatDoor
open Go.RowKit Go.Shelf Go.Lib Go.Maps Go.Great
attribute [local irreducible] NR ZNR FR nmE

/-- Does an end tag of a name begin here, so far as one byte behind the name tells? -/
def endR (xs nm : List Nat) : Bool := match G.rdT (xs.take (nm.length + 3)) with
  | some T => decide (T.kind = 1) && (G.u8s T.name == G.u8s nm)
  | none => false
set_option maxHeartbeats 8000000 in
set_option maxRecDepth 100000 in
theorem endsRaw_any (xs : List Nat) (a : Addr) (cap : Nat) (nm : List Nat) (w : World) (hM : G.MX w) (hx : BY w w.heap.size xs (some a) cap) (hl : xs.length ≤ 100000) (hnm : nm.length ≤ 1000) (h0 : 0 < xs.length) :
    Calls Tryz.prog 55 #[.slice (some a) xs.length cap, .string ⟨(G.u8s nm).toArray⟩] w fun e w' => e = .returned (.bool (endR xs nm)) ∧ Below w.heap.size w w' := by
  have hcap := hx.l
  have hmx := hx.m
  unfold maxLen at hmx
  have hsz : (⟨(G.u8s nm).toArray⟩ : ByteArray).size = nm.length := by simp [ByteArray.size, G.u8s_len]
  obtain ⟨m, hm⟩ : ∃ m, min (nm.length + 3) xs.length = m := ⟨_, rfl⟩
  have htk : xs.take (nm.length + 3) = xs.take m := by
    rw [← hm]
    by_cases h : nm.length + 3 ≤ xs.length
    · rw [Nat.min_eq_left h]
    · rw [Nat.min_eq_right (by omega), List.take_length, List.take_of_length_le (by omega)]
  have hml : (xs.take m).length = m := by rw [List.length_take]; omega
  have C := G.read_any (xs.take m) (some a) cap 0 w hM ((hx.take m).g) (by omega)
  rw [hml] at C
  have hrd : G.rdAt (xs.take m) 0 = G.rdT (xs.take m) := rfl
  rw [hrd] at C
  obtain ⟨O, hO⟩ : ∃ o, G.rdT (xs.take m) = o := ⟨_, rfl⟩
  rw [hO] at C
  obtain ⟨ER, hER⟩ : ∃ b, endR xs nm = b := ⟨_, rfl⟩
  have hE := hER
  unfold endR at hE
  rw [htk, hO] at hE
  rw [hER]
  obtain ⟨SN, hSN⟩ : ∃ Sx : ByteArray, ⟨(G.u8s nm).toArray⟩ = Sx := ⟨_, rfl⟩
  rw [hSN] at hsz ⊢
  obtain ⟨N, hN⟩ : ∃ N, xs.length = N := ⟨_, rfl⟩
  obtain ⟨K, hK⟩ : ∃ K, nm.length = K := ⟨_, rfl⟩
  rw [hN] at hm hl hcap h0 ⊢
  rw [hK] at hm hsz hnm
  have i1 : (m : Int) = min ((K : Int) + 3) (N : Int) := by omega
  have i2 : 2 + (K : Int) + 1 = (K : Int) + 3 := by omega
  have hmc : m ≤ cap := by omega
  have hm0 : 0 < cap := by omega
  have HH := Lib.hid (And.intro C (And.intro hE hSN))
  clear C hE hSN hER htk hrd hO hml hx hM
  go_enter Tryz.func55, Tryz.ntmps55
  go_upto_region 2 with fail
  have i3 : (min ((K : Int) + 3) (N : Int)).toNat = m := by omega
  go_wp2_with fail
  refine HH.out.1.mono ?_
  rintro e w2 ⟨v, rfl, hown, hb2⟩
  obtain ⟨A9, n9, c9, rfl⟩ := hown.slice
  have HB := Lib.hid hb2
  clear hown hb2
  have hE := HH.out.2.1
  have b3 := below_new w2 (.cells #[.int .i64 (((O.getD G.tg0).kind : Nat) : Int), .int .i64 (((O.getD G.tg0).size : Nat) : Int), .string ⟨(G.u8s (O.getD G.tg0).name).toArray⟩, .slice A9 n9 c9, .bool (O.getD G.tg0).single, .bool (O.getD G.tg0).closed] 88)
  have x3 := cells_new w2 #[.int .i64 (((O.getD G.tg0).kind : Nat) : Int), .int .i64 (((O.getD G.tg0).size : Nat) : Int), .string ⟨(G.u8s (O.getD G.tg0).name).toArray⟩, .slice A9 n9 c9, .bool (O.getD G.tg0).single, .bool (O.getD G.tg0).closed] 88
  unfold G.tagV G.strV
  obtain ⟨T, hT⟩ : ∃ t, O.getD G.tg0 = t := ⟨_, rfl⟩
  obtain ⟨ok, hok⟩ : ∃ t, O.isSome = t := ⟨_, rfl⟩
  rw [hT] at b3 x3 ⊢
  rw [hok]
  have hE2 : (ok && (decide (T.kind = 1) && (G.u8s T.name == G.u8s nm))) = ER := by
    rw [← hE, ← hok, ← hT]
    cases O with
    | none => rfl
    | some t => rfl
  obtain ⟨BQ, hBQ⟩ : ∃ b, (G.u8s T.name == G.u8s nm) = b := ⟨_, rfl⟩
  rw [hBQ] at hE2
  obtain ⟨ST, hST⟩ : ∃ Sx : ByteArray, ⟨(G.u8s T.name).toArray⟩ = Sx := ⟨_, rfl⟩
  rw [hST] at b3 x3 ⊢
  have hq : (ST.toList == SN.toList) = BQ := by
    rw [← hST, ← HH.out.2.2]
    have e1 : (⟨(G.u8s T.name).toArray⟩ : ByteArray).toList = G.u8s T.name := by simp
    have e2 : (⟨(G.u8s nm).toArray⟩ : ByteArray).toList = G.u8s nm := by simp
    rw [e1, e2]
    exact hBQ
  obtain ⟨kd, hkd⟩ : ∃ n, T.kind = n := ⟨_, rfl⟩
  rw [hkd] at b3 x3 hE2 ⊢
  generalize (T.size : Int) = sz at *
  generalize T.single = sg at *
  generalize T.closed = cl at *
  have HX := Lib.hid (And.intro (HB.out.trans (b3.mono HB.out.size)) (And.intro x3 hE2))
  clear b3 x3 hE2 hBQ hST hkd hT hok hE
  go_upto_region 3 with fail
  have p0 := HX.out.2.1.cell 0
  have p2 := HX.out.2.1.cell 2
  have hlt := HX.out.2.1.lt
  simp at p0 p2 hlt
  cases ok with
  | false =>
    go_wp2_with fail
    go_ret
    exact ⟨by rw [← HX.out.2.2]; first | rfl | simp, HX.out.1⟩
  | true =>
    by_cases h1 : kd = 1
    · have d1 : ((kd : Int) == 1) = true := by simp; omega
      have e3 : decide (kd = 1) = true := by simpa using h1
      have HE := Lib.hid e3
      clear h1 e3
      go_wp2_with fail
      go_ret
      exact ⟨by rw [← HX.out.2.2, HE.out]; first | rfl | simp, HX.out.1⟩
    · have d1 : ((kd : Int) == 1) = false := by simp; omega
      have e3 : decide (kd = 1) = false := by simpa using h1
      have HE := Lib.hid e3
      clear h1 e3
      go_wp2_with fail
      go_ret
      exact ⟨by rw [← HX.out.2.2, HE.out]; first | rfl | simp, HX.out.1⟩
end Go.Proofs.YtnedjafpjbfncaaGreatDoor

namespace Go.Proofs.YtnedjafpjbfncaaGreatDoor
open Go.RowKit Go.Shelf Go.Lib Go.Maps Go.Great
open Go.Sort (grow)
attribute [local irreducible] NR ZNR FR nmE

def scriptU : List UInt8 := [115, 99, 114, 105, 112, 116]
def styleU : List UInt8 := [115, 116, 121, 108, 101]
/-- May raw bytes follow? -/
def isRaw (x : TK) : Bool := decide (x.kind = 2) && !x.sg && (G.u8s x.name == scriptU || G.u8s x.name == styleU)
/-- Where the raw bytes of a name end, from a place on. -/
def scanR (nm : List Nat) : List Nat → Nat → Nat
  | [], k => k
  | c :: r, k => if endR (c :: r) nm then k else scanR nm r (k + 1)
def rawT (xs : List Nat) (x : TK) : Nat := if isRaw x then scanR x.name (xs.drop x.to) x.to else x.to
theorem scanR_le (nm : List Nat) : ∀ (l : List Nat) (k : Nat), k ≤ scanR nm l k ∧ scanR nm l k ≤ k + l.length
  | [], k => by simp [scanR]
  | c :: r, k => by
    have ih := scanR_le nm r (k + 1)
    rw [scanR]
    split
    · simp
    · simp only [List.length_cons]
      omega
theorem rawT_le {xs : List Nat} {x : TK} (h : x.to ≤ xs.length) : x.to ≤ rawT xs x ∧ rawT xs x ≤ xs.length := by
  unfold rawT
  split
  · have := scanR_le x.name (xs.drop x.to) x.to
    rw [List.length_drop] at this
    omega
  · omega
theorem scanR_at {nm xs : List Nat} {k : Nat} (h : k < xs.length) : scanR nm (xs.drop k) k = if endR (xs.drop k) nm then k else scanR nm (xs.drop (k + 1)) (k + 1) := by
  rw [List.drop_eq_getElem_cons h, scanR]
theorem not_raw {x : TK} (h : isRaw x = false) (xs : List Nat) : rawT xs x = x.to := by unfold rawT; rw [if_neg (by rw [h]; simp)]
set_option maxHeartbeats 8000000 in
set_option maxRecDepth 100000 in
theorem rawEnd_any (xs : List Nat) (b o cap : Nat) (x : TK) (w : World) (hM : G.MX w) (hx : BY w w.heap.size xs (some ⟨b, o, none⟩) cap) (hl : xs.length ≤ 100000) (h0 : 0 < xs.length) (ht : x.to ≤ xs.length) :
    Calls Tryz.prog 36 #[.slice (some ⟨b, o, none⟩) xs.length cap, tokV x] w fun e w' => e = .returned (.int .i64 ((rawT xs x : Nat) : Int)) ∧ Below w.heap.size w w' := by
  obtain ⟨RT, hRT⟩ : ∃ n, rawT xs x = n := ⟨_, rfl⟩
  rw [hRT]
  obtain ⟨SN, hSN⟩ : ∃ Sx : ByteArray, ⟨(G.u8s x.name).toArray⟩ = Sx := ⟨_, rfl⟩
  have hSl : SN.toList = G.u8s x.name := by rw [← hSN]; simp
  obtain ⟨W1, hW1⟩ : ∃ W, w.alloc (.cells (tokC x) 30) = W := ⟨_, rfl⟩
  have b1 : Below w.heap.size w W1 := by rw [← hW1]; exact below_new _ _
  have x1 : Cells W1 w.heap.size 30 (tokC x) := by rw [← hW1]; exact cells_new _ _ _
  have hcap := hx.l
  have hmx := hx.m
  unfold maxLen at hmx
  obtain ⟨N, hN⟩ : ∃ N, xs.length = N := ⟨_, rfl⟩
  rw [hN] at hl h0 ht hcap ⊢
  have hR := hRT
  unfold rawT at hR
  have HH := Lib.hid (And.intro b1 (And.intro x1 (And.intro (hM.on hM.pos b1) (And.intro (hx.on b1) (And.intro hR (And.intro hSN (And.intro hN hSl)))))))
  have hraw : isRaw x = (decide (x.kind = 2) && !x.sg && (SN.toList == scriptU || SN.toList == styleU)) := by rw [hSl]; rfl
  unfold tokV tokC
  unfold tokC at hW1 x1
  rw [hSN] at hW1 x1 ⊢
  have p0 := x1.cell 0
  have p2 := x1.cell 2
  have p3 := x1.cell 3
  have p5 := x1.cell 5
  simp at p0 p2 p3 p5
  clear hR b1 hSl hSN hM hx hRT
  obtain ⟨kd, hkd⟩ : ∃ n, x.kind = n := ⟨_, rfl⟩
  obtain ⟨sg, hsg⟩ : ∃ n, x.sg = n := ⟨_, rfl⟩
  obtain ⟨fr, hfr⟩ : ∃ n, x.fr = n := ⟨_, rfl⟩
  obtain ⟨te, hto⟩ : ∃ n, x.to = n := ⟨_, rfl⟩
  obtain ⟨rr, hrr⟩ : ∃ n, x.r = n := ⟨_, rfl⟩
  rw [hkd, hsg] at hraw
  rw [hkd, hfr, hto, hrr, hsg] at hW1 x1 ⊢
  rw [hkd] at p0
  rw [hto] at p2 ht
  rw [hsg] at p5
  obtain ⟨c1, hc1⟩ : ∃ b, (SN.toList == scriptU) = b := ⟨_, rfl⟩
  obtain ⟨c2, hc2⟩ : ∃ b, (SN.toList == styleU) = b := ⟨_, rfl⟩
  rw [hc1, hc2] at hraw
  have n1 : (SN.toList == [115, 99, 114, 105, 112, 116]) = c1 := hc1
  have n2 : (SN.toList == [115, 116, 121, 108, 101]) = c2 := hc2
  have HX := Lib.hid (And.intro hto (And.intro hraw x1))
  clear hkd hsg hfr hto hrr hraw hc1 hc2 x1
  by_cases hk : kd = 2
  case neg =>
    have d0 : ((kd : Int) != 2) = true := by simp; omega
    have he : RT = te := by
      have := HH.out.2.2.2.2.1
      rw [if_neg (by rw [HX.out.2.1]; simp [hk])] at this
      rw [← this, HX.out.1]
    have HE := Lib.hid he
    clear he hk
    go_enter Tryz.func36, Tryz.ntmps36
    go_wp2_with fail
    go_ret
    exact ⟨by rw [HE.out]; rfl, HH.out.1⟩
  have d0 : ((kd : Int) != 2) = false := by simp; omega
  cases sg with
  | true =>
    have he : RT = te := by
      have := HH.out.2.2.2.2.1
      rw [if_neg (by rw [HX.out.2.1]; simp)] at this
      rw [← this, HX.out.1]
    have HE := Lib.hid he
    clear he hk
    go_enter Tryz.func36, Tryz.ntmps36
    go_wp2_with fail
    go_ret
    exact ⟨by rw [HE.out]; rfl, HH.out.1⟩
  | false =>
    by_cases hc : c1 = false ∧ c2 = false
    case pos =>
      obtain ⟨rfl, rfl⟩ := hc
      have he : RT = te := by
        have := HH.out.2.2.2.2.1
        rw [if_neg (by rw [HX.out.2.1]; simp)] at this
        rw [← this, HX.out.1]
      have HE := Lib.hid he
      clear he hk
      go_enter Tryz.func36, Tryz.ntmps36
      go_wp2_with fail
      go_ret
      exact ⟨by rw [HE.out]; rfl, HH.out.1⟩
    case neg =>
      have hir : isRaw x = true := by
        rw [HX.out.2.1, hk]
        cases c1 <;> cases c2 <;> simp at hc ⊢
      have he : scanR x.name (xs.drop te) te = RT := by
        have := HH.out.2.2.2.2.1
        rw [if_pos hir, HX.out.1] at this
        exact this
      have hnl : x.name.length ≤ 6 := by
        unfold isRaw at hir
        simp only [Bool.and_eq_true, Bool.or_eq_true, beq_iff_eq] at hir
        rcases hir.2 with h | h
        · have := congrArg List.length h
          rw [G.u8s_len] at this
          rw [this]
          decide
        · have := congrArg List.length h
          rw [G.u8s_len] at this
          rw [this]
          decide
      have HE := Lib.hid (And.intro he hnl)
      clear he hnl hir hk
      have hj : ¬ (c1 = true ∧ c2 = true) := by
        rintro ⟨rfl, rfl⟩
        have e1 := eq_of_beq n1
        have e2 := eq_of_beq n2
        rw [e1] at e2
        exact absurd e2 (by decide)
      go_enter Tryz.func36, Tryz.ntmps36
      cases c1 <;> cases c2
      case false.false => exact absurd ⟨rfl, rfl⟩ hc
      case true.true => exact absurd ⟨rfl, rfl⟩ hj
      all_goals
        clear hc hj
      case false.true =>
        go_wp2_with fail
        clear p0 p2 p3 p5
        go_loopw [5] (fun i wr => ∃ k : Nat, i = .int .i64 (k : Int) ∧ k ≤ N ∧ scanR x.name (xs.drop k) k = RT ∧ Below W1.heap.size W1 wr) (fun i _ => N - (RowKit.intOf i).toNat)
        case atStart => exact ⟨te, rfl, ht, HE.out.1, Below.refl _ _⟩
        case round =>
          obtain ⟨k, rfl, hkN, hs, hb⟩ := hrel
          have bw := HH.out.1.trans (hb.mono HH.out.1.size)
          have xw := HX.out.2.2.on hb
          have p3 := xw.cell 3
          simp at p3
          have r3 := cell_regrown p3
          by_cases hlt : k < N
          case neg =>
            obtain rfl : k = N := by omega
            have he : RT = k := by
              rw [List.drop_of_length_le (by rw [HH.out.2.2.2.2.2.2.1]; exact Nat.le_refl _)] at hs
              exact hs.symm
            have HB := Lib.hid (And.intro he bw)
            clear he bw hs hb xw r3 p3
            go_wp2_with go_quiet (fail)
            go_ret
            exact ⟨by rw [HB.out.1]; rfl, below_drewN HB.out.2 _⟩
          case pos =>
            have hN := HH.out.2.2.2.2.2.2.1
            have i1 : (k : Int) < (N : Int) := by omega
            have hsl := slice_from b o N cap k hlt hcap
            rw [scanR_at (by rw [hN]; exact hlt)] at hs
            have hdl : (xs.drop k).length = N - k := by rw [List.length_drop, hN]
            have D : ∀ d os, Calls Tryz.prog 55 #[.slice (some ⟨b, o + k, none⟩) (N - k) (cap - k), .string SN] (grow (redrawn wr d) os) fun e w'' => e = .returned (.bool (endR (xs.drop k) x.name)) ∧ ∃ p : Regrown, w'' = grow (redrawn wr p.d) p.os := fun d os => by
              have bd := hb.trans ((below_regrown wr d os).mono hb.size)
              have := endsRaw_any (xs.drop k) ⟨b, o + k, none⟩ (cap - k) x.name (grow (redrawn wr d) os) (HH.out.2.2.1.on HH.out.2.2.1.pos bd) ((HH.out.2.2.2.1.on bd).drop (by rw [hN]; exact hlt)) (by omega) (by have := HE.out.2; omega) (by omega)
              rw [hdl, HH.out.2.2.2.2.2.1] at this
              exact Calls.regrown_of this
            have HB := Lib.hid (And.intro bw hb)
            clear bw hb xw p3 hdl hN
            cases he : endR (xs.drop k) x.name with
            | true =>
              rw [he] at D hs
              have HS := Lib.hid hs
              clear hs he
              go_wp2_with fail
              refine wp_region_quiet_below (by kernel_rfl) (by kernel_rfl) ?_
              repeat (go_big_quiet_step (with_reducible exact D _ _))
              refine wpQuiet_nil ?_
              intro _ hw'
              obtain ⟨⟨dq, osq⟩, hw''⟩ := hw'
              subst hw''
              have HB2 := Lib.hid (HB.out.1.trans ((below_regrown wr dq osq).mono HB.out.1.size))
              clear D r3
              go_wp2_with fail
              go_ret
              exact ⟨by rw [← HS.out]; rfl, HB2.out⟩
            | false =>
              rw [he] at D hs
              have HS := Lib.hid hs
              clear hs he
              go_wp2_with fail
              refine wp_region_quiet_below (by kernel_rfl) (by kernel_rfl) ?_
              repeat (go_big_quiet_step (with_reducible exact D _ _))
              refine wpQuiet_nil ?_
              intro _ hw'
              obtain ⟨⟨dq, osq⟩, hw''⟩ := hw'
              subst hw''
              have HB2 := Lib.hid (HB.out.2.trans ((below_regrown wr dq osq).mono HB.out.2.size))
              clear D r3
              go_wp2_with fail
              go_roundw
              case rel => exact ⟨k + 1, by go_num, by omega, HS.out, HB2.out⟩
              case measure => simp [RowKit.intOf]; omega
      case true.false =>
        go_wp2_with fail
        clear p0 p2 p3 p5
        go_loopw [5] (fun i wr => ∃ k : Nat, i = .int .i64 (k : Int) ∧ k ≤ N ∧ scanR x.name (xs.drop k) k = RT ∧ Below W1.heap.size W1 wr) (fun i _ => N - (RowKit.intOf i).toNat)
        case atStart => exact ⟨te, rfl, ht, HE.out.1, Below.refl _ _⟩
        case round =>
          obtain ⟨k, rfl, hkN, hs, hb⟩ := hrel
          have bw := HH.out.1.trans (hb.mono HH.out.1.size)
          have xw := HX.out.2.2.on hb
          have p3 := xw.cell 3
          simp at p3
          have r3 := cell_regrown p3
          by_cases hlt : k < N
          case neg =>
            obtain rfl : k = N := by omega
            have he : RT = k := by
              rw [List.drop_of_length_le (by rw [HH.out.2.2.2.2.2.2.1]; exact Nat.le_refl _)] at hs
              exact hs.symm
            have HB := Lib.hid (And.intro he bw)
            clear he bw hs hb xw r3 p3
            go_wp2_with go_quiet (fail)
            go_ret
            exact ⟨by rw [HB.out.1]; rfl, below_drewN HB.out.2 _⟩
          case pos =>
            have hN := HH.out.2.2.2.2.2.2.1
            have i1 : (k : Int) < (N : Int) := by omega
            have hsl := slice_from b o N cap k hlt hcap
            rw [scanR_at (by rw [hN]; exact hlt)] at hs
            have hdl : (xs.drop k).length = N - k := by rw [List.length_drop, hN]
            have D : ∀ d os, Calls Tryz.prog 55 #[.slice (some ⟨b, o + k, none⟩) (N - k) (cap - k), .string SN] (grow (redrawn wr d) os) fun e w'' => e = .returned (.bool (endR (xs.drop k) x.name)) ∧ ∃ p : Regrown, w'' = grow (redrawn wr p.d) p.os := fun d os => by
              have bd := hb.trans ((below_regrown wr d os).mono hb.size)
              have := endsRaw_any (xs.drop k) ⟨b, o + k, none⟩ (cap - k) x.name (grow (redrawn wr d) os) (HH.out.2.2.1.on HH.out.2.2.1.pos bd) ((HH.out.2.2.2.1.on bd).drop (by rw [hN]; exact hlt)) (by omega) (by have := HE.out.2; omega) (by omega)
              rw [hdl, HH.out.2.2.2.2.2.1] at this
              exact Calls.regrown_of this
            have HB := Lib.hid (And.intro bw hb)
            clear bw hb xw p3 hdl hN
            cases he : endR (xs.drop k) x.name with
            | true =>
              rw [he] at D hs
              have HS := Lib.hid hs
              clear hs he
              go_wp2_with fail
              refine wp_region_quiet_below (by kernel_rfl) (by kernel_rfl) ?_
              repeat (go_big_quiet_step (with_reducible exact D _ _))
              refine wpQuiet_nil ?_
              intro _ hw'
              obtain ⟨⟨dq, osq⟩, hw''⟩ := hw'
              subst hw''
              have HB2 := Lib.hid (HB.out.1.trans ((below_regrown wr dq osq).mono HB.out.1.size))
              clear D r3
              go_wp2_with fail
              go_ret
              exact ⟨by rw [← HS.out]; rfl, HB2.out⟩
            | false =>
              rw [he] at D hs
              have HS := Lib.hid hs
              clear hs he
              go_wp2_with fail
              refine wp_region_quiet_below (by kernel_rfl) (by kernel_rfl) ?_
              repeat (go_big_quiet_step (with_reducible exact D _ _))
              refine wpQuiet_nil ?_
              intro _ hw'
              obtain ⟨⟨dq, osq⟩, hw''⟩ := hw'
              subst hw''
              have HB2 := Lib.hid (HB.out.2.trans ((below_regrown wr dq osq).mono HB.out.2.size))
              clear D r3
              go_wp2_with fail
              go_roundw
              case rel => exact ⟨k + 1, by go_num, by omega, HS.out, HB2.out⟩
              case measure => simp [RowKit.intOf]; omega
end Go.Proofs.YtnedjafpjbfncaaGreatDoor

namespace Go.Proofs.YtnedjafpjbfncaaGreatDoor
open Go.RowKit Go.Shelf Go.Lib Go.Maps Go.Great
attribute [local go_sem] Oper.semAt_some
attribute [local irreducible] NR ZNR FR nmE

def rawTok (xs : List Nat) (t : TK) : List TK := if t.to < rawT xs t then [⟨7, t.to, rawT xs t, [], 0, false⟩] else []
theorem rawT_gt {xs : List Nat} {k : Nat} {t : TK} (hk : k < xs.length) (h : markT xs k = some t) : k < rawT xs t := by
  have h1 := mark_to (by omega) h
  have h2 := rawT_le (xs := xs) (x := t) h1.2.2.1
  omega
/-- All tokens from a place on that are no texts. -/
def marksL (xs : List Nat) (k : Nat) : List TK :=
  if _h : k < xs.length then
    match hm : markT xs k with
    | none => marksL xs (k + 1)
    | some t => t :: (rawTok xs t ++ marksL xs (rawT xs t))
  else []
termination_by xs.length - k
decreasing_by
  · omega
  · have := rawT_gt _h hm
    omega
theorem marksL_end {xs : List Nat} {k : Nat} (h : ¬ k < xs.length) : marksL xs k = [] := by rw [marksL, dif_neg h]
theorem marksL_none {xs : List Nat} {k : Nat} (h : k < xs.length) (hm : markT xs k = none) : marksL xs k = marksL xs (k + 1) := by
  rw [marksL, dif_pos h]
  split
  · rfl
  · rename_i t e
    rw [hm] at e
    cases e
theorem marksL_some {xs : List Nat} {k : Nat} {t : TK} (h : k < xs.length) (hm : markT xs k = some t) : marksL xs k = t :: (rawTok xs t ++ marksL xs (rawT xs t)) := by
  rw [marksL, dif_pos h]
  split
  · rename_i e
    rw [hm] at e
    cases e
  · rename_i t' e
    rw [hm] at e
    cases e
    rfl
set_option maxHeartbeats 4000000 in
set_option maxRecDepth 100000 in
theorem marks_any (A : Option Addr) (m c : Nat) (w : World) : Calls Tryz.prog 23 #[.slice A m c] w fun e w' => e = .returned (.func (Fn.func 34) #[] #[.pointer (some ⟨w.heap.size, 0, none⟩)]) ∧ w' = w.alloc (.cells #[.slice A m c] 22) := by
  go_enter Tryz.func23, Tryz.ntmps23
  go_wp2_with fail
  go_ret
  exact ⟨rfl, rfl⟩
set_option maxHeartbeats 8000000 in
set_option maxRecDepth 100000 in
theorem marks_hands (n : Nat) (hn : 2 ≤ n) (xs : List Nat) (A : Option Addr) (cap bb B0 : Nat) (X : Nat → Prop) (w : World) (hx : BY w B0 xs A cap) (hl : xs.length ≤ 100000) (hM : G.MX w) (hT : S.Tabs w) (hB : 5 ≤ B0) (hbb : Cells w bb 22 #[.slice A xs.length cap]) (hB0 : B0 ≤ bb)
    (hX : ∀ k, X k → B0 ≤ k ∧ k ≠ bb) : HandsT n 34 #[.pointer (some ⟨bb, 0, none⟩)] (marksL xs 0) X w := by
  intro l Xc J Jx W hb hXc sJ sX oJ oX hY h0
  have hbl := hbb.lt
  have at_ : ∀ {ob : Option Nat} {W' : World}, Fr Xc none ob W W' → Below B0 w W' ∧ Cells W' bb 22 #[.slice A xs.length cap] := fun {ob W'} hf => by
    have hbW : Below B0 w W := ⟨hb.os, hb.tape, hb.output, hb.size, fun k hk => hb.block k (by omega)⟩
    refine ⟨hbW.trans (hf.below (by have := hb.size; omega) (fun k hk => ?_) (by simp)), ?_⟩
    · rcases (hXc k hk).2 with h | h
      · exact (hX k h).1
      · omega
    · refine (hf.same bb (by have := hb.size; omega) (fun h => ?_) (by simp)).trans ((hb.block bb hbl).trans hbb)
      rcases (hXc bb h).2 with h | h
      · exact (hX bb h).2 rfl
      · omega
  have C1 : ∀ {ob : Option Nat} {W' : World}, Fr Xc none ob W W' → ∀ k, k < xs.length → Calls Tryz.prog 35 #[.slice A xs.length cap, .int .i64 (k : Int)] W' fun e w'' => e = .returned (.tuple #[tokV ((markT xs k).getD tkZ), .bool (markT xs k).isSome]) ∧ Below W'.heap.size W' w'' := fun {ob W'} hf k hk => by
    have h1 := (at_ hf).1
    have h2 := (at_ hf).2.lt
    exact mark_any xs A cap k W' (hM.on (B := B0) (by omega) h1) (hT.below h1 (by omega)) ((hx.below h1).mono (by omega)) hl (by omega)
  have C2 : ∀ {ob : Option Nat} {W' : World}, Fr Xc none ob W W' → ∀ t : TK, 0 < xs.length → t.to ≤ xs.length → Calls Tryz.prog 36 #[.slice A xs.length cap, tokV t] W' fun e w'' => e = .returned (.int .i64 ((rawT xs t : Nat) : Int)) ∧ Below W'.heap.size W' w'' := fun {ob W'} hf t h0 ht => by
    have h1 := (at_ hf).1
    have h2 := (at_ hf).2.lt
    obtain ⟨b, o, rfl, _, _⟩ := hx.r (by intro e; rw [e] at h0; simp at h0)
    exact rawEnd_any xs b o cap t W' (hM.on (B := B0) (by omega) h1) ((hx.below h1).mono (by omega)) hl h0 ht
  obtain ⟨N, hN⟩ : ∃ N, xs.length = N := ⟨_, rfl⟩
  rw [hN] at hl hbb C1 C2
  have at2 : ∀ {ob : Option Nat} {W' : World}, Fr Xc none ob W W' → W'.cell? ⟨bb, 0, none⟩ = some (.slice A N cap) := fun {ob W'} hf => by
    have := (at_ hf).2.cell 0
    rw [hN] at this
    simpa using this
  have hcap := hx.l
  have hmx := hx.m
  unfold maxLen at hmx
  rw [hN] at hcap
  have HH := Lib.hid (And.intro (@C1) (And.intro (@C2) (And.intro (@at2) (And.intro hN (And.intro hXc (And.intro sJ (And.intro sX (And.intro oJ (And.intro oX hY)))))))))
  clear C1 C2 at2 at_ hXc sJ sX oJ oX hY hx hM hT hbb hX
  refine callsIn_of_wp Tryz.func34 rfl trivial ?_ rfl
  simp only [Tryz.ntmps34, List.size_toArray, List.length_cons, List.length_nil, Nat.reduceAdd, Nat.reduceSub, Array.replicate_succ, Array.replicate_zero, List.push_toArray, List.append_toArray, List.nil_append, List.cons_append]
  gi_wp2
  gi_loopw [3] (fun a wr => ∃ (k : Nat) (pre : List TK) (ob : Option Nat), a = .int .i64 (k : Int) ∧ k ≤ N ∧ marksL xs 0 = pre ++ marksL xs k ∧ J pre ob wr ∧ Fr Xc none ob W wr) (fun a _ => N - (RowKit.intOf a).toNat)
  case atStart => exact ⟨0, [], none, rfl, by omega, rfl, h0, Fr.refl _ _ _⟩
  case round =>
    obtain ⟨k, pre, ob, rfl, hk, hm, hj, hf⟩ := hrel
    have c0 := HH.out.2.2.1 hf
    have lb := block_lt_of_cell c0
    by_cases hlt : k < N
    case neg =>
      obtain rfl : k = N := by omega
      have i1 : ¬ (k : Int) < (k : Int) := by omega
      rw [marksL_end (k := k) (by have := HH.out.2.2.2.1; omega), List.append_nil] at hm
      have HJ := Lib.hid (And.intro hm (And.intro hj hf))
      clear hm hj hf
      gi_wp2
      go_end0
      exact ⟨⟨_, rfl⟩, ob, HJ.out.2.2, .inl (by rw [HJ.out.1]; exact HJ.out.2.1)⟩
    case pos =>
      have i1 : (k : Int) < (N : Int) := by omega
      have hkx : k < xs.length := by have := HH.out.2.2.2.1; omega
      have KM := HH.out.1 hf k (by omega)
      cases hmk : markT xs k with
      | none =>
        rw [hmk] at KM
        simp only [Option.getD_none, Option.isSome_none] at KM
        replace KM : Calls Tryz.prog 35 #[.slice A N cap, .int .i64 (k : Int)] wr fun e w'' => e = .returned (.tuple #[.agg #[.int .i64 0, .int .i64 0, .int .i64 0, .string ⟨#[]⟩, .int .i32 0, .bool false], .bool false]) ∧ Below wr.heap.size wr w'' := KM
        rw [marksL_none hkx hmk] at hm
        have HJ := Lib.hid (And.intro hm (And.intro hj (And.intro hf KM)))
        clear hm hj hf hkx KM hmk
        gi_wp2_with (refine ⟨trivial, fun _ => by omega, ?_⟩; gi_at_call 35; refine (callsIn_wide.2 HJ.out.2.2.2).mono ?_; rintro e w1 ⟨rfl, hb1⟩)
        have hb2 := hb1.trans ((below_new w1 (.cells #[.int .i64 0, .int .i64 0, .int .i64 0, .string ⟨#[]⟩, .int .i32 0, .bool false] 30)).mono hb1.size)
        go_roundw
        case rel => exact ⟨k + 1, pre, ob, by go_num, by omega, HJ.out.1, HH.out.2.2.2.2.2.1.of_below HJ.out.2.1 hb2, HJ.out.2.2.1.trans (Fr.of_below hb2)⟩
        case measure => simp [RowKit.intOf]; omega
      | some t =>
        rw [hmk] at KM
        simp only [Option.getD_some, Option.isSome_some] at KM
        have hto := mark_to (by omega) hmk
        have hrle := rawT_le (xs := xs) (x := t) hto.2.2.1
        have hrgt := rawT_gt hkx hmk
        rw [marksL_some hkx hmk] at hm
        have hp1 : pre ++ [t] <+: marksL xs 0 := by rw [hm]; exact ⟨rawTok xs t ++ marksL xs (rawT xs t), by simp⟩
        have hN := HH.out.2.2.2.1
        have obl : ∀ k, ob = some k → k < wr.heap.size := fun k e => by subst e; exact (HH.out.2.2.2.2.2.2.2.1 _ _ _ hj).2
        obtain ⟨RT, hRT⟩ : ∃ n, rawT xs t = n := ⟨_, rfl⟩
        rw [hRT] at hrle hrgt hm
        obtain ⟨tv, htv⟩ : ∃ v, tokV t = v := ⟨_, rfl⟩
        have htv2 := htv
        unfold tokV tokC at htv2
        have htc : (tokC t) = #[.int .i64 (t.kind : Int), .int .i64 (t.fr : Int), .int .i64 (t.to : Int), .string ⟨(G.u8s t.name).toArray⟩, .int .i32 t.r, .bool t.sg] := rfl
        rw [htv, ← htv2] at KM
        obtain ⟨SN, hSN⟩ : ∃ Sx : ByteArray, ⟨(G.u8s t.name).toArray⟩ = Sx := ⟨_, rfl⟩
        obtain ⟨kd, hkd⟩ : ∃ n, t.kind = n := ⟨_, rfl⟩
        obtain ⟨sg, hsg⟩ : ∃ n, t.sg = n := ⟨_, rfl⟩
        obtain ⟨fr, hfr⟩ : ∃ n, t.fr = n := ⟨_, rfl⟩
        obtain ⟨te, hte⟩ : ∃ n, t.to = n := ⟨_, rfl⟩
        obtain ⟨rr, hrr⟩ : ∃ n, t.r = n := ⟨_, rfl⟩
        rw [hSN, hkd, hsg, hfr, hte, hrr] at KM htv2
        rw [hte] at hrle hto
        rw [hN] at hrle hto
        have HJ := Lib.hid (And.intro hm (And.intro hj (And.intro hf (And.intro KM (And.intro hp1 (And.intro obl (And.intro hRT (And.intro hte (And.intro htv htv2)))))))))
        have hlt2 : k < RT ∧ RT ≤ N ∧ te ≤ RT := ⟨hrgt, hrle.2, hrle.1⟩
        have hte0 : te ≤ N := hto.2.2.1
        clear hm hj hf hkx KM hmk hto hrle hrgt hp1 hN obl htv htv2 htc hSN hkd hsg hfr hrr hRT hte
        gi_wp2_with (fail)
        refine ⟨trivial, fun _ => by omega, ?_⟩
        gi_at_call 35
        refine (callsIn_wide.2 HJ.out.2.2.2.1).mono ?_
        rintro e w1 ⟨rfl, hb1⟩
        obtain ⟨W2, hW2⟩ : ∃ W, w1.alloc (.cells #[.int .i64 (kd : Int), .int .i64 (fr : Int), .int .i64 (te : Int), .string SN, .int .i32 rr, .bool sg] 30) = W := ⟨_, rfl⟩
        have hb2 : Below wr.heap.size wr W2 := by rw [← hW2]; exact hb1.trans ((below_new w1 _).mono hb1.size)
        have x2 : Cells W2 w1.heap.size 30 #[.int .i64 (kd : Int), .int .i64 (fr : Int), .int .i64 (te : Int), .string SN, .int .i32 rr, .bool sg] := by rw [← hW2]; exact cells_new _ _ _
        have j2 := HH.out.2.2.2.2.2.1.of_below HJ.out.2.1 hb2
        have f2 : Fr Xc none ob W W2 := HJ.out.2.2.1.trans (Fr.of_below hb2)
        obtain ⟨fn, tmps, assign, body, hy, hR⟩ := HH.out.2.2.2.2.2.2.2.2.2 pre ob t W2 j2 f2.size HJ.out.2.2.2.2.1
        rw [HJ.out.2.2.2.2.2.2.2.2.1, ← HJ.out.2.2.2.2.2.2.2.2.2] at hy
        have p0 := x2.cell 0
        have p1 := x2.cell 1
        have p2 := x2.cell 2
        have p3 := x2.cell 3
        have p4 := x2.cell 4
        have p5 := x2.cell 5
        simp at p0 p1 p2 p3 p4 p5
        have H2 := Lib.hid (And.intro x2 (And.intro f2 (And.intro hR hb1.size)))
        clear x2 f2 hR hb1 hb2 j2
        gi_wp2_with (fail)
        refine ⟨fun _ => by omega, ?_⟩
        refine H2.out.2.2.1.mono ?_
        rintro e W3 (⟨rfl, ob', j3, f3⟩ | ⟨rfl, ob', j3, f3⟩)
        · -- it goes on
          have hnX : ¬ Xc w1.heap.size := fun h => by
            have := (HH.out.2.2.2.2.1 _ h).1
            have := H2.out.2.2.2
            have := HJ.out.2.2.1.size
            omega
          have hno : ob ≠ some w1.heap.size := fun e => by
            have := HJ.out.2.2.2.2.2.1 _ e
            have := H2.out.2.2.2
            omega
          have x3 : Cells W3 w1.heap.size 30 #[.int .i64 (kd : Int), .int .i64 (fr : Int), .int .i64 (te : Int), .string SN, .int .i32 rr, .bool sg] := (f3.same _ H2.out.1.lt hnX hno).trans H2.out.1
          have f3' : Fr Xc none ob' W W3 := H2.out.2.1.trans f3
          have c3 := HH.out.2.2.1 f3'
          have KR := HH.out.2.1 f3' t (by omega) (by rw [HJ.out.2.2.2.2.2.2.2.1]; exact hte0)
          rw [HJ.out.2.2.2.2.2.2.1, HJ.out.2.2.2.2.2.2.2.2.1, ← HJ.out.2.2.2.2.2.2.2.2.2] at KR
          have q0 := x3.cell 0
          have q1 := x3.cell 1
          have q2 := x3.cell 2
          have q3 := x3.cell 3
          have q4 := x3.cell 4
          have q5 := x3.cell 5
          simp at q0 q1 q2 q3 q4 q5
          have H3 := Lib.hid (And.intro x3 (And.intro f3' (And.intro j3 (And.intro KR hnX))))
          clear x3 f3' j3 f3 KR hnX hno p0 p1 p2 p3 p4 p5 hy c0 lb
          gi_wp2_with (fail)
          refine ⟨trivial, fun _ => by omega, ?_⟩
          gi_at_call 36
          refine (callsIn_wide.2 H3.out.2.2.2.1).mono ?_
          rintro e w4 ⟨rfl, hb4⟩
          have f4 : Fr Xc none ob' W w4 := H3.out.2.1.trans (Fr.of_below hb4)
          have j4 := HH.out.2.2.2.2.2.1.of_below H3.out.2.2.1 hb4
          have x4 := H3.out.1.on hb4
          have r2 := x4.cell 2
          simp at r2
          clear q0 q1 q2 q3 q4 q5 c3
          by_cases hrw : te < RT
          · have i5 : (te : Int) < (RT : Int) := by omega
            have hrt : rawTok xs t = [⟨7, te, RT, [], 0, false⟩] := by
              unfold rawTok
              rw [HJ.out.2.2.2.2.2.2.1, HJ.out.2.2.2.2.2.2.2.1, if_pos hrw]
            have hm2 := HJ.out.1
            rw [hrt] at hm2
            have hp2 : (pre ++ [t]) ++ [⟨7, te, RT, [], 0, false⟩] <+: marksL xs 0 := by rw [hm2]; exact ⟨marksL xs RT, by simp⟩
            obtain ⟨fn, tmps, assign, body, hy, hR⟩ := HH.out.2.2.2.2.2.2.2.2.2 (pre ++ [t]) ob' ⟨7, te, RT, [], 0, false⟩ w4 j4 f4.size hp2
            replace hy : (Instr.yield l #[.agg #[.int .i64 7, .int .i64 (te : Int), .int .i64 (RT : Int), .string ⟨#[]⟩, .int .i32 0, .bool false]]).run Tryz.prog w4 = .ok (.round l fn tmps assign body) w4 := hy
            have H4 := Lib.hid (And.intro f4 (And.intro hR hm2))
            clear f4 j4 x4 hR hm2 hrt hp2 hb4 hrw
            gi_wp2_with (fail)
            refine ⟨fun _ => by omega, ?_⟩
            refine H4.out.2.1.mono ?_
            rintro e W5 (⟨rfl, ob5, j5, f5⟩ | ⟨rfl, ob5, j5, f5⟩)
            · have HE := Lib.hid (And.intro j5 (H4.out.1.trans f5))
              clear j5 f5 hy r2
              gi_wp2_with (fail)
              go_roundw
              case rel => exact ⟨RT, (pre ++ [t]) ++ [⟨7, te, RT, [], 0, false⟩], ob5, rfl, by omega, by rw [H4.out.2.2]; simp, HE.out.1, HE.out.2⟩
              case measure => simp [RowKit.intOf]; omega
            · have HE := Lib.hid (And.intro j5 (H4.out.1.trans f5))
              clear j5 f5 hy r2
              gi_wp2_with (fail)
              refine bodyPost_ret (results_none rfl _ _ _) rfl ?_
              exact ⟨⟨_, rfl⟩, ob5, HE.out.2, .inr ⟨_, by rw [H4.out.2.2]; exact ⟨marksL xs RT, by simp⟩, HE.out.1⟩⟩
          · have i5 : ¬ (te : Int) < (RT : Int) := by omega
            have hrt : rawTok xs t = [] := by
              unfold rawTok
              rw [HJ.out.2.2.2.2.2.2.1, HJ.out.2.2.2.2.2.2.2.1, if_neg hrw]
            have hm2 := HJ.out.1
            rw [hrt] at hm2
            have HE := Lib.hid (And.intro j4 (And.intro f4 hm2))
            clear f4 j4 x4 hm2 hrt hb4 hrw
            gi_wp2_with (fail)
            refine ⟨fun _ h => (by cases h), ?_⟩
            gi_wp2_with (fail)
            go_roundw
            case rel => exact ⟨RT, pre ++ [t], ob', rfl, by omega, by rw [HE.out.2.2]; simp, HE.out.1, HE.out.2.1⟩
            case measure => simp [RowKit.intOf]; omega
        · have HE := Lib.hid (And.intro j3 (H2.out.2.1.trans f3))
          clear j3 f3 hy p0 p1 p2 p3 p4 p5 c0 lb
          gi_wp2_with (fail)
          refine bodyPost_ret (results_none rfl _ _ _) rfl ?_
          exact ⟨⟨_, rfl⟩, ob', HE.out.2, .inr ⟨_, HJ.out.2.2.2.2.1, HE.out.1⟩⟩
end Go.Proofs.YtnedjafpjbfncaaGreatDoor

namespace Go.Proofs.YtnedjafpjbfncaaGreatDoor
open Go.RowKit Go.Shelf Go.Lib Go.Maps Go.Great
attribute [local irreducible] NR ZNR FR nmE

def txT (a b : Nat) : TK := ⟨0, a, b, [], 0, false⟩
def txs (a b : Nat) : List TK := if a < b then [txT a b] else []
/-- Where the last one ends. -/
def endF : Nat → List TK → Nat
  | e, [] => e
  | _, t :: r => endF t.to r
/-- The tokens with the texts ahead of each. -/
def outF : Nat → List TK → List TK
  | _, [] => []
  | e, t :: r => txs e t.fr ++ (t :: outF t.to r)
def eachL (xs : List Nat) : List TK := outF 0 (marksL xs 0) ++ txs (endF 0 (marksL xs 0)) xs.length
theorem endF_snoc (x : TK) : ∀ (l : List TK) (e : Nat), endF e (l ++ [x]) = x.to
  | [], _ => rfl
  | t :: r, _ => endF_snoc x r t.to
theorem outF_append (m : List TK) : ∀ (l : List TK) (e : Nat), outF e (l ++ m) = outF e l ++ outF (endF e l) m
  | [], _ => rfl
  | t :: r, e => by
    show txs e t.fr ++ (t :: outF t.to (r ++ m)) = (txs e t.fr ++ (t :: outF t.to r)) ++ outF (endF t.to r) m
    rw [outF_append m r t.to]
    simp
theorem outF_snoc (x : TK) (l : List TK) (e : Nat) : outF e (l ++ [x]) = outF e l ++ txs (endF e l) x.fr ++ [x] := by
  rw [outF_append]
  simp [outF]
theorem outF_prefix {p q : List TK} (h : p <+: q) (e : Nat) : outF e p <+: outF e q := by
  obtain ⟨r, rfl⟩ := h
  rw [outF_append]
  exact List.prefix_append _ _
theorem outF_eachL {p : List TK} {xs : List Nat} (h : p <+: marksL xs 0) : outF 0 p <+: eachL xs := (outF_prefix h 0).trans (List.prefix_append _ _)
/-- Facts of the tokens' places. -/
theorem marksL_mem {xs : List Nat} : ∀ (d k : Nat), xs.length - k = d → ∀ x ∈ marksL xs k, x.fr ≤ x.to ∧ x.to ≤ xs.length ∧ k ≤ x.fr ∧ x.kind < 8 := by
  intro d
  induction d using Nat.strongRecOn with
  | _ d ih =>
    intro k hd x hx
    by_cases h : k < xs.length
    case neg => rw [marksL_end h] at hx; cases hx
    case pos =>
      cases hm : markT xs k with
      | none =>
        rw [marksL_none h hm] at hx
        have := ih (xs.length - (k + 1)) (by omega) (k + 1) rfl x hx
        omega
      | some t =>
        rw [marksL_some h hm] at hx
        have h1 := mark_to (by omega) hm
        have h2 := rawT_le (xs := xs) (x := t) h1.2.2.1
        rcases List.mem_cons.1 hx with rfl | hx
        · omega
        · rcases List.mem_append.1 hx with hx | hx
          · unfold rawTok at hx
            split at hx
            · rw [List.mem_singleton] at hx
              subst hx
              exact ⟨by show t.to ≤ rawT xs t; omega, by show rawT xs t ≤ _; omega, by show k ≤ t.to; omega, by show 7 < 8; omega⟩
            · cases hx
          · have := ih (xs.length - rawT xs t) (by omega) (rawT xs t) rfl x hx
            omega
theorem endF_le {xs : List Nat} {B : Nat} : ∀ (l : List TK) (e : Nat), (∀ x ∈ l, x.to ≤ B) → e ≤ B → endF e l ≤ B
  | [], _, _, h => h
  | t :: r, _, h, _ => endF_le (xs := xs) r t.to (fun x hx => h x (List.mem_cons_of_mem _ hx)) (h t List.mem_cons_self)
theorem room_of_none {F : Fence} (hd : F.depth = none) (k : Nat) : F.room k := fun d h => by rw [hd] at h; cases h
theorem round_any {F : Fence} (hd : F.depth = none) {m m' : Nat} {P : Program} {l lo : Nat} {f : FuncId} {tmps : Array Value} {assign body : Code} {w : World} {R : Ending → World → Prop}
    (h : RoundIn F m P l f tmps assign body w R) : RoundIn (F.inRound lo) m' P l f tmps assign body w R := ⟨h.1, fun c cs _ => h.2 c cs (room_of_none hd _)⟩
theorem calls_any {m m' : Nat} {P : Program} {f : FuncId} {args : Array Value} {w : World} {R : Ending → World → Prop} (h : CallsIn Fence.wide m P f args w R) : CallsIn Fence.wide m' P f args w R := callsIn_wide.2 (callsIn_wide.1 h)
theorem HandsT.anyN {n gf : Nat} {lb : Array Value} {xs : List TK} {X : Nat → Prop} {w : World} (h : HandsT n gf lb xs X w) (n' : Nat) : HandsT n' gf lb xs X w :=
  fun l Xc J Jx W h1 h2 h3 h4 h5 h6 hY h0 => calls_any (h l Xc J Jx W h1 h2 h3 h4 h5 h6 (fun pre ob x W1 a b c => by
    obtain ⟨fn, tmps, assign, body, hy, hR⟩ := hY pre ob x W1 a b c
    exact ⟨fn, tmps, assign, body, hy, round_any (lo := 0) rfl hR⟩) h0)
/-- A region that draws, its operations and what stands behind it under names. -/
theorem wpIn_region_named {F : Fence} {n : Nat} {P : Program} {id : Nat} {ops : Array Oper} {Q : Exit → Act → World → Prop} {a : Act} {w : World} (hm : P.follows .mixedOrders = true)
    (h : ∀ (O : Array Oper) (K : Exit → Act → World → Prop), O = ops → K = Q → wpAnyIn F n P .any O K ops.size (Array.replicate ops.size false) a w.drew) : (Code.region id ops true).wpIn F n P Q a w :=
  wpIn_region_any hm (h ops Q rfl rfl)
theorem Fr.outer {X X' : Nat → Prop} {ob : Option Nat} {W W3 V : World} (b : Below W.heap.size W W3) (h : Fr X' none ob W3 V) (hx : ∀ k, k < W.heap.size → ¬ X k → ¬ X' k) : Fr X none ob W V :=
  ⟨h.os.trans b.os, h.tape.trans b.tape, h.output.trans b.output, Nat.le_trans b.size h.size, fun k hk hn _ => (h.same k (Nat.lt_of_lt_of_le hk b.size) (hx k hk hn) (by simp)).trans (b.block k hk), by
    rcases h.ob with e | ⟨k, e, h1, h2⟩
    · exact .inl e
    · exact .inr ⟨k, e, Nat.le_trans b.size h1, h2⟩⟩
theorem Fr.putl {X : Nat → Prop} {ob : Option Nat} {W V : World} (h : Fr X none ob W V) (l : Nat) (o : Obj) (hl : W.heap.size ≤ l) : Fr X none ob W (V.putObj l o) :=
  ⟨h.os, h.tape, h.output, by simpa [World.putObj] using h.size, fun k hk hn ho => (World.putObj_heap_other (by omega)).trans (h.same k hk hn ho), by
    rcases h.ob with e | ⟨k, e, h1, h2⟩
    · exact .inl e
    · exact .inr ⟨k, e, h1, by simpa [World.putObj] using h2⟩⟩
theorem Stab.setc {S : Nat} {J : List TK → Option Nat → World → Prop} (h : Stab S J) {pre : List TK} {ob : Option Nat} {W : World} (hj : J pre ob W) (b i : Nat) (v : Value) (hl : S ≤ b) (ho : ob ≠ some b) : J pre ob (W.setCell ⟨b, i, none⟩ v) :=
  h pre ob W _ hj rfl rfl rfl (by simp [World.setCell]) fun k _ hc => Below.heap_setCell _ _ _ _ (fun e => by
    subst e
    rcases hc with hc | hc
    · omega
    · exact ho hc)
theorem Fr.setc {X : Nat → Prop} {ob : Option Nat} (W : World) (b i : Nat) (v : Value) (hl : X b) : Fr X ob ob W (W.setCell ⟨b, i, none⟩ v) :=
  ⟨rfl, rfl, rfl, by simp [World.setCell], fun k _ hx _ => Below.heap_setCell _ _ _ _ (fun e => hx (by subst e; exact hl)), .inl rfl⟩
set_option maxHeartbeats 4000000 in
set_option maxRecDepth 100000 in
theorem each_any (A : Option Addr) (m c : Nat) (w : World) : Calls Tryz.prog 17 #[.slice A m c] w fun e w' => e = .returned (.func (Fn.func 22) #[] #[.pointer (some ⟨w.heap.size, 0, none⟩)]) ∧ w' = w.alloc (.cells #[.slice A m c] 22) := by
  go_enter Tryz.func17, Tryz.ntmps17
  go_wp2_with fail
  go_ret
  exact ⟨rfl, rfl⟩
end Go.Proofs.YtnedjafpjbfncaaGreatDoor

