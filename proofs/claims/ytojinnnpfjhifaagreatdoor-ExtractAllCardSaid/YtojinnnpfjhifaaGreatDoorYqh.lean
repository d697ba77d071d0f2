/-
  
  
  
  
  
  
  
  
  
  
  
-/
import Derived.Test.YtojinnnpfjhifaaGreatDoorYqg
import Derived.WalkKit
import Derived.BigQuiet
import Derived.Deep.QuietTactic
import Derived.Outline
import Derived.Lib.Hide
import Derived.Below
import Derived.Lib.DecodeNEq
import Derived.Shelf.SlicesE.Clone
import Derived.Laws.IdiomStrings
import Derived.Laws.OwnMore
import Derived.OwnWalk
import Derived.RangeFuncRecord
import Derived.RangeFuncBox
import Derived.Deep.AppendLies
import Derived.Test.YtojinnnpfjhifaaGreatDoorProg
import Derived.Lib.QuietBelow
import Derived.StillTailTactics
import Derived.Maps.OwnOps
import Derived.Maps.OwnSet
import Derived.Maps.Views
import Derived.BigRegion
import Derived.Deep.RegionLaw
import Derived.Laws.AppendOwnNone
import Derived.Deep.Slices
import Derived.Lib.Split
import Derived.Lib.IndexMore
import Derived.Lib.RuneBytes
import Derived.Lib.Small
import Derived.Great.Walk
import Derived.Laws.Rows
import Derived.Laws.Tables
import Derived.Shelf.Bytes.SlSmallAll
import Derived.ArgAppend
import Derived.Lib.UnsafeStr
import Derived.Test.YtojinnnpfjhifaaGreatDoorYqb
namespace Go.Proofs.YtojinnnpfjhifaaGreatDoor.G
open Go.RowKit Go.Shelf Go.Lib Go.Maps Go.Sort
theorem ref_cons (N k : Nat) (s : RS) (c : Nat) (t : List Nat) : (∃ u, refStep s c = (u, true) ∧ refGo N k s (c :: t) = ⟨k, N - t.length, u.tn, u.«atl», u.slash, true⟩) ∨ (∃ u, refStep s c = (u, false) ∧ refGo N k s (c :: t) = refGo N k u t) := by
 cases h : refStep s c with
 | mk u e =>
  cases e with
  | true => exact .inl ⟨u, rfl, ref_end h⟩
  | false => exact .inr ⟨u, rfl, ref_on h⟩
theorem ref_size_ge (N k : Nat) : ∀ (l : List Nat) (s : RS), N - l.length ≤ (refGo N k s l).size
 | [], s => by show N - 0 ≤ N; omega
 | c :: t, s => by
  rcases ref_cons N k s c t with ⟨u, _, h⟩ | ⟨u, _, h⟩
  ·rw [h]; simp; omega
  ·rw [h]
   have := ref_size_ge N k t u
   simp
   omega
theorem ref_closed (N k : Nat) (more : List Nat) : ∀ (l : List Nat) (s : RS), (refGo N k s l).closed = true → refGo (N + more.length) k s (l ++ more) = refGo N k s l ∧ (refGo N k s l).size ≤ N ∧ N - l.length + (if N < l.length then 0 else 1) ≤ (refGo N k s l).size
 | [], s, h => by cases h
 | c :: t, s, h => by
  rcases ref_cons N k s c t with ⟨u, hu, e⟩ | ⟨u, hu, e⟩
  ·rw [e]
   refine ⟨?_, by simp, by simp; split <;> omega⟩
   rw [List.cons_append, ref_end hu]
   congr 1
   simp
   omega
  ·rw [e] at h ⊢
   obtain ⟨h1, h2, h3⟩ := ref_closed N k more t u h
   refine ⟨?_, h2, ?_⟩
   ·rw [List.cons_append, ref_on hu]; exact h1
   ·simp
    split at h3 <;> split <;> omega
theorem ref_open (N k : Nat) (more : List Nat) : ∀ (l : List Nat) (s : RS), (refGo N k s l).closed = false → (refGo N k s l).size = N ∧ (refGo N k s l).single = false ∧ N ≤ (refGo (N + more.length) k s (l ++ more)).size
 | [], s, h => by
  refine ⟨rfl, rfl, ?_⟩
  have := ref_size_ge (N + more.length) k more s
  simp at this ⊢
  omega
 | c :: t, s, h => by
  rcases ref_cons N k s c t with ⟨u, hu, e⟩ | ⟨u, hu, e⟩
  ·rw [e] at h; cases h
  ·rw [e] at h ⊢
   rw [List.cons_append, ref_on hu]
   exact ref_open N k more t u h
theorem up_size_ge (N k : Nat) (e : List Nat) : ∀ (l : List Nat), N - l.length ≤ (upGo N k e l).size
 | [] => by show N - 0 ≤ N; omega
 | c :: t => by
  rw [upGo]
  split
  ·simp
  ·have := up_size_ge N k e t
   simp
   omega
theorem up_len (N k : Nat) (e : List Nat) : ∀ (l : List Nat), (upGo N k e l).closed = true → e.length ≤ l.length
 | [], h => by cases h
 | c :: t, h => by
  rw [upGo] at h
  split at h
  ·rename_i hp
   exact (List.isPrefixOf_iff_prefix.1 hp).length_le
  ·have := up_len N k e t h
   simp
   omega
theorem prefix_more {e l more : List Nat} (h : e.length ≤ l.length) : e.isPrefixOf (l ++ more) = e.isPrefixOf l := by
 rw [Bool.eq_iff_iff, List.isPrefixOf_iff_prefix, List.isPrefixOf_iff_prefix]
 constructor
 ·intro hp
  exact List.prefix_of_prefix_length_le hp (List.prefix_append l more) h
 ·intro hp
  exact hp.trans (List.prefix_append l more)
theorem up_closed (N k : Nat) (e more : List Nat) : ∀ (l : List Nat), l.length ≤ N → (upGo N k e l).closed = true → upGo (N + more.length) k e (l ++ more) = upGo N k e l ∧ (upGo N k e l).size ≤ N ∧ N - l.length + e.length ≤ (upGo N k e l).size
 | [], _, h => by cases h
 | c :: t, hN, h => by
  have hl := up_len N k e (c :: t) h
  have hp := prefix_more (more := more) hl
  simp at hN hl
  rw [upGo] at h
  rw [List.cons_append] at hp ⊢
  rw [upGo, upGo, hp]
  by_cases hh : e.isPrefixOf (c :: t) = true
  ·rw [if_pos hh, if_pos hh]
   refine ⟨?_, by simp; omega, by simp⟩
   congr 1
   simp
   omega
  ·rw [if_neg hh] at h ⊢
   rw [if_neg hh]
   obtain ⟨h1, h2, h3⟩ := up_closed N k e more t (by omega) h
   exact ⟨h1, h2, by simp; omega⟩
theorem up_open (N k : Nat) (e more : List Nat) : ∀ (l : List Nat), l.length ≤ N → (upGo N k e l).closed = false → (upGo N k e l).size = N ∧ N ≤ (upGo (N + more.length) k e (l ++ more)).size
 | [], _, _ => by
  refine ⟨rfl, ?_⟩
  have := up_size_ge (N + more.length) k e more
  simp at this ⊢
  omega
 | c :: t, hN, h => by
  simp at hN
  rw [upGo] at h ⊢
  by_cases hh : e.isPrefixOf (c :: t) = true
  ·rw [if_pos hh] at h; cases h
  ·rw [if_neg hh] at h ⊢
   obtain ⟨h1, h2⟩ := up_open N k e more t (by omega) h
   refine ⟨h1, ?_⟩
   rw [List.cons_append, upGo]
   split
   ·rename_i hp
    have : ¬ e.length ≤ (c :: t).length := fun hle => hh (by rw [← prefix_more (more := more) hle]; exact hp)
    simp at this ⊢
    omega
   ·exact h2
def GrowOk (n : Nat) (O U : Option TG) : Prop :=
 (O = none ∧ (n < 2 ∨ U = none)) ∨ ∃ T V, O = some T ∧ U = some V ∧ T.size ≤ n ∧ 2 ≤ T.size ∧
  ((T.closed = true ∧ V = T) ∨ (T.closed = false ∧ T.size = n ∧ n ≤ V.size ∧ T.single = false))
theorem grow_ref (N k : Nat) (more l : List Nat) (s : RS) (hN : l.length + 1 ≤ N) (h2 : 2 ≤ N) : GrowOk N (some (refGo N k s l)) (some (refGo (N + more.length) k s (l ++ more))) := by
 refine .inr ⟨_, _, rfl, rfl, ?_⟩
 cases h : (refGo N k s l).closed with
 | true =>
  obtain ⟨h1, h3, h4⟩ := ref_closed N k more l s h
  rw [if_neg (by omega)] at h4
  exact ⟨h3, by omega, .inl ⟨rfl, h1⟩⟩
 | false =>
  obtain ⟨h1, h3, h4⟩ := ref_open N k more l s h
  exact ⟨by omega, by omega, .inr ⟨rfl, h1, h4, h3⟩⟩
theorem grow_up (N k : Nat) (e more l : List Nat) (hN : l.length + 2 ≤ N) (he : 1 ≤ e.length) : GrowOk N (some (upGo N k e l)) (some (upGo (N + more.length) k e (l ++ more))) := by
 refine .inr ⟨_, _, rfl, rfl, ?_⟩
 have hs := (upGo_plain N k e l).2.2
 cases h : (upGo N k e l).closed with
 | true =>
  obtain ⟨h1, h3, h4⟩ := up_closed N k e more l (by omega) h
  exact ⟨h3, by omega, .inl ⟨rfl, h1⟩⟩
 | false =>
  obtain ⟨h1, h4⟩ := up_open N k e more l (by omega) h
  exact ⟨by omega, by omega, .inr ⟨rfl, h1, h4, hs⟩⟩
theorem grow_any (N k _M : Nat) (e l : List Nat) (V : TG) (hN : l.length + 2 ≤ N) (hc : (upGo N k e l).closed = false) (hV : N ≤ V.size) : GrowOk N (some (upGo N k e l)) (some V) := by
 obtain ⟨h1, _⟩ := up_open N k e [] l (by omega) hc
 exact .inr ⟨_, _, rfl, rfl, by omega, by omega, .inr ⟨hc, h1, hV, (upGo_plain N k e l).2.2⟩⟩
theorem grow_rd (b more : List Nat) : GrowOk b.length (rdT b) (rdT (b ++ more)) := by
 match b with
 | [] => exact .inl ⟨rfl, .inl (by simp)⟩
 | [d] => exact .inl ⟨rfl, .inl (by simp)⟩
 | d :: c :: t =>
  have hl : (d :: c :: t).length = t.length + 2 := rfl
  rw [hl]
  have hm : (t ++ more).length + 2 = t.length + 2 + more.length := by simp; omega
  by_cases hd : d = 60
  case neg => exact .inl ⟨by simp [rdT, hd], .inr (by simp [rdT, hd])⟩
  subst hd
  by_cases hc : ltrB c = true
  ·have e1 : rdT (60 :: c :: t) = some (refGo (t.length + 2) 0 rs0 (c :: t)) := by simp [rdT, hc]
   have e2 : rdT (60 :: c :: t ++ more) = some (refGo (t.length + 2 + more.length) 0 rs0 (c :: t ++ more)) := by
    show rdT (60 :: c :: (t ++ more)) = _
    simp only [rdT, hc, ne_eq, not_true_eq_false, if_false, if_true]
    rw [hm]
    rfl
   rw [e1, e2]
   exact grow_ref _ _ _ _ _ (by simp) (by omega)
  have hcf : ltrB c = false := by simpa using hc
  have R : ∀ u, rdT (60 :: c :: u) = if c = 47 ∧ (u.head?.map ltrB) = some true then some (refGo (u.length + 2) 1 rs0 u)
    else if c = 33 ∧ u.take 2 = [45, 45] then some (upGo (u.length + 2) 2 [45, 45, 62] (u.drop 2))
    else if c = 33 ∨ c = 63 ∨ c = 47 then some (upGo (u.length + 2) 3 [62] u) else none := fun u => by
   simp only [rdT, hcf, ne_eq, not_true_eq_false, if_false, Bool.false_eq_true]
  have Rm : rdT (60 :: c :: t ++ more) = _ := R (t ++ more)
  rw [Rm, R, hm]
  by_cases h1 : c = 47 ∧ (t.head?.map ltrB) = some true
  ·have h1' : c = 47 ∧ ((t ++ more).head?.map ltrB) = some true := ⟨h1.1, by
    cases t with
    | nil => simp at h1
    | cons a u => exact h1.2⟩
   rw [if_pos h1, if_pos h1']
   exact grow_ref _ _ _ _ _ (by omega) (by omega)
  rw [if_neg h1]
  by_cases h2 : c = 33 ∧ t.take 2 = [45, 45]
  ·have h1' : ¬ (c = 47 ∧ ((t ++ more).head?.map ltrB) = some true) := fun h => by omega
   have h2l : 2 ≤ t.length := by have := congrArg List.length h2.2; simp at this; omega
   have h2' : c = 33 ∧ (t ++ more).take 2 = [45, 45] := ⟨h2.1, by rw [List.take_append_of_le_length h2l]; exact h2.2⟩
   rw [if_pos h2, if_neg h1', if_pos h2', List.drop_append_of_le_length h2l]
   exact grow_up _ _ _ _ _ (by simp) (by simp)
  rw [if_neg h2]
  by_cases h3 : c = 33 ∨ c = 63 ∨ c = 47
  case neg =>
   rw [if_neg h3]
   refine .inl ⟨rfl, .inr ?_⟩
   rw [if_neg (fun h => h3 (.inr (.inr h.1))), if_neg (fun h => h3 (.inl h.1)), if_neg h3]
  rw [if_pos h3]
  by_cases h1' : c = 47 ∧ ((t ++ more).head?.map ltrB) = some true
  ·have ht : t = [] := by
    cases t with
    | nil => rfl
    | cons a u => exact absurd ⟨h1'.1, h1'.2⟩ h1
   subst ht
   rw [if_pos h1']
   refine grow_any _ _ 0 _ _ _ (by simp) rfl ?_
   have := ref_size_ge (0 + 2 + more.length) 1 more rs0
   simp at this ⊢
   omega
  rw [if_neg h1']
  by_cases h2' : c = 33 ∧ (t ++ more).take 2 = [45, 45]
  ·rw [if_pos h2']
   have hlt : t.length < 2 := by
    apply Nat.lt_of_not_le
    intro h
    rw [List.take_append_of_le_length h] at h2'
    exact h2 h2'
   have hge := up_size_ge (t.length + 2 + more.length) 2 [45, 45, 62] ((t ++ more).drop 2)
   have hlm : 2 ≤ (t ++ more).length := by have := congrArg List.length h2'.2; simp at this ⊢; omega
   refine grow_any _ _ 0 _ _ _ (by omega) ?_ ?_
   ·match t, hlt with
    | [], _ => rfl
    | [a], _ =>
     have : a = 45 := by
      have := congrArg List.head? h2'.2
      simp at this
      exact this
     subst this
     rfl
   ·simp at hge hlm ⊢
    omega
  rw [if_neg h2', if_pos h3]
  exact grow_up _ _ _ _ _ (by omega) (by simp)
end Go.Proofs.YtojinnnpfjhifaaGreatDoor.G

namespace Go.Proofs.YtojinnnpfjhifaaGreatDoor
open Go.RowKit Go.Shelf Go.Lib Go.Maps
set_option maxHeartbeats 1000000 in
set_option maxRecDepth 100000 in
theorem below_drewN {B : Nat} {a w : World} (h : Below B a w) (n : Nat) : Below B a (w.drewN n) := ⟨h.os, h.tape, h.output, h.size, h.block⟩
theorem ret_bool {a b : Bool} (h : a = b) : Ending.returned (.bool a) = .returned (.bool b) := by rw [h]
theorem add0 (g j : Nat) : (Addr.mk g 0 none).add j = ⟨g, j, none⟩ := by
 unfold Addr.add
 by_cases h : j = 0 <;> simp [h]
def Cells (W : World) (g t : Nat) (cs : Array Value) : Prop := W.heap[g]? = some (.cells cs t (0, 0))
theorem Cells.lt {W : World} {g t : Nat} {cs : Array Value} (h : Cells W g t cs) : g < W.heap.size := (Array.getElem?_eq_some_iff.1 h).1
theorem Cells.cell {W : World} {g t : Nat} {cs : Array Value} (h : Cells W g t cs) (i : Nat) : W.cell? ⟨g, i, none⟩ = cs[i]? := by
 simp [World.cell?, show W.heap[g]? = _ from h]
theorem own_block_lt {w : World} {base e size n : Nat} {v : Value} {xs : List Value} (h : w.ownsRow base e size v n xs) : ∀ k, v.ownBlock = some k → base ≤ k ∧ k < w.heap.size := by
 rcases h.2 with ⟨rfl, _⟩ | ⟨g, cap, cur, rfl, hb, hh, _⟩
 ·intro k e; simp [Value.ownBlock] at e
 ·intro k e
  obtain rfl : g = k := by simpa [Value.ownBlock] using e
  exact ⟨hb, (Array.getElem?_eq_some_iff.1 hh).1⟩
theorem grown_of_below {A B : World} (h : Below A.heap.size A B) : A.grownBy B none := ⟨h.os, h.tape, h.output, h.size, fun k hk _ => h.block k hk⟩
theorem ownsRow_below {w w' : World} {base e size n : Nat} {v : Value} {xs : List Value} (h : w.ownsRow base e size v n xs) (hb : Below w.heap.size w w') : w'.ownsRow base e size v n xs :=
 h.kept (grown_of_below hb) (by cases v.ownBlock <;> simp)
def i64 (n : Int) : Prop := -9223372036854775808 ≤ n ∧ n ≤ 9223372036854775807
theorem below_new (w : World) (o : Obj) : Below w.heap.size w (w.alloc o) := (Below.refl _ _).alloc (Nat.le_refl _) o
theorem cells_new (w : World) (cs : Array Value) (t : Nat) : Cells (w.alloc (.cells cs t)) w.heap.size t cs := World.alloc_heap_new w _
theorem Cells.froz {W : World} {g t : Nat} {cs : Array Value} (h : Cells W g t cs) (i : Nat) : W.frozen? ⟨g, i, none⟩ = false := by
 simp [World.frozen?, show W.heap[g]? = _ from h]
theorem Cells.set {W : World} {g t : Nat} {cs : Array Value} (h : Cells W g t cs) (i : Nat) (v : Value) : Cells (W.setCell ⟨g, i, none⟩ v) g t (cs.setIfInBounds i v) := by
 unfold Cells World.setCell
 simp only [Array.getElem?_modify, if_true]
 rw [show W.heap[g]? = _ from h]
 rfl
theorem cell_lt {w : World} {a : Addr} {v : Value} (h : w.cell? a = some v) : a.block < w.heap.size := by
 unfold World.cell? at h
 cases hb : w.heap[a.block]? with
 | none => simp [hb] at h
 | some x => exact (Array.getElem?_eq_some_iff.1 hb).1
structure IS (w : World) (B : Nat) (xs : List Int) (A : Option Addr) (cap : Nat) : Prop where
 l : xs.length ≤ cap
 m : cap ≤ maxLen
 i : ∀ x ∈ xs, i64 x
 r : xs ≠ [] → ∃ b o, A = some ⟨b, o, none⟩ ∧ b < B ∧ ∀ i x, xs[i]? = some x → w.cell? ⟨b, o + i, none⟩ = some (.int .i64 x)
theorem IS.below {w w' : World} {B : Nat} {xs : List Int} {A : Option Addr} {cap : Nat} (h : IS w B xs A cap) (hb : Below B w w') : IS w' B xs A cap :=
 ⟨h.l, h.m, h.i, fun hne => by
  obtain ⟨b, o, rfl, hl, hr⟩ := h.r hne
  exact ⟨b, o, rfl, hl, fun i x hx => (hb.cell (p := ⟨b, _, none⟩) hl).trans (hr i x hx)⟩⟩
theorem IS.mono {w : World} {B B' : Nat} {xs : List Int} {A : Option Addr} {cap : Nat} (h : IS w B xs A cap) (hB : B ≤ B') : IS w B' xs A cap :=
 ⟨h.l, h.m, h.i, fun hne => by
  obtain ⟨b, o, rfl, hl, hr⟩ := h.r hne
  exact ⟨b, o, rfl, by omega, hr⟩⟩
theorem IS.on {w w' : World} {xs : List Int} {A : Option Addr} {cap : Nat} (h : IS w w.heap.size xs A cap) (hb : Below w.heap.size w w') : IS w' w'.heap.size xs A cap := (h.below hb).mono hb.size
def intsC (l : List Int) : List Value := l.map fun x => Value.int .i64 x
def OwnI (w : World) (base : Nat) (l : List Int) (v : Value) : Prop := w.ownsRow base 3 1 v l.length (intsC l)
theorem OwnI.is {w : World} {base : Nat} {l : List Int} {v : Value} (h : OwnI w base l v) (hl : ∀ x ∈ l, i64 x) : ∃ A cap, v = .slice A l.length cap ∧ IS w w.heap.size l A cap ∧ (A = none → cap = 0) := by
 rcases h.2 with ⟨h1, h2⟩ | ⟨g, cap, cur, h1, h2, h3, h4, h5, h6, h7⟩
 ·have hn : l = [] := List.eq_nil_of_length_eq_zero h2
  subst hn
  exact ⟨none, 0, by rw [h1]; rfl, ⟨Nat.le_refl _, by unfold maxLen; omega, (fun x hx => absurd hx (by simp)), (fun hn => absurd rfl hn)⟩, fun _ => rfl⟩
 ·refine ⟨_, cap, h1, ⟨h4, h5, hl, fun _ => ⟨g, 0, rfl, (Array.getElem?_eq_some_iff.1 h3).1, fun i x hx => ?_⟩⟩, fun e => by cases e⟩
  have hc := World.ownsRow.cells h (g := g) (by rw [h1]; rfl) i (.int .i64 x) (by simp [intsC, hx])
  rw [add0] at hc
  rw [Nat.zero_add]; exact hc
theorem OwnI.below {w w' : World} {base : Nat} {l : List Int} {v : Value} (h : OwnI w base l v) (hb : Below w.heap.size w w') : OwnI w' base l v := ownsRow_below h hb
structure Fz (X : Nat → Prop) (w w' : World) : Prop where
 os : w'.os = w.os
 tape : w'.tape = w.tape
 output : w'.output = w.output
 size : w.heap.size ≤ w'.heap.size
 block : ∀ k, k < w.heap.size → ¬ X k → w'.heap[k]? = w.heap[k]?
theorem Fz.refl (X : Nat → Prop) (w : World) : Fz X w w := ⟨rfl, rfl, rfl, Nat.le_refl _, fun _ _ _ => rfl⟩
theorem Fz.trans {X : Nat → Prop} {a b c : World} (h : Fz X a b) (k : Fz X b c) : Fz X a c :=
 ⟨k.os.trans h.os, k.tape.trans h.tape, k.output.trans h.output, Nat.le_trans h.size k.size, fun i hi hn => (k.block i (Nat.lt_of_lt_of_le hi h.size) hn).trans (h.block i hi hn)⟩
theorem Fz.of_below {X : Nat → Prop} {a b : World} (h : Below a.heap.size a b) : Fz X a b := ⟨h.os, h.tape, h.output, h.size, fun k hk _ => h.block k hk⟩
theorem Fz.of_grown {X : Nat → Prop} {a b : World} {o : Option Nat} (h : a.grownBy b o) (hx : ∀ k, o = some k → X k) : Fz X a b :=
 ⟨h.os, h.tape, h.output, h.size, fun k hk hn => h.block k hk (fun e => hn (hx k e.symm))⟩
theorem Fz.mono {X Y : Nat → Prop} {a b : World} (h : Fz X a b) (hxy : ∀ k, X k → Y k) : Fz Y a b := ⟨h.os, h.tape, h.output, h.size, fun k hk hn => h.block k hk (fun hx => hn (hxy k hx))⟩
theorem Fz.below {X : Nat → Prop} {a b : World} {B : Nat} (h : Fz X a b) (hB : B ≤ a.heap.size) (hX : ∀ k, k < B → ¬ X k) : Below B a b := ⟨h.os, h.tape, h.output, h.size, fun k hk => h.block k (by omega) (hX k hk)⟩
theorem Fz.set {X : Nat → Prop} (w : World) (b i : Nat) (v : Value) (hb : X b) : Fz X w (w.setCell ⟨b, i, none⟩ v) :=
 ⟨rfl, rfl, rfl, by simp, fun k _ hn => by
  have : b ≠ k := fun e => hn (e ▸ hb)
  simp [World.setCell, Array.getElem?_modify, this]⟩
theorem below_grown' {w w' : World} {B e n : Nat} {v : Value} {xs : List Value} (hg : w.grownBy w' v.ownBlock) (ho : w.ownsRow B e 1 v n xs) (hB : B ≤ w.heap.size) : Below B w w' :=
 ⟨hg.os, hg.tape, hg.output, hg.size, fun k hk => hg.block k (by omega) (fun h => by have := (own_block_lt ho k h.symm).1; omega)⟩
structure RsAt (w : World) (B : Nat) (R : List (List Int)) (A : Option Addr) (cap : Nat) : Prop where
 l : R.length ≤ cap
 m : cap ≤ maxLen
 z : A = none → cap = 0
 r : R ≠ [] → ∃ b o, A = some ⟨b, o, none⟩ ∧ b < B ∧ ∀ (i : Nat) (r : List Int), R[i]? = some r → ∃ A' c', w.cell? ⟨b, o + i, none⟩ = some (.slice A' r.length c') ∧ IS w B r A' c' ∧ (A' = none → c' = 0)
theorem RsAt.below {w w' : World} {B : Nat} {R : List (List Int)} {A : Option Addr} {cap : Nat} (h : RsAt w B R A cap) (hb : Below B w w') : RsAt w' B R A cap :=
 ⟨h.l, h.m, h.z, fun hne => by
  obtain ⟨b, o, rfl, hl, hr⟩ := h.r hne
  exact ⟨b, o, rfl, hl, fun i r hx => by
   obtain ⟨A', c', h1, h2, h3⟩ := hr i r hx
   exact ⟨A', c', (hb.cell (p := ⟨b, _, none⟩) hl).trans h1, h2.below hb, h3⟩⟩⟩
theorem RsAt.mono {w : World} {B B' : Nat} {R : List (List Int)} {A : Option Addr} {cap : Nat} (h : RsAt w B R A cap) (hB : B ≤ B') : RsAt w B' R A cap :=
 ⟨h.l, h.m, h.z, fun hne => by
  obtain ⟨b, o, rfl, hl, hr⟩ := h.r hne
  exact ⟨b, o, rfl, by omega, fun i r hx => by
   obtain ⟨A', c', h1, h2, h3⟩ := hr i r hx
   exact ⟨A', c', h1, h2.mono hB, h3⟩⟩⟩
theorem RsAt.on {w w' : World} {R : List (List Int)} {A : Option Addr} {cap : Nat} (h : RsAt w w.heap.size R A cap) (hb : Below w.heap.size w w') : RsAt w' w'.heap.size R A cap := (h.below hb).mono hb.size
structure UsAt (w : World) (B : Nat) (T : List Nat) (A : Option Addr) (cap : Nat) : Prop where
 l : T.length ≤ cap
 m : cap ≤ maxLen
 z : A = none → cap = 0
 i : ∀ x ∈ T, x < 18446744073709551616
 r : T ≠ [] → ∃ b o, A = some ⟨b, o, none⟩ ∧ b < B ∧ ∀ (i : Nat) (x : Nat), T[i]? = some x → w.cell? ⟨b, o + i, none⟩ = some (.int .u64 (x : Int))
theorem UsAt.below {w w' : World} {B : Nat} {T : List Nat} {A : Option Addr} {cap : Nat} (h : UsAt w B T A cap) (hb : Below B w w') : UsAt w' B T A cap :=
 ⟨h.l, h.m, h.z, h.i, fun hne => by
  obtain ⟨b, o, rfl, hl, hr⟩ := h.r hne
  exact ⟨b, o, rfl, hl, fun i x hx => (hb.cell (p := ⟨b, _, none⟩) hl).trans (hr i x hx)⟩⟩
theorem UsAt.mono {w : World} {B B' : Nat} {T : List Nat} {A : Option Addr} {cap : Nat} (h : UsAt w B T A cap) (hB : B ≤ B') : UsAt w B' T A cap :=
 ⟨h.l, h.m, h.z, h.i, fun hne => by
  obtain ⟨b, o, rfl, hl, hr⟩ := h.r hne
  exact ⟨b, o, rfl, by omega, hr⟩⟩
theorem UsAt.on {w w' : World} {T : List Nat} {A : Option Addr} {cap : Nat} (h : UsAt w w.heap.size T A cap) (hb : Below w.heap.size w w') : UsAt w' w'.heap.size T A cap := (h.below hb).mono hb.size
theorem own_fz {w w' : World} {X : Nat → Prop} {B e z n : Nat} {u : Value} {xs : List Value} (hf : Fz X w w') (ho : w.ownsRow B e z u n xs) (hn : ∀ k, X k → u.ownBlock ≠ some k) : w'.ownsRow B e z u n xs := by
 refine ⟨ho.1, ?_⟩
 rcases ho.2 with h0 | ⟨g, cap, cur, h1, h2, h3, rest⟩
 ·exact .inl h0
 ·exact .inr ⟨g, cap, cur, h1, h2, (hf.block g (Array.getElem?_eq_some_iff.1 h3).1 (fun hx => hn g hx (by rw [h1]; rfl))).trans h3, rest⟩
theorem Cells.on {W W' : World} {g t : Nat} {cs : Array Value} (h : Cells W g t cs) (hb : Below W.heap.size W W') : Cells W' g t cs := (hb.block _ h.lt).trans h
end Go.Proofs.YtojinnnpfjhifaaGreatDoor

namespace Go.Proofs.YtojinnnpfjhifaaGreatDoor
open Go.RowKit Go.Shelf Go.Lib Go.Maps
structure Esc where
 size : Nat
 whole : Bool
 op : Bool
 last : Nat
def escNone : Esc := ⟨0, false, false, 0⟩
def inR (lo hi c : Nat) : Bool := decide (lo ≤ c) && decide (c ≤ hi)
def skipN (lo hi : Nat) : List Nat → Nat
 | [] => 0
 | c :: r => if inR lo hi c = true then skipN lo hi r + 1 else 0
theorem skipN_le (lo hi : Nat) : ∀ l, skipN lo hi l ≤ l.length
 | [] => Nat.le_refl _
 | c :: r => by
  unfold skipN
  split
  ·simpa using skipN_le lo hi r
  ·exact Nat.zero_le _
def ctlR (n : Nat) (r : List Nat) : Esc :=
 match r with
 | [] => ⟨n, false, true, 0⟩
 | c :: _ => if inR 64 126 c = true then ⟨n + 1, true, false, c⟩ else ⟨n, false, false, 0⟩
def readC (s : List Nat) : Esc := ctlR (2 + skipN 48 63 s + skipN 32 47 (s.drop (skipN 48 63 s))) (s.drop (skipN 48 63 s + skipN 32 47 (s.drop (skipN 48 63 s))))
def readT (l : List Nat) : Esc :=
 match l with
 | [] => escNone
 | c :: r => if c = 27 then (match r with
  | [] => ⟨1, false, true, 0⟩
  | d :: s => if d = 91 then readC s else if inR 64 95 d = true then ⟨2, true, false, d⟩ else ⟨1, false, false, 0⟩) else escNone
def refR : Nat → Nat → List Nat → Esc
 | _, n, [] => ⟨n, false, true, 0⟩
 | st, n, c :: r => if st = 0 then (if c = 91 then refR 1 (n + 1) r else if inR 64 95 c = true then ⟨2, true, false, c⟩ else ⟨1, false, false, 0⟩)
   else if st = 1 ∧ inR 48 63 c = true then refR 1 (n + 1) r
   else if inR 32 47 c = true then refR 2 (n + 1) r
   else if inR 64 126 c = true then ⟨n + 1, true, false, c⟩ else ⟨n, false, false, 0⟩
theorem refR2 : ∀ (r : List Nat) (n : Nat), refR 2 n r = ctlR (n + skipN 32 47 r) (r.drop (skipN 32 47 r))
 | [], n => rfl
 | c :: r, n => by
  rw [refR, skipN]
  by_cases h : inR 32 47 c = true
  ·simp only [h, if_true]
   rw [if_neg (by decide), if_neg (by simp), refR2 r (n + 1)]
   rw [List.drop_succ_cons, Nat.add_assoc, Nat.add_comm 1]
  ·rw [if_neg (by decide), if_neg (by simp), if_neg h, if_neg h]
   simp only [Nat.add_zero, List.drop_zero, ctlR]
theorem refR1 : ∀ (r : List Nat) (n : Nat), refR 1 n r = ctlR (n + skipN 48 63 r + skipN 32 47 (r.drop (skipN 48 63 r))) (r.drop (skipN 48 63 r + skipN 32 47 (r.drop (skipN 48 63 r))))
 | [], n => rfl
 | c :: r, n => by
  by_cases h : inR 48 63 c = true
  ·have e : skipN 48 63 (c :: r) = skipN 48 63 r + 1 := by rw [skipN, if_pos h]
   rw [e, refR, if_neg (by decide), if_pos ⟨rfl, h⟩, refR1 r (n + 1), List.drop_succ_cons]
   have : skipN 48 63 r + 1 + skipN 32 47 (r.drop (skipN 48 63 r)) = (skipN 48 63 r + skipN 32 47 (r.drop (skipN 48 63 r))) + 1 := by omega
   rw [this, List.drop_succ_cons]
   congr 1
   omega
  ·have e : skipN 48 63 (c :: r) = 0 := by rw [skipN, if_neg h]
   have := refR2 (c :: r) n
   rw [refR, if_neg (by decide), if_neg (by simp)] at this
   rw [e, refR, if_neg (by decide), if_neg (by simp [h]), this]
   simp
theorem ref_read (r : List Nat) : refR 0 1 r = readT (27 :: r) := by
 simp only [readT, if_true]
 cases r with
 | nil => rfl
 | cons d s =>
  rw [refR, if_pos rfl]
  by_cases h : d = 91
  ·rw [if_pos h]
   dsimp only
   rw [if_pos h, refR1 s 2]
   rfl
  ·rw [if_neg h]
   dsimp only
   rw [if_neg h]
theorem readT_not {c : Nat} (r : List Nat) (h : c ≠ 27) : readT (c :: r) = escNone := by simp only [readT, if_neg h]
theorem refR_ge : ∀ (r : List Nat) (st n : Nat), st ≠ 0 → n ≤ (refR st n r).size ∧ (refR st n r).size ≤ n + r.length ∧ ((refR st n r).whole = true → 1 ≤ r.length ∧ n + 1 ≤ (refR st n r).size)
 | [], st, n, h => by simp [refR]
 | c :: r, st, n, h => by
  rw [refR, if_neg h]
  split
  ·have := refR_ge r 1 (n + 1) (by decide)
   simp only [List.length_cons]
   omega
  ·split
   ·have := refR_ge r 2 (n + 1) (by decide)
    simp only [List.length_cons]
    omega
   ·split
    ·simp
    ·simp
theorem readT_size (l : List Nat) : (readT l).size ≤ l.length ∧ ((readT l).size = 0 ↔ l.head? ≠ some 27) := by
 cases l with
 | nil => simp [readT, escNone]
 | cons c r =>
  by_cases h : c = 27
  ·subst h
   rw [← ref_read]
   cases r with
   | nil => simp [refR]
   | cons d s =>
    rw [refR, if_pos rfl]
    split
    ·have := refR_ge s 1 (1 + 1) (by decide)
     simp only [List.length_cons, List.head?_cons, ne_eq, not_true, iff_false]
     omega
    ·split <;> simp
  ·rw [readT_not r h]
   simp [escNone, h]
def u8s (l : List Nat) : List UInt8 := l.map UInt8.ofNat
def nats (l : List UInt8) : List Nat := l.map UInt8.toNat
theorem u8s_len (l : List Nat) : (u8s l).length = l.length := by simp [u8s]
theorem nats_u8s (l : List Nat) (h : ∀ x ∈ l, x < 256) : nats (u8s l) = l := by
 unfold nats u8s
 rw [List.map_map]
 conv => rhs; rw [← List.map_id l]
 exact List.map_congr_left fun x hx => by simp [h x hx]
end Go.Proofs.YtojinnnpfjhifaaGreatDoor

namespace Go.Proofs.YtojinnnpfjhifaaGreatDoor
open Go.RowKit Go.Shelf Go.Lib Go.Maps
structure BY (w : World) (B : Nat) (xs : List Nat) (A : Option Addr) (cap : Nat) : Prop where
 l : xs.length ≤ cap
 m : cap ≤ maxLen
 z : A = none → cap = 0
 i : ∀ x ∈ xs, x < 256
 r : xs ≠ [] → ∃ b o, A = some ⟨b, o, none⟩ ∧ b < B ∧ ∀ (i : Nat) (x : Nat), xs[i]? = some x → w.cell? ⟨b, o + i, none⟩ = some (.int .u8 (x : Int))
theorem BY.below {w w' : World} {B : Nat} {xs : List Nat} {A : Option Addr} {cap : Nat} (h : BY w B xs A cap) (hb : Below B w w') : BY w' B xs A cap :=
 ⟨h.l, h.m, h.z, h.i, fun hne => by
  obtain ⟨b, o, rfl, hl, hr⟩ := h.r hne
  exact ⟨b, o, rfl, hl, fun i x hx => (hb.cell (p := ⟨b, _, none⟩) hl).trans (hr i x hx)⟩⟩
theorem BY.mono {w : World} {B B' : Nat} {xs : List Nat} {A : Option Addr} {cap : Nat} (h : BY w B xs A cap) (hB : B ≤ B') : BY w B' xs A cap :=
 ⟨h.l, h.m, h.z, h.i, fun hne => by
  obtain ⟨b, o, rfl, hl, hr⟩ := h.r hne
  exact ⟨b, o, rfl, by omega, hr⟩⟩
theorem BY.on {w w' : World} {xs : List Nat} {A : Option Addr} {cap : Nat} (h : BY w w.heap.size xs A cap) (hb : Below w.heap.size w w') : BY w' w'.heap.size xs A cap := (h.below hb).mono hb.size
theorem BY.at {w : World} {B : Nat} {xs : List Nat} {A : Option Addr} {cap i x : Nat} (h : BY w B xs A cap) (hx : xs[i]? = some x) : ∃ b o, A = some ⟨b, o, none⟩ ∧ b < B ∧ w.cell? ⟨b, o + i, none⟩ = some (.int .u8 (x : Int)) := by
 obtain ⟨b, o, e, hb, hc⟩ := h.r (by rintro rfl; simp at hx)
 exact ⟨b, o, e, hb, hc i x hx⟩
theorem BY.lt {w : World} {B : Nat} {xs : List Nat} {A : Option Addr} {cap i x : Nat} (h : BY w B xs A cap) (hx : xs[i]? = some x) : x < 256 := h.i x (List.mem_of_getElem? hx)
theorem BY.len {w : World} {B : Nat} {xs : List Nat} {A : Option Addr} {cap : Nat} (h : BY w B xs A cap) : xs.length ≤ 9223372036854775807 := by have := h.l; have := h.m; unfold maxLen at this; omega
theorem BY.drop {w : World} {B : Nat} {xs : List Nat} {b o cap k : Nat} (h : BY w B xs (some ⟨b, o, none⟩) cap) (hk : k < xs.length) : BY w B (xs.drop k) (some ⟨b, o + k, none⟩) (cap - k) :=
 ⟨(by have hh := h.l; simp; omega), (by have hh := h.m; omega), fun e => (by cases e), fun x hx => h.i x (List.mem_of_mem_drop hx), fun hne => by
  obtain ⟨b', o', e, hl, hr⟩ := h.r (by rintro rfl; simp at hk)
  obtain ⟨rfl, rfl⟩ : b = b' ∧ o = o' := by simpa using e
  exact ⟨b, o + k, rfl, hl, fun i x hx => by
   rw [List.getElem?_drop] at hx
   rw [Nat.add_assoc]
   exact hr _ x hx⟩⟩
theorem BY.take {w : World} {B : Nat} {xs : List Nat} {A : Option Addr} {cap : Nat} (h : BY w B xs A cap) (k : Nat) : BY w B (xs.take k) A cap :=
 ⟨(by have hh := h.l; simp; omega), h.m, h.z, fun x hx => h.i x (List.mem_of_mem_take hx), fun hne => by
  obtain ⟨b, o, rfl, hl, hr⟩ := h.r (by rintro rfl; simp at hne)
  exact ⟨b, o, rfl, hl, fun i x hx => by
   rw [List.getElem?_take] at hx
   split at hx
   ·exact hr i x hx
   ·cases hx⟩⟩
theorem drop_at {α : Type} {l : List α} {k : Nat} {x : α} (h : l[k]? = some x) : l.drop k = x :: l.drop (k + 1) := by
 obtain ⟨hk, rfl⟩ := List.getElem?_eq_some_iff.1 h
 exact List.drop_eq_getElem_cons hk
theorem at_lt {α : Type} {l : List α} {k : Nat} (h : k < l.length) : ∃ x, l[k]? = some x := ⟨l[k], List.getElem?_eq_getElem h⟩
def escV (e : Esc) : Value := .agg #[.int .i64 e.size, .bool e.whole, .bool e.op, .int .u8 e.last]
end Go.Proofs.YtojinnnpfjhifaaGreatDoor

namespace Go.Proofs.YtojinnnpfjhifaaGreatDoor
open Go.RowKit Go.Shelf Go.Lib Go.Maps
def u8C (l : List Nat) : List Value := l.map fun (x : Nat) => Value.int .u8 (x : Int)
def OwnB (w : World) (base : Nat) (l : List Nat) (v : Value) : Prop := w.ownsRow base 5 1 v l.length (u8C l)
theorem OwnB.by {w : World} {base : Nat} {l : List Nat} {v : Value} (h : OwnB w base l v) (hl : ∀ x ∈ l, x < 256) : ∃ A cap, v = .slice A l.length cap ∧ BY w w.heap.size l A cap := by
 rcases h.2 with ⟨h1, h2⟩ | ⟨g, cap, cur, h1, h2, h3, h4, h5, h6, h7⟩
 ·have hn : l = [] := List.eq_nil_of_length_eq_zero h2
  subst hn
  exact ⟨none, 0, by rw [h1]; rfl, ⟨Nat.le_refl _, by unfold maxLen; omega, fun _ => rfl, (fun x hx => absurd hx (by simp)), (fun hn => absurd rfl hn)⟩⟩
 ·refine ⟨_, cap, h1, ⟨h4, h5, fun e => (by cases e), hl, fun _ => ⟨g, 0, rfl, (Array.getElem?_eq_some_iff.1 h3).1, fun i x hx => ?_⟩⟩⟩
  have hc := World.ownsRow.cells h (g := g) (by rw [h1]; rfl) i (.int .u8 (x : Int)) (by simp [u8C, hx])
  rw [add0] at hc
  rw [Nat.zero_add]; exact hc
theorem OwnB.below {w w' : World} {base : Nat} {l : List Nat} {v : Value} (h : OwnB w base l v) (hb : Below w.heap.size w w') : OwnB w' base l v := ownsRow_below h hb
theorem ownB_nil (w : World) (base : Nat) : OwnB w base [] (.slice none 0 0) := ⟨rfl, .inl ⟨rfl, rfl⟩⟩
theorem info5 : (Tryz.prog.info? 5).map (fun i => (i.zero, i.size, i.bytes)) = some (some (.int .u8 0), 1, 1) := by kernel_rfl
theorem info_parts {t : TypeId} {z : Value} {n b : Nat} (h : (Tryz.prog.info? t).map (fun i => (i.zero, i.size, i.bytes)) = some (some z, n, b)) : ∃ i, Tryz.prog.info? t = some i ∧ i.zero = some z ∧ i.size = n ∧ i.bytes = b := by
 cases e : Tryz.prog.info? t with
 | none => rw [e] at h; simp at h
 | some i =>
  rw [e] at h
  simp at h
  exact ⟨i, rfl, h.1, h.2.1, h.2.2⟩
def strC (l : List ByteArray) : List Value := l.map Value.string
def OwnS (w : World) (base : Nat) (l : List ByteArray) (v : Value) : Prop := w.ownsRow base 9 1 v l.length (strC l)
theorem OwnS.below {w w' : World} {base : Nat} {l : List ByteArray} {v : Value} (h : OwnS w base l v) (hb : Below w.heap.size w w') : OwnS w' base l v := ownsRow_below h hb
end Go.Proofs.YtojinnnpfjhifaaGreatDoor

namespace Go.Proofs.YtojinnnpfjhifaaGreatDoor
open Go.RowKit Go.Shelf Go.Lib Go.Maps
theorem valid_iff (r : Int) : Lib.validRune r = true ↔ 0 ≤ r ∧ r ≤ 1114111 ∧ ¬ (55296 ≤ r ∧ r ≤ 57343) := by
 unfold Lib.validRune
 rw [decide_eq_true_eq]
 omega
theorem rr_any (r : Int) (w : World) : Calls Tryz.prog 17 #[.int .i32 r] w fun e w' => e = .returned (.bool (Lib.validRune r)) ∧ w' = w := by
 have hv := valid_iff r
 obtain ⟨V, hV⟩ : ∃ V, Lib.validRune r = V := ⟨_, rfl⟩
 rw [hV] at hv ⊢
 by_cases c1 : 0 ≤ r
 ·by_cases c2 : r ≤ 1114111
  ·by_cases c3 : r < 55296
   ·obtain rfl : V = true := hv.2 (by omega)
    clear hv hV
    go_enter Tryz.func17, Tryz.ntmps17
    go_wp2
    go_ret
    exact ⟨rfl, rfl⟩
   ·have d3 : decide (r < 55296) = false := by simpa using c3
    by_cases c4 : 57343 < r
    ·obtain rfl : V = true := hv.2 (by omega)
     clear hv hV
     go_enter Tryz.func17, Tryz.ntmps17
     go_wp2
     go_ret
     exact ⟨rfl, rfl⟩
    ·have d4 : decide (57343 < r) = false := by simpa using c4
     obtain rfl : V = false := by cases V; rfl; exact absurd (hv.1 rfl) (by omega)
     clear hv hV
     go_enter Tryz.func17, Tryz.ntmps17
     go_wp2
     go_ret
     exact ⟨rfl, rfl⟩
  ·have d2 : decide (r ≤ 1114111) = false := by simpa using c2
   obtain rfl : V = false := by cases V; rfl; exact absurd (hv.1 rfl) (by omega)
   clear hv hV
   go_enter Tryz.func17, Tryz.ntmps17
   go_wp2
   go_ret
   exact ⟨rfl, rfl⟩
 ·have d1 : decide (0 ≤ r) = false := by simpa using c1
  obtain rfl : V = false := by cases V; rfl; exact absurd (hv.1 rfl) (by omega)
  clear hv hV
  go_enter Tryz.func17, Tryz.ntmps17
  go_wp2
  go_ret
  exact ⟨rfl, rfl⟩
def scR (r : Int) : Int := if Lib.validRune r then r else 65533
theorem scR_valid (r : Int) : Lib.validRune (scR r) = true := by
 unfold scR
 split
 ·assumption
 ·decide
theorem encZ_scR (r : Int) : encodeRuneZ r = encodeRuneZ (scR r) := by
 unfold scR
 split
 ·rfl
 ·rename_i h
  have h1 : r < 0 ∨ (55296 ≤ r ∧ r ≤ 57343) ∨ 1114111 < r := by
   have h3 : ¬ (0 ≤ r ∧ r ≤ 1114111 ∧ ¬ (55296 ≤ r ∧ r ≤ 57343)) := fun e => h ((valid_iff r).2 e)
   omega
  rw [encodeRuneZ_bad h1]
  decide
def putN (r : Int) : List Nat := (encodeRuneZ r).map Int.toNat
theorem putN_lt (r : Int) : ∀ x ∈ putN r, x < 256 := by
 intro x hx
 obtain ⟨z, hz, rfl⟩ := List.mem_map.1 hx
 have := encodeRuneZ_byte r z hz
 omega
theorem putN_len (r : Int) : (putN r).length ≤ 4 := by
 unfold putN
 rw [List.length_map]
 exact (encodeRuneZ_length r).2
def PutOk (w : World) (r : Int) (e : Ending) (w' : World) : Prop := ∃ A cap, e = .returned (.slice A (putN r).length cap) ∧ BY w' w'.heap.size (putN r) A cap ∧ Below w.heap.size w w'
theorem rput_post (r : Int) (zs : List Int) (hz : encodeRuneZ r = zs) (w : World) : PutOk w r (.returned (.slice (some ⟨w.heap.size, 0, none⟩) zs.length zs.length)) (w.alloc (.cells (zs.map (Value.int .u8 ·)).toArray 5)) := by
 have hl : (putN r).length = zs.length := by rw [putN, hz, List.length_map]
 have h4 := encodeRuneZ_length r
 rw [hz] at h4
 refine ⟨_, _, by rw [hl], ⟨by omega, by unfold maxLen; omega, fun e => (by cases e), putN_lt r, fun _ => ⟨w.heap.size, 0, rfl, by simp, fun i x hx => ?_⟩⟩, below_new _ _⟩
 rw [World.cell?_alloc_mark, Nat.zero_add]
 unfold putN at hx
 rw [hz, List.getElem?_map] at hx
 cases e : zs[i]? with
 | none => rw [e] at hx; simp at hx
 | some z =>
  rw [e] at hx
  simp at hx
  subst hx
  have hb := encodeRuneZ_byte r z (by rw [hz]; exact List.mem_of_getElem? e)
  simp [e]
  omega
end Go.Proofs.YtojinnnpfjhifaaGreatDoor

namespace Go.Proofs.YtojinnnpfjhifaaGreatDoor
open Go.RowKit Go.Shelf
open Go.Lib Go.Great
theorem below_setRow {B : Nat} {w w1 : World} (h : Below B w w1) {g : Nat} (hg : B ≤ g) (cs : Array Value) : Below B w (w1.setRow g cs) :=
 h.trans ⟨rfl, rfl, rfl, by simp, fun k hk => setRow_other _ _ _ _ (by omega)⟩
def bstep (P : Program) (t : Array Value) (o : Oper) : Option (Array Value) :=
 match o.guard, o.op, o.dst with
 | none, .build ty parts, some d => (P.built ty (parts.map fun (i, x) => (i, Act.eval { tmps := t, defers := [] } x)).toList).map fun cs => t.setIfInBounds d (.agg cs)
 | _, _, _ => none
theorem wpList_builds {P : Program} {ops : Array Oper} {Q : Exit → Act → World → Prop} {w : World} {rest : List Oper} (bs : List Oper) : ∀ (a : Act) (t' : Array Value), bs.foldlM (bstep P) a.tmps = some t' → wpList P ops Q rest { a with tmps := t' } w → wpList P ops Q (bs ++ rest) a w := by
 induction bs with
 | nil => intro a t' h k; simp at h; subst h; exact k
 | cons o bs ih =>
  intro a t' h k
  rw [List.foldlM_cons] at h
  cases hs : bstep P a.tmps o with
  | none => rw [hs] at h; cases h
  | some t1 =>
   rw [hs] at h
   have h : bs.foldlM (bstep P) t1 = some t' := h
   unfold bstep at hs
   split at hs
   ·rename_i ty parts d hg ho hd
    simp only [Option.map_eq_some_iff] at hs
    obtain ⟨cs, hcs, rfl⟩ := hs
    have e : (parts.map fun (i, x) => (i, a.eval x)) = (parts.map fun (i, x) => (i, Act.eval { tmps := a.tmps, defers := [] } x)) := by
     congr 1
    rw [← e] at hcs
    refine wpList_build hg ty parts ho (by rw [hcs]; rfl) ?_
    rw [hcs]
    have e2 : a.put o.dst (.agg cs) = { a with tmps := a.tmps.setIfInBounds d (.agg cs) } := by rw [hd]; rfl
    show wpList P ops Q (bs ++ rest) (a.put o.dst (.agg cs)) w
    rw [e2]
    exact ih _ t' h k
   ·cases hs
abbrev NmE := List UInt8 × Int
def nmE : List NmE := [([97, 109, 112], 38), ([97, 112, 111, 115], 39), ([99, 111, 112, 121], 169), ([101, 109, 115, 112], 8195), ([101, 110, 115, 112], 8194), ([103, 116], 62), ([104, 101, 108, 108, 105, 112], 8230), ([108, 97, 113, 117, 111], 171), ([108, 100, 113, 117, 111], 8220), ([108, 114, 109], 8206), ([108, 115, 113, 117, 111], 8216), ([108, 116], 60), ([109, 100, 97, 115, 104], 8212), ([109, 105, 100, 100, 111, 116], 183), ([110, 98, 115, 112], 160), ([110, 100, 97, 115, 104], 8211), ([113, 117, 111, 116], 34), ([114, 97, 113, 117, 111], 187), ([114, 100, 113, 117, 111], 8221), ([114, 101, 103], 174), ([114, 108, 109], 8207), ([114, 115, 113, 117, 111], 8217), ([115, 104, 121], 173), ([116, 104, 105, 110, 115, 112], 8201), ([122, 119, 106], 8205), ([122, 119, 110, 106], 8204)]
def ncell (x : NmE) : List Value := [.string ⟨x.1.toArray⟩, .int .i32 x.2]
def NR : Array Value := (nmE.flatMap ncell).toArray
def ZNR : Array Value := (List.replicate 26 [Value.string ⟨#[]⟩, .int .i32 0]).flatten.toArray
def FR (v : Value) : Array Value := (#[v] ++ (nmE.map fun x => Value.agg (ncell x).toArray).toArray) ++ #[.agg NR]
attribute [local irreducible] wpList Code.wp NR ZNR FR
set_option maxHeartbeats 4000000 in
set_option maxRecDepth 100000 in
theorem rows_any (w : World) : Calls Tryz.prog 127 #[] w fun e w' => e = .returned (.agg NR) ∧ Below w.heap.size w w' := by
 refine calls_of_wp Tryz.func127 rfl ?_
 apply wp_seq_k; intro K hK
 apply wp_region_lit
 refine wpList_allocTo rfl (some 0) rfl (.pointer (some ⟨w.heap.size, 0, none⟩)) (.cells ZNR 181) (by as_aux_lemma => kernel_rfl) ?_
 apply wpList_nil
 refine hK _ _ ?_
 clear hK K
 apply wp_seq_k; intro K hK
 apply wp_region_lit
 refine wpList_splitAt 27 _ (List.take_append_drop 27 _).symm ?_
 refine wpList_builds _ _ (FR (.pointer (some ⟨w.heap.size, 0, none⟩))) (by as_aux_lemma => kernel_rfl) ?_
 have hz := heap_alloc_new w (.cells ZNR 181)
 have h0 : ∀ d, Act.eval { tmps := FR (.pointer (some ⟨w.heap.size, 0, none⟩)), defers := d } (.tmp 0) = .pointer (some ⟨w.heap.size, 0, none⟩) := fun d => by as_aux_lemma => kernel_rfl
 have h1 : ∀ d, Act.eval { tmps := FR (.pointer (some ⟨w.heap.size, 0, none⟩)), defers := d } (.tmp 27) = .agg NR := fun d => by as_aux_lemma => kernel_rfl
 refine wpList_store_row rfl 181 (.tmp 0) (.tmp 27) rfl w.heap.size NR (h0 _) (h1 _) 181 ZNR hz (by as_aux_lemma => kernel_rfl) (by as_aux_lemma => kernel_rfl) (by as_aux_lemma => kernel_rfl) ?_
 apply wpList_nil
 refine hK _ _ ?_
 clear hK K
 refine wp_ret ?_
 refine bodyPost_ret (v := .agg NR) (results_cell_row rfl _ _ w.heap.size 181 NR (0, 0) (.array 26 168) (h0 []) ?_ (by as_aux_lemma => kernel_rfl) rfl (by as_aux_lemma => kernel_rfl)) rfl ⟨rfl, ?_⟩
 ·exact setRow_heap _ _ _ _ _ _ hz
 ·exact below_setRow (below_new w _) (Nat.le_refl _) _
end Go.Proofs.YtojinnnpfjhifaaGreatDoor

namespace Go.Proofs.YtojinnnpfjhifaaGreatDoor
open Go.RowKit Go.Shelf Go.Lib Go.Maps Go.Great
theorem flat_at : ∀ (l : List NmE) (k : Nat) (x : NmE), l[k]? = some x → (l.flatMap ncell)[k * 2]? = some (.string ⟨x.1.toArray⟩) ∧ (l.flatMap ncell)[k * 2 + 1]? = some (.int .i32 x.2)
 | [], k, x, h => by simp at h
 | y :: l, 0, x, h => by
  simp at h
  subst h
  exact ⟨rfl, rfl⟩
 | y :: l, k + 1, x, h => by
  have := flat_at l k x (by simpa using h)
  rw [List.flatMap_cons]
  have e1 : (k + 1) * 2 = k * 2 + 1 + 1 := by omega
  rw [e1]
  exact this
theorem NR_at {k : Nat} {x : NmE} (h : nmE[k]? = some x) : NR[k * 2]? = some (.string ⟨x.1.toArray⟩) ∧ NR[k * 2 + 1]? = some (.int .i32 x.2) := by
 have := flat_at nmE k x h
 unfold NR
 simpa using this
attribute [local irreducible] NR ZNR FR
def idxP (p : NmE → Bool) : Int := match nmE.findIdx? p with
 | none => -1
 | some i => (i : Int)
theorem nmE_len : nmE.length = 26 := rfl
theorem idx_none {p : NmE → Bool} (h : ∀ (j : Nat) (x : NmE), nmE[j]? = some x → p x = false) : idxP p = -1 ∧ nmE.find? p = none := by
 have h1 : ∀ x ∈ nmE, p x = false := fun x hx => by
  obtain ⟨j, hj, e⟩ := List.getElem_of_mem hx
  exact h j x (by rw [List.getElem?_eq_getElem hj, e])
 have e1 : nmE.findIdx? p = none := by rw [List.findIdx?_eq_none_iff]; exact h1
 refine ⟨by rw [idxP, e1], ?_⟩
 rw [List.find?_eq_none]
 exact fun x hx => by rw [h1 x hx]; simp
theorem idx_some {p : NmE → Bool} {k : Nat} {x : NmE} (hx : nmE[k]? = some x) (hp : p x = true) (h : ∀ (j : Nat) (y : NmE), j < k → nmE[j]? = some y → p y = false) : idxP p = (k : Int) ∧ nmE.find? p = some x := by
 obtain ⟨hk, e⟩ := List.getElem?_eq_some_iff.1 hx
 have e1 : nmE.findIdx? p = some k := by
  rw [List.findIdx?_eq_some_iff_getElem]
  exact ⟨hk, by rw [e]; exact hp, fun j hj => by
   rw [h j _ hj (List.getElem?_eq_getElem _)]
   simp⟩
 refine ⟨by rw [idxP, e1], ?_⟩
 rw [List.find?_eq_some_iff_getElem]
 exact ⟨hp, k, hk, e, fun j hj => by
  rw [h j _ hj (List.getElem?_eq_getElem _)]
  simp⟩
theorem idx_or (p : NmE → Bool) : (idxP p = -1 ∧ nmE.find? p = none) ∨ ∃ (k : Nat) (x : NmE), k < 26 ∧ nmE[k]? = some x ∧ idxP p = (k : Int) ∧ nmE.find? p = some x := by
 cases e : nmE.findIdx? p with
 | none =>
  left
  rw [List.findIdx?_eq_none_iff] at e
  exact idx_none fun j x hx => e x (List.mem_of_getElem? hx)
 | some k =>
  right
  rw [List.findIdx?_eq_some_iff_getElem] at e
  obtain ⟨hk, hp, h⟩ := e
  have hs := idx_some (p := p) (List.getElem?_eq_getElem hk) hp (fun j y hj hy => by
   have := h j hj
   obtain ⟨hj2, e2⟩ := List.getElem?_eq_some_iff.1 hy
   rw [e2] at this
   simpa using this)
  exact ⟨k, _, hk, List.getElem?_eq_getElem hk, hs.1, hs.2⟩
def rowV (x : NmE) : Value := .agg #[.string ⟨x.1.toArray⟩, .int .i32 x.2]
def findV : Option NmE → Value
 | none => .tuple #[.agg #[.string ⟨#[]⟩, .int .i32 0], .bool false]
 | some x => .tuple #[rowV x, .bool true]
set_option maxHeartbeats 4000000 in
set_option maxRecDepth 100000 in
theorem idx44_any (c0 : Addr) (p : NmE → Bool) (g : Nat) (w : World) (hR : Cells w g 181 NR) (K : ∀ W, Below w.heap.size w W → ∀ s z, (s, z) ∈ nmE → Calls Tryz.prog 129 #[.agg #[.string ⟨s.toArray⟩, .int .i32 z], .pointer (some c0)] W fun e w' => e = .returned (.bool (p (s, z))) ∧ Below W.heap.size W w') :
  Calls Tryz.prog 128 #[.slice (some ⟨g, 0, none⟩) 26 26, .func (Fn.func 129) #[] #[.pointer (some c0)]] w fun e w' => e = .returned (.int .i64 (idxP p)) ∧ Below w.heap.size w w' := by
 have HH := Lib.hid (And.intro hR K)
 clear hR K
 go_enter Tryz.func128, Tryz.ntmps128
 go_wp2_with fail
 go_loopw [5, 8] (fun _ i wr => ∃ k : Nat, i = .int .i64 (k : Int) ∧ k ≤ 26 ∧ (∀ (j : Nat) (y : NmE), j < k → nmE[j]? = some y → p y = false) ∧ Below w.heap.size w wr) (fun _ i _ => 26 - (RowKit.intOf i).toNat)
 case atStart => exact ⟨0, by go_num, by omega, fun j y hj => absurd hj (by omega), Below.refl _ _⟩
 case round =>
  obtain ⟨k, rfl, hk, hj, hb⟩ := hrel
  by_cases hlt : k < 26
  case neg =>
   obtain rfl : k = 26 := by omega
   have he := (idx_none (p := p) fun j x hx => hj j x (by have := (List.getElem?_eq_some_iff.1 hx).1; rw [nmE_len] at this; exact this) hx).1
   have HE := Lib.hid (And.intro he hb)
   clear he hj hb
   go_wp2_with fail
   go_ret
   exact ⟨by rw [HE.out.1]; rfl, HE.out.2⟩
  have i1 : (k : Int) < 26 := by omega
  obtain ⟨⟨s, z⟩, hx⟩ := at_lt (l := nmE) (k := k) (by rw [nmE_len]; exact hlt)
  obtain ⟨r0, r1⟩ := NR_at hx
  have xr := (hb.block g HH.out.1.lt).trans HH.out.1
  have q0 : wr.cell? ⟨g, k * 2, none⟩ = some (.string ⟨s.toArray⟩) := (Cells.cell xr (k * 2)).trans r0
  have q1 : wr.cell? ⟨g, k * 2 + 1, none⟩ = some (.int .i32 z) := (Cells.cell xr (k * 2 + 1)).trans r1
  have C := HH.out.2 wr hb s z (List.mem_of_getElem? hx)
  have HK := Lib.hid (And.intro C (And.intro hb (And.intro hj hx)))
  clear C hb hj hx xr r0 r1
  go_wp2_with fail
  refine HK.out.1.mono ?_
  rintro r w2 ⟨rfl, hb2⟩
  have b2 := HK.out.2.1.trans (hb2.mono HK.out.2.1.size)
  cases hp : p (s, z) with
  | true =>
   have he := (idx_some (p := p) HK.out.2.2.2 hp HK.out.2.2.1).1
   have HE := Lib.hid (And.intro he b2)
   clear hp he b2 hb2 q0 q1
   go_wp2_with fail
   go_ret
   exact ⟨by rw [HE.out.1]; rfl, HE.out.2⟩
  | false =>
   have hend : ∀ (j : Nat) (y : NmE), j < k + 1 → nmE[j]? = some y → p y = false := fun j y hj hy => by
    by_cases h : j = k
    ·subst h
     have := hy.symm.trans HK.out.2.2.2
     injection this with this
     rw [this]
     exact hp
    ·exact HK.out.2.2.1 j y (by omega) hy
   have HE := Lib.hid (And.intro hend b2)
   clear hp hend b2 hb2 q0 q1
   go_wp2_with fail
   go_roundw
   case rel => exact ⟨k + 1, by go_num, by omega, HE.out.1, HE.out.2⟩
   case measure => simp [RowKit.intOf]; omega
set_option maxHeartbeats 4000000 in
set_option maxRecDepth 100000 in
theorem find44_any (c0 : Addr) (p : NmE → Bool) (w : World) (K : ∀ W, Below w.heap.size w W → ∀ s z, (s, z) ∈ nmE → Calls Tryz.prog 129 #[.agg #[.string ⟨s.toArray⟩, .int .i32 z], .pointer (some c0)] W fun e w' => e = .returned (.bool (p (s, z))) ∧ Below W.heap.size W w') :
  Calls Tryz.prog 113 #[.func (Fn.func 129) #[] #[.pointer (some c0)]] w fun e w' => e = .returned (findV (nmE.find? p)) ∧ Below w.heap.size w w' := by
 have HK := Lib.hid K
 obtain ⟨FV, hFV⟩ : ∃ v, findV (nmE.find? p) = v := ⟨_, rfl⟩
 rw [hFV]
 have HF := Lib.hid hFV
 clear K hFV
 go_enter Tryz.func113, Tryz.ntmps113
 go_wp2_with fail
 refine (rows_any _).mono ?_
 rintro r w1 ⟨rfl, hb1⟩
 rename_i Qx Kx ax Ky ay
 dsimp only
 refine ay _ _ ?_
 refine wpList_allocTo rfl (some 4) rfl (.pointer (some ⟨w1.heap.size, 0, none⟩)) (.cells ZNR 181) (by as_aux_lemma => kernel_rfl) ?_
 have hz := heap_alloc_new w1 (.cells ZNR 181)
 refine wpList_store_row rfl 181 (.tmp 4) (.tmp 6) rfl w1.heap.size NR rfl rfl 181 ZNR hz (by as_aux_lemma => kernel_rfl) (by as_aux_lemma => kernel_rfl) (by as_aux_lemma => kernel_rfl) ?_
 apply wpList_nil
 obtain ⟨W2, hW2⟩ : ∃ W, (w1.alloc (.cells ZNR 181)).setRow w1.heap.size NR = W := ⟨_, rfl⟩
 rw [hW2]
 have x2 : Cells W2 w1.heap.size 181 NR := by rw [← hW2]; exact setRow_heap _ _ _ _ _ _ hz
 have b12 : Below w1.heap.size w1 W2 := by rw [← hW2]; exact below_setRow (below_new w1 _) (Nat.le_refl _) _
 have b1 := hb1
 have x0 : Cells W2 w.heap.size 168 #[.string ⟨#[]⟩, .int .i32 0] := ((cells_new w #[.string ⟨#[]⟩, .int .i32 0] 168).on hb1).on b12
 have b2 : Below w.heap.size w W2 := ((below_new w _).trans (hb1.mono (by simp))).trans (b12.mono (by have := hb1.size; simp at this; omega))
 have C := idx44_any c0 p w1.heap.size W2 x2 (fun W hb s z hm => HK.out W (b2.trans (hb.mono b2.size)) s z hm)
 have H2 := Lib.hid (And.intro C (And.intro x2 (And.intro x0 b2)))
 clear hW2 hz ay Ky C x2 x0 b2 b12 hb1 b1
 go_wp2_with fail
 refine H2.out.1.mono ?_
 rintro r w3 ⟨rfl, hb3⟩
 have x0 := H2.out.2.2.1.on hb3
 have x2 := H2.out.2.1.on hb3
 have b3 := H2.out.2.2.2.trans (hb3.mono H2.out.2.2.2.size)
 have p0 := x0.cell 0
 have p1 := x0.cell 1
 have f0 := x0.froz 0
 have f1 := x0.froz 1
 simp at p0 p1
 obtain ⟨h1, h2⟩ | ⟨k, ⟨s, z⟩, hk, hx, h1, h2⟩ := idx_or p
 ·rw [h1]
  have HB := Lib.hid b3
  have HV := Lib.hid (show FV = findV none by rw [← HF.out, h2])
  clear b3 x2 x0 hb3 h1 h2
  go_wp2_with fail
  refine bodyPost_ret (v := .tuple #[.agg #[.string ⟨#[]⟩, .int .i32 0], .bool false]) ?_ rfl ⟨by rw [HV.out]; rfl, ?_⟩
  ·simp [results, Tryz.results113, go_sem, p0, p1]
  ·exact (HB.out.setCell (p := ⟨_, 0, none⟩) (Nat.le_refl _) _).setCell (p := ⟨_, 1, none⟩) (Nat.le_refl _) _
 ·rw [h1]
  have HV := Lib.hid (show FV = findV (some (s, z)) by rw [← HF.out, h2])
  obtain ⟨r0, r1⟩ := NR_at hx
  have q0 : w3.cell? ⟨w1.heap.size, k * 2, none⟩ = some (.string ⟨s.toArray⟩) := (Cells.cell x2 (k * 2)).trans r0
  have q1 : w3.cell? ⟨w1.heap.size, k * 2 + 1, none⟩ = some (.int .i32 z) := (Cells.cell x2 (k * 2 + 1)).trans r1
  have i1 : (k : Int) < 26 := by omega
  have i0 : decide ((k : Int) < 0) = false := by simp
  have HB := Lib.hid b3
  clear b3 x2 x0 hb3 h1 h2 hx r0 r1
  go_wp2_with fail
  refine bodyPost_ret (v := .tuple #[.agg #[.string ⟨s.toArray⟩, .int .i32 z], .bool true]) ?_ rfl ⟨by rw [HV.out]; rfl, ?_⟩
  ·simp [results, Tryz.results113, go_sem, p0, p1]
  ·exact (HB.out.setCell (p := ⟨_, 0, none⟩) (Nat.le_refl _) _).setCell (p := ⟨_, 1, none⟩) (Nat.le_refl _) _
set_option maxHeartbeats 4000000 in
set_option maxRecDepth 100000 in
theorem idx66_any (c0 c1 : Addr) (p : NmE → Bool) (g : Nat) (w : World) (hR : Cells w g 181 NR) (K : ∀ W, Below w.heap.size w W → ∀ s z, (s, z) ∈ nmE → Calls Tryz.prog 114 #[.agg #[.string ⟨s.toArray⟩, .int .i32 z], .pointer (some c0), .pointer (some c1)] W fun e w' => e = .returned (.bool (p (s, z))) ∧ Below W.heap.size W w') :
  Calls Tryz.prog 128 #[.slice (some ⟨g, 0, none⟩) 26 26, .func (Fn.func 114) #[] #[.pointer (some c0), .pointer (some c1)]] w fun e w' => e = .returned (.int .i64 (idxP p)) ∧ Below w.heap.size w w' := by
 have HH := Lib.hid (And.intro hR K)
 clear hR K
 go_enter Tryz.func128, Tryz.ntmps128
 go_wp2_with fail
 go_loopw [5, 8] (fun _ i wr => ∃ k : Nat, i = .int .i64 (k : Int) ∧ k ≤ 26 ∧ (∀ (j : Nat) (y : NmE), j < k → nmE[j]? = some y → p y = false) ∧ Below w.heap.size w wr) (fun _ i _ => 26 - (RowKit.intOf i).toNat)
 case atStart => exact ⟨0, by go_num, by omega, fun j y hj => absurd hj (by omega), Below.refl _ _⟩
 case round =>
  obtain ⟨k, rfl, hk, hj, hb⟩ := hrel
  by_cases hlt : k < 26
  case neg =>
   obtain rfl : k = 26 := by omega
   have he := (idx_none (p := p) fun j x hx => hj j x (by have := (List.getElem?_eq_some_iff.1 hx).1; rw [nmE_len] at this; exact this) hx).1
   have HE := Lib.hid (And.intro he hb)
   clear he hj hb
   go_wp2_with fail
   go_ret
   exact ⟨by rw [HE.out.1]; rfl, HE.out.2⟩
  have i1 : (k : Int) < 26 := by omega
  obtain ⟨⟨s, z⟩, hx⟩ := at_lt (l := nmE) (k := k) (by rw [nmE_len]; exact hlt)
  obtain ⟨r0, r1⟩ := NR_at hx
  have xr := (hb.block g HH.out.1.lt).trans HH.out.1
  have q0 : wr.cell? ⟨g, k * 2, none⟩ = some (.string ⟨s.toArray⟩) := (Cells.cell xr (k * 2)).trans r0
  have q1 : wr.cell? ⟨g, k * 2 + 1, none⟩ = some (.int .i32 z) := (Cells.cell xr (k * 2 + 1)).trans r1
  have C := HH.out.2 wr hb s z (List.mem_of_getElem? hx)
  have HK := Lib.hid (And.intro C (And.intro hb (And.intro hj hx)))
  clear C hb hj hx xr r0 r1
  go_wp2_with fail
  refine HK.out.1.mono ?_
  rintro r w2 ⟨rfl, hb2⟩
  have b2 := HK.out.2.1.trans (hb2.mono HK.out.2.1.size)
  cases hp : p (s, z) with
  | true =>
   have he := (idx_some (p := p) HK.out.2.2.2 hp HK.out.2.2.1).1
   have HE := Lib.hid (And.intro he b2)
   clear hp he b2 hb2 q0 q1
   go_wp2_with fail
   go_ret
   exact ⟨by rw [HE.out.1]; rfl, HE.out.2⟩
  | false =>
   have hend : ∀ (j : Nat) (y : NmE), j < k + 1 → nmE[j]? = some y → p y = false := fun j y hj hy => by
    by_cases h : j = k
    ·subst h
     have := hy.symm.trans HK.out.2.2.2
     injection this with this
     rw [this]
     exact hp
    ·exact HK.out.2.2.1 j y (by omega) hy
   have HE := Lib.hid (And.intro hend b2)
   clear hp hend b2 hb2 q0 q1
   go_wp2_with fail
   go_roundw
   case rel => exact ⟨k + 1, by go_num, by omega, HE.out.1, HE.out.2⟩
   case measure => simp [RowKit.intOf]; omega
set_option maxHeartbeats 4000000 in
set_option maxRecDepth 100000 in
theorem find66_any (c0 c1 : Addr) (p : NmE → Bool) (w : World) (K : ∀ W, Below w.heap.size w W → ∀ s z, (s, z) ∈ nmE → Calls Tryz.prog 114 #[.agg #[.string ⟨s.toArray⟩, .int .i32 z], .pointer (some c0), .pointer (some c1)] W fun e w' => e = .returned (.bool (p (s, z))) ∧ Below W.heap.size W w') :
  Calls Tryz.prog 113 #[.func (Fn.func 114) #[] #[.pointer (some c0), .pointer (some c1)]] w fun e w' => e = .returned (findV (nmE.find? p)) ∧ Below w.heap.size w w' := by
 have HK := Lib.hid K
 obtain ⟨FV, hFV⟩ : ∃ v, findV (nmE.find? p) = v := ⟨_, rfl⟩
 rw [hFV]
 have HF := Lib.hid hFV
 clear K hFV
 go_enter Tryz.func113, Tryz.ntmps113
 go_wp2_with fail
 refine (rows_any _).mono ?_
 rintro r w1 ⟨rfl, hb1⟩
 rename_i Qx Kx ax Ky ay
 dsimp only
 refine ay _ _ ?_
 refine wpList_allocTo rfl (some 4) rfl (.pointer (some ⟨w1.heap.size, 0, none⟩)) (.cells ZNR 181) (by as_aux_lemma => kernel_rfl) ?_
 have hz := heap_alloc_new w1 (.cells ZNR 181)
 refine wpList_store_row rfl 181 (.tmp 4) (.tmp 6) rfl w1.heap.size NR rfl rfl 181 ZNR hz (by as_aux_lemma => kernel_rfl) (by as_aux_lemma => kernel_rfl) (by as_aux_lemma => kernel_rfl) ?_
 apply wpList_nil
 obtain ⟨W2, hW2⟩ : ∃ W, (w1.alloc (.cells ZNR 181)).setRow w1.heap.size NR = W := ⟨_, rfl⟩
 rw [hW2]
 have x2 : Cells W2 w1.heap.size 181 NR := by rw [← hW2]; exact setRow_heap _ _ _ _ _ _ hz
 have b12 : Below w1.heap.size w1 W2 := by rw [← hW2]; exact below_setRow (below_new w1 _) (Nat.le_refl _) _
 have b1 := hb1
 have x0 : Cells W2 w.heap.size 168 #[.string ⟨#[]⟩, .int .i32 0] := ((cells_new w #[.string ⟨#[]⟩, .int .i32 0] 168).on hb1).on b12
 have b2 : Below w.heap.size w W2 := ((below_new w _).trans (hb1.mono (by simp))).trans (b12.mono (by have := hb1.size; simp at this; omega))
 have C := idx66_any c0 c1 p w1.heap.size W2 x2 (fun W hb s z hm => HK.out W (b2.trans (hb.mono b2.size)) s z hm)
 have H2 := Lib.hid (And.intro C (And.intro x2 (And.intro x0 b2)))
 clear hW2 hz ay Ky C x2 x0 b2 b12 hb1 b1
 go_wp2_with fail
 refine H2.out.1.mono ?_
 rintro r w3 ⟨rfl, hb3⟩
 have x0 := H2.out.2.2.1.on hb3
 have x2 := H2.out.2.1.on hb3
 have b3 := H2.out.2.2.2.trans (hb3.mono H2.out.2.2.2.size)
 have p0 := x0.cell 0
 have p1 := x0.cell 1
 have f0 := x0.froz 0
 have f1 := x0.froz 1
 simp at p0 p1
 obtain ⟨h1, h2⟩ | ⟨k, ⟨s, z⟩, hk, hx, h1, h2⟩ := idx_or p
 ·rw [h1]
  have HB := Lib.hid b3
  have HV := Lib.hid (show FV = findV none by rw [← HF.out, h2])
  clear b3 x2 x0 hb3 h1 h2
  go_wp2_with fail
  refine bodyPost_ret (v := .tuple #[.agg #[.string ⟨#[]⟩, .int .i32 0], .bool false]) ?_ rfl ⟨by rw [HV.out]; rfl, ?_⟩
  ·simp [results, Tryz.results113, go_sem, p0, p1]
  ·exact (HB.out.setCell (p := ⟨_, 0, none⟩) (Nat.le_refl _) _).setCell (p := ⟨_, 1, none⟩) (Nat.le_refl _) _
 ·rw [h1]
  have HV := Lib.hid (show FV = findV (some (s, z)) by rw [← HF.out, h2])
  obtain ⟨r0, r1⟩ := NR_at hx
  have q0 : w3.cell? ⟨w1.heap.size, k * 2, none⟩ = some (.string ⟨s.toArray⟩) := (Cells.cell x2 (k * 2)).trans r0
  have q1 : w3.cell? ⟨w1.heap.size, k * 2 + 1, none⟩ = some (.int .i32 z) := (Cells.cell x2 (k * 2 + 1)).trans r1
  have i1 : (k : Int) < 26 := by omega
  have i0 : decide ((k : Int) < 0) = false := by simp
  have HB := Lib.hid b3
  clear b3 x2 x0 hb3 h1 h2 hx r0 r1
  go_wp2_with fail
  refine bodyPost_ret (v := .tuple #[.agg #[.string ⟨s.toArray⟩, .int .i32 z], .bool true]) ?_ rfl ⟨by rw [HV.out]; rfl, ?_⟩
  ·simp [results, Tryz.results113, go_sem, p0, p1]
  ·exact (HB.out.setCell (p := ⟨_, 0, none⟩) (Nat.le_refl _) _).setCell (p := ⟨_, 1, none⟩) (Nat.le_refl _) _
end Go.Proofs.YtojinnnpfjhifaaGreatDoor

namespace Go.Proofs.YtojinnnpfjhifaaGreatDoor
open Go.RowKit Go.Shelf Go.Lib Go.Maps
def strB (l : List UInt8) : ByteArray := ⟨l.toArray⟩
theorem strB_size (l : List UInt8) : (strB l).size = l.length := by simp [strB, ByteArray.size]
theorem conv_by {w : World} {B : Nat} {l : List Nat} {A : Option Addr} {cap : Nat} (h : BY w B l A cap) : (convert 22 9 (.slice A l.length cap)).run Tryz.prog w = .ok (.string ⟨(u8s l).toArray⟩) w := by
 cases l with
 | nil =>
  exact run_convert_bytes_zero (P := Tryz.prog) w 22 5 Tryz.underlying22 Tryz.underlying5 A cap 9 Tryz.underlying9
 | cons c r =>
  obtain ⟨b, o, rfl, _, hc⟩ := h.r (by simp)
  have := run_convert_bytes_back (P := Tryz.prog) w 22 9 5 ⟨b, o, none⟩ cap (u8s (c :: r)) Tryz.underlying22 Tryz.underlying5 Tryz.underlying9 (fun j hj => by
   rw [u8s_len] at hj
   obtain ⟨x, hx⟩ := at_lt hj
   have h1 := hc j x hx
   have h2 := h.lt hx
   have ea : (Addr.mk b o none).add j = ⟨b, o + j, none⟩ := by
    unfold Addr.add
    by_cases h0 : j = 0 <;> simp [h0]
   rw [ea, h1]
   have hu : (u8s (c :: r))[j]? = some (UInt8.ofNat x) := by
    unfold u8s
    rw [List.getElem?_map, hx]
    rfl
   simp [List.getElem?_eq_some_iff] at hu
   obtain ⟨h3, h4⟩ := hu
   simp [h4, Nat.mod_eq_of_lt h2])
  rw [u8s_len] at this
  exact this
structure ByR (w : World) (g : Nat) (l : List Nat) (cap : Nat) : Prop where
 row : ∃ cur k, w.heap[g]? = some (.cells cur 5 (k, k + 1)) ∧ cur.size = cap ∧ cap ≤ k ∧ ∀ (i x : Nat), l[i]? = some x → cur[i]? = some (.int .u8 (x : Int))
 le : l.length ≤ cap
 mx : cap ≤ maxLen
 b : ∀ x ∈ l, x < 256
theorem ByR.lt {w : World} {g : Nat} {l : List Nat} {cap : Nat} (h : ByR w g l cap) : g < w.heap.size := by
 obtain ⟨cur, k, h1, _⟩ := h.row
 exact (Array.getElem?_eq_some_iff.1 h1).1
theorem ByR.on {w w' : World} {g : Nat} {l : List Nat} {cap : Nat} (h : ByR w g l cap) (hb : Below w.heap.size w w') : ByR w' g l cap := by
 have hlt := h.lt
 obtain ⟨cur, k, h1, h2⟩ := h.row
 exact ⟨⟨cur, k, (hb.block g hlt).trans h1, h2⟩, h.le, h.mx, h.b⟩
theorem ByR.by {w : World} {g : Nat} {l : List Nat} {cap : Nat} (h : ByR w g l cap) : BY w w.heap.size l (some ⟨g, 0, none⟩) cap := by
 have hlt := h.lt
 obtain ⟨cur, k, h1, _, _, h2⟩ := h.row
 refine ⟨h.le, h.mx, fun e => (by cases e), h.b, fun _ => ⟨g, 0, rfl, hlt, fun i x hx => ?_⟩⟩
 rw [Nat.zero_add]
 unfold World.cell?
 rw [h1]
 simp only []
 exact h2 i x hx
theorem nats_lt (l : List UInt8) : ∀ x ∈ nats l, x < 256 := by
 intro x hx
 unfold nats at hx
 obtain ⟨u, _, rfl⟩ := List.mem_map.1 hx
 exact u.toNat_lt
theorem nats_len (l : List UInt8) : (nats l).length = l.length := by simp [nats]
theorem conv_str (w : World) (l : List UInt8) (hl : l.length ≤ 1000000) : ∃ cap W4, (convert 9 22 (.string (strB l))).run Tryz.prog w = .ok (.slice (some ⟨w.heap.size, 0, none⟩) l.length cap) W4 ∧ ByR W4 w.heap.size (nats l) cap ∧ Below w.heap.size w W4 := by
 have h := run_bytes_of_string (P := Tryz.prog) w 9 22 5 (strB l) Tryz.underlying9 Tryz.underlying22 Tryz.underlying5
 rw [strB_size] at h
 have h1 := grownCap_ge w l.length 0 5
 have h2 := grownCap_le_maxLen w l.length 0 5 (by unfold maxLen; omega)
 generalize grownCap w l.length 0 5 = cap at *
 have hsz : (bytesRow (strB l) cap).size = cap := by
  unfold bytesRow
  simp [strB, ByteArray.size]
  omega
 refine ⟨cap, _, h, ⟨⟨_, _, heap_alloc_new w.drew _, hsz, by rw [hsz]; exact Nat.le_refl _, fun i x hx => ?_⟩, by rw [nats_len]; exact h1, h2, nats_lt l⟩, (Below.refl _ _).drew.alloc (Nat.le_refl _) _⟩
 have hi : i < (strB l).data.size := by
  have := (List.getElem?_eq_some_iff.1 hx).1
  rw [nats_len] at this
  simpa [strB] using this
 rw [bytesRow_at _ _ i hi]
 unfold nats at hx
 rw [List.getElem?_map] at hx
 have hi2 : i < l.length := by simpa [strB] using hi
 rw [List.getElem?_eq_getElem hi2] at hx
 simp at hx
 simp [strB, hx]
end Go.Proofs.YtojinnnpfjhifaaGreatDoor

namespace Go.Proofs.YtojinnnpfjhifaaGreatDoor
open Go.RowKit Go.Shelf Go.Lib Go.Maps Go.Great
theorem nm_short : ∀ x ∈ nmE, x.1.length ≤ 100 := by decide
attribute [local irreducible] NR ZNR FR nmE
def isNm (n : List UInt8) (x : NmE) : Bool := x.1 == n
def isMy (u : List Nat) (c : Nat) (x : NmE) : Bool := if c = 59 then x.1 == u8s u else decide (u.length < x.1.length) && x.1.take u.length == u8s u && (nats x.1).getD u.length 0 == c
set_option maxHeartbeats 4000000 in
set_option maxRecDepth 100000 in
theorem clo44_any (w : World) (s : List UInt8) (z : Int) (n : List UInt8) (g : Nat) (hc : Cells w g 9 #[.string ⟨n.toArray⟩]) :
  Calls Tryz.prog 129 #[.agg #[.string ⟨s.toArray⟩, .int .i32 z], .pointer (some ⟨g, 0, none⟩)] w fun e w' => e = .returned (.bool (isNm n (s, z))) ∧ Below w.heap.size w w' := by
 go_enter Tryz.func129, Tryz.ntmps129
 have q0 := hc.cell 0
 simp at q0
 have lt := hc.lt
 go_wp2_with fail
 go_ret
 exact ⟨rfl, below_new _ _⟩
theorem slice_to (s : List UInt8) (k : Nat) (hk : k ≤ s.length) (w : World) : (Instr.slice 9 (.string ⟨s.toArray⟩) none (some (.int .i64 (k : Int))) none).run Tryz.prog w = .ok (.string ⟨(s.take k).toArray⟩) w := by
 have := run_slice_string_h (P := Tryz.prog) w 9 ⟨s.toArray⟩ Tryz.underlying9 .i64 (k : Int) (by omega) (by show (k : Int) ≤ ((s.length : Nat) : Int); omega)
 rw [this]
 have e : (ByteArray.extract ⟨s.toArray⟩ 0 (k : Int).toNat) = ⟨(s.take k).toArray⟩ := by
  apply ByteArray.ext
  simp
 rw [e]
theorem index_at (s : List UInt8) (k : Nat) (hk : k < s.length) (w : World) : (Instr.index 9 (.string ⟨s.toArray⟩) (.int .i64 (k : Int))).run Tryz.prog w = .ok (.int .u8 (((nats s).getD k 0 : Nat) : Int)) w := by
 rw [run_index_string _ _ _ _ _ Tryz.underlying9, dif_pos ⟨by omega, by show (k : Int) < ((s.length : Nat) : Int); omega⟩]
 have : (nats s).getD k 0 = (s[k]'hk).toNat := by simp [nats, List.getD_eq_getElem?_getD, hk]
 rw [this]
 rfl
set_option maxHeartbeats 4000000 in
set_option maxRecDepth 100000 in
theorem clo66_any (w : World) (s : List UInt8) (z : Int) (u : List Nat) (A : Option Addr) (cap c : Nat) (g0 g1 : Nat) (h0 : Cells w g0 22 #[.slice A u.length cap]) (h1 : Cells w g1 5 #[.int .u8 (c : Int)]) (hu : BY w w.heap.size u A cap) (_hs : s.length ≤ 100) :
  Calls Tryz.prog 114 #[.agg #[.string ⟨s.toArray⟩, .int .i32 z], .pointer (some ⟨g0, 0, none⟩), .pointer (some ⟨g1, 0, none⟩)] w fun e w' => e = .returned (.bool (isMy u c (s, z))) ∧ Below w.heap.size w w' := by
 go_enter Tryz.func114, Tryz.ntmps114
 have q0 := h0.cell 0
 have q1 := h1.cell 0
 simp at q0 q1
 have lt0 := h0.lt
 have lt1 := h1.lt
 have ha := below_new w (.cells #[.string ⟨s.toArray⟩, .int .i32 z] 168)
 have hcv := conv_by (hu.on ha)
 by_cases hc : c = 59
 case pos =>
  subst hc
  go_wp2_with fail
  go_ret
  exact ⟨rfl, below_new _ _⟩
 case neg =>
  have hc1 : ¬ (c : Int) = 59 := by omega
  have hc2 : ((c : Int) == 59) = false := by simp; omega
  by_cases hl : u.length < s.length
  case neg =>
   go_wp2_with go_quiet (fail)
   go_ret
   refine ⟨?_, below_drewN (below_new _ _) _⟩
   simp [isMy, hc, hl]
  case pos =>
   have hsl := slice_to s u.length (by omega)
   have hix := index_at s u.length hl
   have hcvn := fun n => conv_by ((hu.on ha).on (below_drewN (Below.refl _ _) n))
   by_cases he : s.take u.length = u8s u
   case neg =>
    have he2 : (s.take u.length == u8s u) = false := by simp [he]
    go_wp2_with go_quiet (fail)
    go_ret
    refine ⟨?_, below_drewN (below_new _ _) _⟩
    simp [isMy, hc, hl, he]
   case pos =>
    go_wp2_with go_quiet (fail)
    go_ret
    refine ⟨?_, below_drewN (below_new _ _) _⟩
    rw [isMy, if_neg hc]
    have e3 : ((((nats s)[u.length]?.getD 0 : Nat) : Int) == (c : Int)) = ((nats s).getD u.length 0 == c) := by
     rw [List.getD_eq_getElem?_getD, Bool.eq_iff_iff]
     simp only [beq_iff_eq]
     omega
    simp only [he, hl, decide_true, beq_self_eq_true, Bool.true_and]
    exact congrArg (fun b => Ending.returned (Value.bool b)) e3
set_option maxHeartbeats 4000000 in
set_option maxRecDepth 100000 in
theorem find_any (w : World) (n : List UInt8) :
  Calls Tryz.prog 115 #[.string ⟨n.toArray⟩] w fun e w' => e = .returned (.tuple #[.int .i32 (((nmE.find? (isNm n)).map (·.2)).getD 0), .bool (nmE.find? (isNm n)).isSome]) ∧ Below w.heap.size w w' := by
 go_enter Tryz.func115, Tryz.ntmps115
 have C := find44_any ⟨w.heap.size, 0, none⟩ (isNm n) (w.alloc (.cells #[.string ⟨n.toArray⟩] 9)) (fun W hb s z _ => clo44_any W s z n _ ((cells_new w #[.string ⟨n.toArray⟩] 9).on hb))
 go_wp2_with fail
 refine C.mono ?_
 rintro r w1 ⟨rfl, hb1⟩
 have hb := (below_new w (.cells #[.string ⟨n.toArray⟩] 9)).trans (hb1.mono (by simp))
 cases hf : nmE.find? (isNm n) with
 | none =>
  simp only [findV]
  have HB := Lib.hid (And.intro hb hf)
  clear hb hb1 C hf
  go_wp2_with fail
  refine bodyPost_ret (v := .tuple #[.int .i32 0, .bool false]) ?_ rfl ⟨by rw [HB.out.2]; rfl, ?_⟩
  ·simp [results, Tryz.results115, go_sem]
  ·exact HB.out.1.trans ((below_new w1 _).mono HB.out.1.size)
 | some x =>
  obtain ⟨s, z⟩ := x
  simp only [findV, rowV]
  have HB := Lib.hid (And.intro hb hf)
  clear hb hb1 C hf
  go_wp2_with fail
  refine bodyPost_ret (v := .tuple #[.int .i32 z, .bool true]) ?_ rfl ⟨by rw [HB.out.2]; rfl, ?_⟩
  ·simp [results, Tryz.results115, go_sem]
  ·exact HB.out.1.trans ((below_new w1 _).mono HB.out.1.size)
def nmR (n : List UInt8) : Int := ((nmE.find? (isNm n)).map (·.2)).getD 0
set_option maxHeartbeats 4000000 in
set_option maxRecDepth 100000 in
theorem ofName_any (w : World) (u : List Nat) (A : Option Addr) (cap : Nat) (hu : BY w w.heap.size u A cap) :
  Calls Tryz.prog 95 #[.slice A u.length cap] w fun e w' => e = .returned (.int .i32 (nmR (u8s u))) ∧ Below w.heap.size w w' := by
 go_enter Tryz.func95, Tryz.ntmps95
 have hcv := conv_by hu
 have C := find_any w (u8s u)
 go_wp2_with fail
 refine C.mono ?_
 rintro r w1 ⟨rfl, hb1⟩
 go_wp2_with fail
 go_ret
 exact ⟨rfl, hb1⟩
set_option maxHeartbeats 4000000 in
set_option maxRecDepth 100000 in
theorem mayName_any (w : World) (u : List Nat) (A : Option Addr) (cap c : Nat) (hu : BY w w.heap.size u A cap) :
  Calls Tryz.prog 94 #[.slice A u.length cap, .int .u8 (c : Int)] w fun e w' => e = .returned (.bool (nmE.find? (isMy u c)).isSome) ∧ Below w.heap.size w w' := by
 have b1 := below_new w (.cells #[.slice A u.length cap] 22)
 have b2 := below_new (w.alloc (.cells #[.slice A u.length cap] 22)) (.cells #[.int .u8 (c : Int)] 5)
 have b3 := b1.trans (b2.mono (by simp))
 have x1 := (cells_new w #[.slice A u.length cap] 22).on b2
 have x2 := cells_new (w.alloc (.cells #[.slice A u.length cap] 22)) #[.int .u8 (c : Int)] 5
 have C := find66_any ⟨w.heap.size, 0, none⟩ ⟨w.heap.size + 1, 0, none⟩ (isMy u c) ((w.alloc (.cells #[.slice A u.length cap] 22)).alloc (.cells #[.int .u8 (c : Int)] 5)) (fun W hb s z hm =>
  clo66_any W s z u A cap c _ _ (x1.on hb) (by have := x2.on hb; simpa using this) ((hu.on b3).on hb) (nm_short _ hm))
 have HC := Lib.hid (And.intro C b3)
 clear C b1 b2 b3 x1 x2
 go_enter Tryz.func94, Tryz.ntmps94
 go_wp2_with fail
 refine HC.out.1.mono ?_
 rintro r w1 ⟨rfl, hb1⟩
 have hb := HC.out.2.trans (hb1.mono (by simp; omega))
 cases hf : nmE.find? (isMy u c) with
 | none =>
  simp only [findV]
  have HB := Lib.hid (And.intro hb hf)
  clear hb hb1 hf HC
  go_wp2_with fail
  go_ret
  exact ⟨by rw [HB.out.2]; rfl, HB.out.1.trans ((below_new w1 _).mono HB.out.1.size)⟩
 | some x =>
  obtain ⟨s, z⟩ := x
  simp only [findV, rowV]
  have HB := Lib.hid (And.intro hb hf)
  clear hb hb1 hf HC
  go_wp2_with fail
  go_ret
  exact ⟨by rw [HB.out.2]; rfl, HB.out.1.trans ((below_new w1 _).mono HB.out.1.size)⟩
end Go.Proofs.YtojinnnpfjhifaaGreatDoor



