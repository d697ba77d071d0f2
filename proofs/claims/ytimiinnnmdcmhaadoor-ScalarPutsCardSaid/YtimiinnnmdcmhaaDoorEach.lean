/-
  The iterator scalar.each: its contract: every scalar, in order; or those ahead of the round that said 'no more'.
-/
import Derived.RangeFuncNested
import Derived.RangeFuncBox
import Derived.RangeFuncLeaves
import Derived.Shelf.Abstract
import Derived.WalkKit
import Derived.OwnWalkIn
import Derived.TacticsInMore
import Derived.LoopNIn
import Derived.LoopIn
import Derived.Test.YtimiinnnmdcmhaaDoorAt
namespace Go.Proofs.YtimiinnnmdcmhaaDoor
open Go.RowKit Go.Shelf
open Go.Lib

attribute [local go_sem] Oper.semAt_some

/-- A scalar that was read: its number, its place, its size, whether it is whole. -/
abbrev Rec := Nat × Nat × Nat × Bool
def rd (n : Nat) (f : Nat → Nat) (i : Nat) : Rec := ((pc (n - i) (fun j => f (i + j))).1, i, (pc (n - i) (fun j => f (i + j))).2.1, (pc (n - i) (fun j => f (i + j))).2.2)
def rds (n : Nat) (f : Nat → Nat) : Nat → Nat → List Rec
  | 0, _ => []
  | k + 1, i => if i < n then rd n f i :: rds n f k (i + (rd n f i).2.2.1) else []
/-- All that are read from a place on. -/
def rest (n : Nat) (f : Nat → Nat) (i : Nat) : List Rec := rds n f (n - i) i
theorem rd_size (n : Nat) (f : Nat → Nat) {i : Nat} (h : i < n) : 1 ≤ (rd n f i).2.2.1 ∧ i + (rd n f i).2.2.1 ≤ n := by
  have := pc_size (n - i) (fun j => f (i + j)) (by omega)
  show 1 ≤ (pc (n - i) (fun j => f (i + j))).2.1 ∧ i + (pc (n - i) (fun j => f (i + j))).2.1 ≤ n
  omega
theorem rds_more (n : Nat) (f : Nat → Nat) : ∀ (k m i : Nat), n - i ≤ k → n - i ≤ m → rds n f k i = rds n f m i
  | 0, 0, _, _, _ => rfl
  | 0, m + 1, i, h, _ => by unfold rds; rw [if_neg (by omega)]
  | k + 1, 0, i, _, h => by unfold rds; rw [if_neg (by omega)]
  | k + 1, m + 1, i, h, h' => by
    unfold rds
    by_cases c : i < n
    · have := rd_size n f c
      rw [if_pos c, if_pos c, rds_more n f k m _ (by omega) (by omega)]
    · rw [if_neg c, if_neg c]
theorem rest_end (n : Nat) (f : Nat → Nat) {i : Nat} (h : n ≤ i) : rest n f i = [] := by
  unfold rest
  rw [show n - i = 0 from by omega]
  rfl
theorem rest_cons (n : Nat) (f : Nat → Nat) {i : Nat} (h : i < n) : rest n f i = rd n f i :: rest n f (i + (rd n f i).2.2.1) := by
  have := rd_size n f h
  unfold rest
  obtain ⟨k, hk⟩ : ∃ k, n - i = k + 1 := ⟨n - i - 1, by omega⟩
  rw [hk]
  show (if i < n then rd n f i :: rds n f k (i + (rd n f i).2.2.1) else []) = _
  rw [if_pos h, rds_more n f k (n - (i + (rd n f i).2.2.1)) _ (by omega) (by omega)]

/-- What a round that goes on keeps: whatever lay below n₀; and whatever is a scalar that was read, or a slice of bytes in a box. -/
def K78 (n₀ : Nat) (A B : World) : Prop := Below n₀ A B ∧ ∀ (g t : Nat) (cs : Array Value), (t = 78 ∨ t = 22) → A.heap[g]? = some (.cells cs t (0, 0)) → B.heap[g]? = some (.cells cs t (0, 0))
theorem K78.refl (n₀ : Nat) (A : World) : K78 n₀ A A := ⟨Below.refl _ _, fun _ _ _ _ h => h⟩
theorem K78.trans {n₀ : Nat} {A B C : World} (h : K78 n₀ A B) (h' : K78 n₀ B C) : K78 n₀ A C := ⟨h.1.trans h'.1, fun g t cs ht hg => h'.2 g t cs ht (h.2 g t cs ht hg)⟩
theorem K78.alloc {n₀ : Nat} {A B : World} (h : K78 n₀ A B) (hn : n₀ ≤ B.heap.size) (o : Obj) : K78 n₀ A (B.alloc o) :=
  ⟨h.1.alloc hn o, fun g t cs ht hg => (Below.heap_alloc B o g (Array.getElem?_eq_some_iff.1 (h.2 g t cs ht hg)).1).trans (h.2 g t cs ht hg)⟩
theorem K78.putObj {n₀ : Nat} (W : World) (l : Nat) (o o' : Obj) (hn : n₀ ≤ l) (hl : W.heap[l]? = some o) (ho : o.isCells = false) : K78 n₀ W (W.putObj l o') := by
  refine ⟨⟨rfl, rfl, rfl, by simp, fun k hk => World.putObj_heap_other (by omega)⟩, fun g t cs _ hg => ?_⟩
  have : g ≠ l := fun e => by
    subst e
    rw [hl] at hg
    cases hg
    cases ho
  exact (World.putObj_heap_other (fun e => this (by rw [e]))).trans hg
/-- A callee that makes blocks alone. -/
theorem K78.of_below {n₀ : Nat} {A B C : World} (h : K78 n₀ A B) (hn : n₀ ≤ B.heap.size) (hb : Below B.heap.size B C) : K78 n₀ A C :=
  ⟨h.1.trans (hb.mono hn), fun g t cs ht hg => (hb.block g (Array.getElem?_eq_some_iff.1 (h.2 g t cs ht hg)).1).trans (h.2 g t cs ht hg)⟩

theorem grown_of_below {A B : World} (h : Below A.heap.size A B) : A.grownBy B none := ⟨h.os, h.tape, h.output, h.size, fun k hk _ => h.block k hk⟩

/-- A slice of bytes that came in: where it has bytes, they lie below B. -/
def Sl (w : World) (B : Nat) (A : Option Addr) (n cap : Nat) (f : Nat → Nat) : Prop := n ≤ cap ∧ cap ≤ maxLen ∧ (0 < n → ∃ b off, A = some ⟨b, off, none⟩ ∧ b < B ∧ Bs w b off n f)
theorem Sl.below {w w' : World} {B : Nat} {A : Option Addr} {n cap : Nat} {f : Nat → Nat} (h : Sl w B A n cap f) (hb : Below B w w') : Sl w' B A n cap f :=
  ⟨h.1, h.2.1, fun hn => by obtain ⟨b, off, rfl, hlt, hB⟩ := h.2.2 hn; exact ⟨b, off, rfl, hlt, hB.below hb hlt⟩⟩

def encR (x : Rec) : Array Value := #[.agg #[.int .i32 x.1, .int .i64 x.2.1, .int .i64 x.2.2.1, .bool x.2.2.2]]

set_option maxRecDepth 100000 in
set_option maxHeartbeats 2000000 in
theorem each1_in (n : Nat) (l Bn n₀ len cap : Nat) (A : Option Addr) (f : Nat → Nat) (J Jx : List Rec → World → Prop) (hJ : ∀ s X Y, J s X → X.grownBy Y none → J s Y)
    (hY : ∀ pre x W, J pre W → pre.length < (rest len f 0).length → YieldAt Fence.wide (n - 1) Tryd.prog l (encR x) W fun e W' =>
      (e = .returned (.bool true) ∧ J (pre ++ [x]) W' ∧ K78 n₀ W W') ∨ (e = .returned (.bool false) ∧ Jx (pre ++ [x]) W'))
    (W : World) (hn₀ : n₀ ≤ W.heap.size) (h2 : 2 ≤ n₀) (hBn : Boxed W Bn 22 (.slice A len cap)) (hT : Tabs W) (hS : Sl W n₀ A len cap f) (h0 : J [] W) :
    CallsIn Fence.wide n Tryd.prog 76 #[.func (.yield l) #[] #[], .pointer (some ⟨Bn, 0, none⟩)] W fun e W' => (∃ v, e = .returned v) ∧
      ((∃ ys, ys = rest len f 0 ∧ J ys W') ∨ (∃ pre, pre <+: rest len f 0 ∧ Jx pre W')) := by
  have HJ := Lib.hid hJ
  have HS := Lib.hid hS
  have HT := Lib.hid hT
  have HY := Lib.hid hY
  clear hS hT hJ hY
  refine callsIn_of_wp Tryd.func76 rfl trivial ?_ rfl
  simp only [Tryd.ntmps76, List.size_toArray, List.length_cons, List.length_nil, Nat.reduceAdd, Nat.reduceSub, Array.replicate_succ, Array.replicate_zero, List.push_toArray, List.append_toArray, List.nil_append, List.cons_append]
  gi_wp2
  gi_loopw [3] (fun s wr => ∃ (i : Nat) (pre : List Rec), s = .int .i64 i ∧ i ≤ len ∧ rest len f 0 = pre ++ rest len f i ∧ J pre wr ∧ Below n₀ W wr ∧ Boxed wr Bn 22 (.slice A len cap)) (fun s _ => len - (RowKit.intOf s).toNat)
  case atStart => exact ⟨0, [], rfl, Nat.zero_le _, rfl, h0, Below.refl _ _, hBn⟩
  case round =>
    obtain ⟨i, pre, rfl, hi, hr, hJs, hb, hbx⟩ := hrel
    have hbox := hbx.cell
    have HX := Lib.hid hbx
    clear hbx
    have HR := Lib.hid hr
    clear hr
    by_cases hlt : i < len
    · obtain ⟨b, off, rfl, hbl, hBs⟩ := (HS.out.below hb).2.2 (by omega)
      have C := dec_any b off len cap i f wr (HT.out.below hb h2) hBs hlt HS.out.1 HS.out.2.1
      have hq : rest len f 0 = pre ++ [rd len f i] ++ rest len f (i + (rd len f i).2.2.1) := by rw [HR.out, rest_cons len f hlt, List.append_assoc]; rfl
      have hsz := rd_size len f hlt
      have hrd : pc (len - i) (fun j => f (i + j)) = ((rd len f i).1, (rd len f i).2.2.1, (rd len f i).2.2.2) := rfl
      rw [hrd] at C
      have hri : (rd len f i).2.1 = i := rfl
      generalize rd len f i = x at *
      obtain ⟨R, i', S, Wh⟩ := x
      have hri' : i' = i := hri
      subst hri'
      have HQ := Lib.hid hq
      have C := Lib.hid C
      have i1 : (i' : Int) < (len : Int) := by omega
      clear hq hrd hri hBs
      have hm := HS.out.2.1
      have hc := HS.out.1
      unfold maxLen at hm
      gi_wp2_with fail
      refine ⟨trivial, (fun h => by cases h), ?_⟩
      refine (callsIn_wide.2 C.out).mono ?_
      rintro e w1 ⟨rfl, hb1⟩
      have hs0 := hb.size
      have hs1 := hb1.size
      have hJ1 := HJ.out pre _ _ hJs (grown_of_below hb1)
      have hJ2 := HJ.out pre _ _ hJ1 (World.grownBy_alloc w1 (.cells #[.int .i32 R, .int .i64 i', .int .i64 S, .bool Wh] 78) none)
      obtain ⟨fn, tmps, assign, body, hy, hR⟩ := HY.out pre (R, i', S, Wh) _ hJ2 (by rw [HQ.out]; simp)
      dsimp only [encR] at hy
      have hk0 : K78 n₀ wr (w1.alloc (.cells #[.int .i32 R, .int .i64 i', .int .i64 S, .bool Wh] 78)) := ((K78.refl n₀ wr).of_below (by omega) hb1).alloc (by omega) _
      have hx0 : (w1.alloc (.cells #[.int .i32 R, .int .i64 i', .int .i64 S, .bool Wh] 78)).heap[w1.heap.size]? = some (.cells #[.int .i32 R, .int .i64 i', .int .i64 S, .bool Wh] 78 (0, 0)) := World.alloc_heap_new w1 _
      clear hJ1 hJ2 hJs
      gi_wp2
      refine ⟨fun h => (by cases h), hR.mono ?_⟩
      rintro e W3 (⟨rfl, hJ3, hk3⟩ | ⟨rfl, hJx3⟩)
      · have hx3 : W3.cell? ⟨w1.heap.size, 2, none⟩ = some (.int .i64 S) := by
          have := hk3.2 _ _ _ (.inl rfl) hx0
          simp [World.cell?, this]
        have S1 : (i' : Int) + (S : Int) ≤ (len : Int) := by omega
        have S0 : (0 : Int) ≤ (S : Int) := by omega
        gi_wp2
        go_roundw
        case rel => exact ⟨i' + S, pre ++ [(R, i', S, Wh)], by go_num, hsz.2, HQ.out, hJ3, hb.trans (hk0.trans hk3).1, (hk0.trans hk3).2 _ _ _ (.inr rfl) HX.out⟩
        case measure => simp [RowKit.intOf]; omega
      · gi_wp2
        refine bodyPost_ret (results_none rfl _ _ _) rfl ?_
        exact ⟨⟨_, rfl⟩, .inr ⟨_, ⟨_, HQ.out.symm⟩, hJx3⟩⟩
    · have e : rest len f i = [] := rest_end len f (by omega)
      have hq : rest len f 0 = pre := by rw [HR.out, e, List.append_nil]
      have HQ := Lib.hid hq
      have i1 : (len : Int) ≤ (i : Int) := by omega
      clear e hq
      gi_wp2
      go_end0
      exact ⟨⟨_, rfl⟩, .inl ⟨_, HQ.out.symm, hJs⟩⟩

set_option maxHeartbeats 1000000 in
/-- scalar.each: the slice is boxed; the function value captures the box. -/
theorem each_in (n : Nat) (A : Option Addr) (len cap : Nat) (w : World) :
    CallsIn Fence.wide n Tryd.prog 55 #[.slice A len cap] w fun e w' => e = .returned (.func (.func 76) #[] #[.pointer (some ⟨w.heap.size, 0, none⟩)]) ∧ w' = w.alloc (.cells #[.slice A len cap] 22) := by
  refine callsIn_of_wp Tryd.func55 rfl trivial ?_ rfl
  simp only [Tryd.ntmps55, List.size_toArray, List.length_cons, List.length_nil, Nat.reduceAdd, Nat.reduceSub, Array.replicate_succ, Array.replicate_zero, List.push_toArray, List.append_toArray, List.nil_append, List.cons_append]
  gi_wp2
  go_ret
  exact ⟨rfl, rfl⟩

/-- WHAT each HANDS BACK. -/
theorem each_stops (n : Nat) (Bn n₀ len cap : Nat) (A : Option Addr) (f : Nat → Nat) (w : World) (hn₀ : n₀ ≤ w.heap.size) (h2 : 2 ≤ n₀) (hBn : Boxed w Bn 22 (.slice A len cap))
    (hT : Tabs w) (hS : Sl w n₀ A len cap f) :
    SeqStopsK Fence.wide n Tryd.prog 76 #[.pointer (some ⟨Bn, 0, none⟩)] encR (K78 n₀) (fun ys => ys = rest len f 0) (fun pre => pre <+: rest len f 0) (rest len f 0).length w := fun l J Jx W hW hJ _ hY h0 =>
  each1_in n l Bn n₀ len cap A f J Jx (fun s X Y h hg => hJ s X Y none h hg (fun r e => by cases e)) hY W (Nat.le_trans hn₀ hW.size) h2 ((hW.block Bn hBn.lt).trans hBn)
    (hT.below hW (Nat.le_trans h2 hn₀)) (hS.below (hW.mono hn₀)) h0
end Go.Proofs.YtimiinnnmdcmhaaDoor
